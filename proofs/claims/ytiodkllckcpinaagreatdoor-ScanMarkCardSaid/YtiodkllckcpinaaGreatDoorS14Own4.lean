/- The contract of the landed Join of layer 14. -/
import Derived.Test.YtiodkllckcpinaaGreatDoorM14AU
import Derived.Test.YtiodkllckcpinaaGreatDoorM14AX
import Derived.Test.YtiodkllckcpinaaGreatDoorM14AA
import Derived.Lib.OthersKept
set_option linter.unusedVariables false
set_option linter.unusedSimpArgs false
set_option maxRecDepth 100000
namespace Go.Proofs.YtiodkllckcpinaaGreatDoor
namespace S14
open Go.RowKit Go.Shelf Mem F13 Bld

theorem fitOf {f : Fr} (h : FitB f) : Fit f := ⟨(Lit.wf_int_iff .i64 _).1 h.kind, (Lit.wf_int_iff .i64 _).1 h.reel, (Lit.wf_int_iff .i64 _).1 h.sess, (Lit.wf_int_iff .i64 _).1 h.idx, (Lit.wf_int_iff .i64 _).1 h.len, (Lit.wf_int_iff .i64 _).1 h.data, (Lit.wf_int_iff .i64 _).1 h.spare, by have := h.size; unfold maxLen at this; omega⟩
def JoP (fs : List Fr) (w : World) (e : Ending) (w' : World) : Prop := ∃ (S : ByteArray) (k : Int), JoinQ fs S k ∧ e = .returned (.tuple #[.string S, .int .i64 k]) ∧ Below w.heap.size w w'
set_option maxHeartbeats 16000000 in
theorem join_own (fs : List Fr) (A : Option Addr) (cap : Nat) (w : World) (hfs : IsFrames w A fs.length cap fs) (hn : fs.length ≤ 1000) : Calls Tryz.prog 19 #[.slice A fs.length cap] w (JoP fs w) := by
 have hgoal : ∀ (S : ByteArray) (k : Int) (w' : World), JoinQ fs S k → Below w.heap.size w w' → JoP fs w (.returned (.tuple #[.string S, .int .i64 k])) w' := fun S k w' h hb => ⟨S, k, h, rfl, hb⟩
 have hget := fun (k : Nat) (hk : k < fs.length) => hfs.get hk
 have hfit : ∀ (k : Nat) (hk : k < fs.length), Fit fs[k] := fun k hk => fitOf (hfs.fit _ (List.getElem_mem hk))
 have hstart := JoinTo.start fs
 have hstep := fun (k : Nat) (acc : List UInt8) (h : JoinTo fs k acc) (hk : k < fs.length) (S : ByteArray) (he : EncQ fs[k] S) h0 => h.step hk he h0
 have hbad := fun (k : Nat) (acc : List UInt8) (h : JoinTo fs k acc) (hk : k < fs.length) h0 => h.bad hk h0
 have hdone := fun (acc : List UInt8) (h : JoinTo fs fs.length acc) => h.done (Nat.le_refl _)
 have hlen := fun (k : Nat) (acc : List UInt8) (h : JoinTo fs k acc) => h.len
 obtain ⟨P, hP⟩ : ∃ P, JoP fs w = P := ⟨_, rfl⟩
 rw [hP] at hgoal ⊢
 replace hgoal := Lib.hid hgoal
 replace hget := Lib.hid hget
 replace hfit := Lib.hid hfit
 replace hstart := Lib.hid hstart
 replace hstep := Lib.hid hstep
 replace hbad := Lib.hid hbad
 replace hdone := Lib.hid hdone
 replace hlen := Lib.hid hlen
 replace hn := Lib.hid hn
 clear hP hfs
 have hf0 := Lib.fresh_isBuilder 74 5 w
 have hB0 : Below w.heap.size w (w.alloc (.cells #[.pointer none, .slice none 0 0] 74)) := (Below.refl _ w).alloc (Nat.le_refl _) _
 show Calls _ _ _ _ (fun e w' => P e w')
 go_enter Tryz.func19, Tryz.ntmps19
 go_wp2
 go_loopw [11] (fun iv wr => ∃ (k : Nat) (acc : List UInt8), iv = .int .i64 (k : Int) ∧ k ≤ fs.length ∧ Hid (JoinTo fs k acc) ∧ Lib.IsBuilder 74 5 w.heap.size w.heap.size (Lib.byteCells acc) wr ∧ Below w.heap.size w wr) (fun iv _ => fs.length - (intOf iv).toNat)
 case atStart => exact ⟨0, [], rfl, Nat.zero_le _, hstart, hf0, hB0⟩
 case round =>
  clear hf0 hB0 hstart
  obtain ⟨k, acc, rfl, hk, hJ, hI, hB⟩ := hrel
  by_cases hlt : k < fs.length
  ·obtain ⟨b, o, rfl, hbs, hce⟩ := hget.out k hlt
   have cE := fun W => encode_own fs[k] W (hfit.out k hlt)
   have hst := fun S he h0 => hstep.out k acc hJ.out hlt S he h0
   have hbd := fun h0 => hbad.out k acc hJ.out hlt h0
   obtain ⟨f, hf⟩ : ∃ f, fs[k] = f := ⟨_, rfl⟩
   rw [hf] at hce cE hst hbd
   obtain ⟨g0, g1, g2, g3, g4, g5, g6, g7, g8⟩ := hce.below hB hbs
   have dk : decide ((k : Int) < (fs.length : Int)) = true := decide_eq_true (by omega)
   have dk' : decide (k < fs.length) = true := decide_eq_true hlt
   have k0 : (0 : Int) ≤ (k : Int) := by omega
   have k1 : (k : Int) < (fs.length : Int) := by omega
   have kk : (k : Int) ≤ 1000 := by have := hn.out; omega
   unfold EncP at cE
   replace cE := Lib.hid cE
   replace hst := Lib.hid hst
   replace hbd := Lib.hid hbd
   have hal := Lib.hid (hlen.out k acc hJ.out)
   clear hce hf hstep hbad hget hfit
   obtain ⟨kind, reel, sess, idx, len, data, spare, arch, pay⟩ := f
   unfold Fr.val Fr.cells at cE
   dsimp only at cE g0 g1 g2 g3 g4 g5 g6 g7 g8
   go_wp2_with fail
   refine (cE.out _).mono ?_
   rintro e w2 ⟨S, hS, rfl, hb2⟩
   have hal2 : Below wr.heap.size wr (wr.alloc (.cells #[.int .i64 kind, .int .i64 reel, .int .i64 sess, .int .i64 idx, .int .i64 len, .int .i64 data, .int .i64 spare, .int .u32 (arch.toNat : Int), .string pay] 44)) := (Below.refl _ _).alloc (Nat.le_refl _) _
   have hb3 := chain hal2 hb2
   have hI2 := builder_below hI hb3
   have hB2 := hB.trans (hb3.mono hB.size)
   obtain ⟨q, hq⟩ : ∃ q, ckE (Fr.mk kind reel sess idx len data spare arch pay) = q := ⟨_, rfl⟩
   rw [hq] at hst hbd ⊢
   clear cE g0 g1 g2 g3 g4 g5 g6 g7 g8 hI hB hal2 hb2 hb3
   by_cases h0 : q = 0
   ·subst h0
    obtain ⟨hJ2, hSs⟩ := hst.out S hS rfl
    have hl : (Lib.byteCells acc).length + S.size ≤ 140737488355328 := by
     have := hal.out
     have := hn.out
     rw [Lib.byteCells_length]
     omega
    have cW := Lib.hid (write_any w.heap.size w.heap.size (Lib.byteCells acc) S w2 hI2 hl hB2.size)
    have hcat : Lib.byteCells acc ++ Lib.strCells S = Lib.byteCells (acc ++ S.data.toList) := by
     rw [Lib.byteCells_append]
     rfl
    rw [hcat] at cW
    have hI3 := Lib.hid hI2
    replace hJ2 := Lib.hid hJ2
    clear hl hcat hq hst hbd hS hSs hI2
    go_wp2_with (go_at_call 31; refine (cW.out).mono ?_; rintro e w3 ⟨rfl, hI4, hb4, _⟩)
    go_roundw
    case rel => exact ⟨k + 1, acc ++ S.data.toList, by go_num, by omega, hJ2, hI4, hB2.trans hb4⟩
    case measure => simp [intOf]; omega
   ·have hJ2 := Lib.hid (hbd.out h0)
    have hfin := Lib.hid (hgoal.out _ _ w2 hJ2.out hB2)
    have d1 : (q != 0) = true := bne_iff_ne.2 h0
    clear hst hbd hS hgoal hJ2 hB2 hI2 hq h0
    go_wp2
    first | go_ret2 | skip
    exact hfin.out
  ·obtain rfl : k = fs.length := by omega
   have dk : decide ((fs.length : Int) < (fs.length : Int)) = false := decide_eq_false (by omega)
   have dk' : decide (fs.length < fs.length) = false := decide_eq_false (by omega)
   have cS := Lib.hid (Tryz.Builder_String_any_k w.heap.size w.heap.size acc wr (Lib.IsBuilderF.of hI) hB.size)
   have hfin := Lib.hid (fun w' hb => hgoal.out _ _ w' (hdone.out acc hJ.out) hb)
   have hBh := Lib.hid hB
   clear hgoal hdone hJ hI hB hget hfit hstep hbad hlen
   go_wp2_with fail
   refine cS.out.mono ?_
   rintro e w2 ⟨rfl, _, hb2, _⟩
   have hf := Lib.hid (hfin.out w2 (hBh.out.trans hb2))
   clear hfin hBh hb2 cS
   go_wp2
   first | go_ret2 | skip
   exact hf.out
end S14
end Go.Proofs.YtiodkllckcpinaaGreatDoor
