/- Facts and contracts that the walks of this layer use, merged: F13Own5, F13Own6, F13Ref2, F13Ref4. -/
import Derived.Test.YtiodkllckcpinaaGreatDoorM14AN
import Derived.Test.YtiodkllckcpinaaGreatDoorM14AM
import Derived.Test.YtiodkllckcpinaaGreatDoorM14AC
import Derived.Test.YtiodkllckcpinaaGreatDoorM14AB
import Derived.Test.YtiodkllckcpinaaGreatDoorM14AJ
import Derived.Test.YtiodkllckcpinaaGreatDoorM14AE
import Derived.Test.YtiodkllckcpinaaGreatDoorM14AG
import Derived.Test.YtiodkllckcpinaaGreatDoorF13Ref1
import Derived.Test.YtiodkllckcpinaaGreatDoorM14AF
import Derived.Deep.RegionHeld3
import Derived.Test.YtiodkllckcpinaaGreatDoorM14AV
import Derived.Test.YtiodkllckcpinaaGreatDoorM14AW
import Derived.Test.YtiodkllckcpinaaGreatDoorM14AK
set_option linter.unusedVariables false
set_option linter.unusedSimpArgs false
set_option maxRecDepth 100000
namespace Go.Proofs.YtiodkllckcpinaaGreatDoor
namespace F13
open Go.RowKit Mem

def WdM (M W : ByteArray) : Prop := ∃ t, G7.IsEnc 8 (G7.el M) t ∧ W = G7.str (G7.el M ++ t)
theorem WdM.size {M W : ByteArray} (h : WdM M W) (hM : M.size = 44) : W.size = 52 := by
 obtain ⟨t, h1, rfl⟩ := h
 rw [G7.size_str, List.length_append, G7.el_len, hM, h1.1]
def StE (M : ByteArray) : Nat → ByteArray → Prop
 | 0, s => s = M
 | 1, s => WdM M s
 | 2, s => ∃ W, WdM M W ∧ s = C9.sb (bitsOf W)
 | 3, s => ∃ W, WdM M W ∧ s = C9.sb (C9.enc (bitsOf W))
 | 4, s => ∃ W, WdM M W ∧ s = bodyC W
 | _, s => ∃ W, WdM M W ∧ s = M12.mkB ++ bodyC W
def StepE (M : ByteArray) (k : Nat) (w : World) (e : Ending) (w' : World) : Prop := ∃ s, StE M (k + 1) s ∧ e = .returned (.tuple #[.string s, .int .i64 0]) ∧ Below w.heap.size w w'
theorem stepE0 {M s : ByteArray} (w : World) (hM : M.size = 44) (h : StE M 0 s) : Calls Tryz.prog 35 #[.string s] w (StepE M 0 w) := by
 have h : s = M := h
 subst h
 have cE := Lib.hid (fun W => G7.enc_own s 8 W (by decide) (by decide) (by omega))
 have hgo : ∀ w' t, G7.IsEnc 8 (G7.el s) t → Below w.heap.size w w' → StepE s 0 w (.returned (.tuple #[.string (G7.str (G7.el s ++ t)), .int .i64 0])) w' := fun w' t h hb => ⟨_, ⟨t, h, rfl⟩, rfl, hb⟩
 replace hgo := Lib.hid hgo
 obtain ⟨P, hP⟩ : ∃ P, StepE s 0 w = P := ⟨_, rfl⟩
 rw [hP] at hgo ⊢
 show Calls _ _ _ _ (fun e w' => P e w')
 clear hP
 go_enter Tryz.func35, Tryz.ntmps35
 go_wp2_with fail
 refine (cE.out _).mono ?_
 rintro e w1 ⟨t, ht, rfl, hb⟩
 go_wp2
 first | go_ret2 | skip
 exact hgo.out _ t ht hb
theorem stepE1 {M s : ByteArray} (w : World) (hM : M.size = 44) (h : StE M 1 s) : Calls Tryz.prog 37 #[.string s] w (StepE M 1 w) := by
 have hs := WdM.size h hM
 have cF := fun W' => C1.fromBytes_any s W' (by omega)
 rw [← sb_bitsOf s] at cF
 have hgo : ∀ w', Below w.heap.size w w' → StepE M 1 w (.returned (.tuple #[.string (C9.sb (bitsOf s)), .int .i64 0])) w' := fun w' hb => ⟨_, ⟨s, h, rfl⟩, rfl, hb⟩
 obtain ⟨S, hS⟩ : ∃ S, C9.sb (bitsOf s) = S := ⟨_, rfl⟩
 rw [hS] at cF hgo
 replace hgo := Lib.hid hgo
 replace cF := Lib.hid cF
 obtain ⟨P, hP⟩ : ∃ P, StepE M 1 w = P := ⟨_, rfl⟩
 rw [hP] at hgo ⊢
 show Calls _ _ _ _ (fun e w' => P e w')
 clear hP hS h hs
 go_enter Tryz.func37, Tryz.ntmps37
 go_wp2_with fail
 refine (cF.out _).mono ?_
 rintro e w1 ⟨rfl, hb⟩
 go_wp2
 first | go_ret2 | skip
 exact hgo.out _ hb
theorem stepE2 {M s : ByteArray} (w : World) (hM : M.size = 44) (h : StE M 2 s) : Calls Tryz.prog 39 #[.string s] w (StepE M 2 w) := by
 obtain ⟨W, hW, rfl⟩ := h
 have hs := WdM.size hW hM
 have hbl : (bitsOf W).length = 416 := by rw [bitsOf_len, hs]
 refine (C9.encode_good (bitsOf W) w (by omega)).mono ?_
 rintro e w' ⟨rfl, hb⟩
 exact ⟨_, ⟨W, hW, rfl⟩, rfl, hb⟩
theorem stepE3 {M s : ByteArray} (w : World) (hM : M.size = 44) (h : StE M 3 s) : Calls Tryz.prog 40 #[.string s] w (StepE M 3 w) := by
 obtain ⟨W, hW, rfl⟩ := h
 have hs := WdM.size hW hM
 have hes : (C9.sb (C9.enc (bitsOf W))).size = 836 := by rw [C9.sb_size, encL W hs]
 have cI := fun W' => I11.il_own (C9.sb (C9.enc (bitsOf W))) 8 W' (by omega) (by decide) (by decide)
 have hiS : I11.iS (C9.sb (C9.enc (bitsOf W))) 8 = bodyC W := rfl
 unfold I11.Iled at cI
 rw [hiS, show I11.pE 8 = 0 from rfl] at cI
 have hgo : ∀ w', Below w.heap.size w w' → StepE M 3 w (.returned (.tuple #[.string (bodyC W), .int .i64 0])) w' := fun w' hb => ⟨_, ⟨W, hW, rfl⟩, rfl, hb⟩
 obtain ⟨S, hS⟩ : ∃ S, bodyC W = S := ⟨_, rfl⟩
 obtain ⟨s, hss⟩ : ∃ S, C9.sb (C9.enc (bitsOf W)) = S := ⟨_, rfl⟩
 rw [hS] at cI hgo
 rw [hss] at cI ⊢
 replace hgo := Lib.hid hgo
 replace cI := Lib.hid cI
 obtain ⟨P, hP⟩ : ∃ P, StepE M 3 w = P := ⟨_, rfl⟩
 rw [hP] at hgo ⊢
 show Calls _ _ _ _ (fun e w' => P e w')
 clear hP hS hss hes hiS
 go_enter Tryz.func40, Tryz.ntmps40
 go_wp2_with fail
 refine (cI.out _).mono ?_
 rintro e w1 ⟨rfl, hb⟩
 go_wp2
 first | go_ret2 | skip
 exact hgo.out _ hb
theorem stepE4 {M s : ByteArray} (w : World) (hM : M.size = 44) (h : StE M 4 s) : Calls Tryz.prog 42 #[.string s] w (StepE M 4 w) := by
 obtain ⟨W, hW, rfl⟩ := h
 have hbo := bodyC_size (WdM.size hW hM)
 have hgo : ∀ w', Below w.heap.size w w' → StepE M 4 w (.returned (.tuple #[.string (M12.mkB ++ bodyC W), .int .i64 0])) w' := fun w' hb => ⟨_, ⟨W, hW, rfl⟩, rfl, hb⟩
 have cK := fun W' => M12.mark_any W'
 have hmk : M12.mkB.size = 16 := rfl
 obtain ⟨K, hK⟩ : ∃ K, M12.mkB = K := ⟨_, rfl⟩
 obtain ⟨B, hB⟩ : ∃ K, bodyC W = K := ⟨_, rfl⟩
 rw [hK] at cK hgo hmk
 rw [hB] at hgo hbo ⊢
 replace hgo := Lib.hid hgo
 replace cK := Lib.hid cK
 have s1 : (K.size : Int) ≤ 16 := by omega
 have s2 : (B.size : Int) ≤ 836 := by omega
 have s3 : ¬ 9223372036854775807 < K.size + B.size := by omega
 obtain ⟨P, hP⟩ : ∃ P, StepE M 4 w = P := ⟨_, rfl⟩
 rw [hP] at hgo ⊢
 show Calls _ _ _ _ (fun e w' => P e w')
 clear hP hK hB hbo hmk
 go_enter Tryz.func42, Tryz.ntmps42
 go_wp2_with fail
 refine (cK.out _).mono ?_
 rintro e w1 ⟨rfl, rfl⟩
 go_wp2
 first | go_ret2 | skip
 exact hgo.out _ (Below.refl _ _)
def stepsE : List Value := [.func (.func 35) #[] #[], .func (.func 37) #[] #[], .func (.func 39) #[] #[], .func (.func 40) #[] #[], .func (.func 42) #[] #[]]
set_option maxHeartbeats 8000000 in
theorem applyE {M : ByteArray} {A : Nat} (w : World) (hM : M.size = 44) (hA : VAt w A stepsE) (hs : A < w.heap.size) : Calls Tryz.prog 34 #[.string M, .slice (some ⟨A, 0, none⟩) 5 5] w (StepE M 4 w) := by
 have r0 : ∀ W, Below w.heap.size w W → W.cell? ⟨A, 0, none⟩ = some (.func (.func 35) #[] #[]) := fun W h => ((hA.below h hs) 0 (show 0 < 5 by decide)).1
 have r1 : ∀ W, Below w.heap.size w W → W.cell? ⟨A, 1, none⟩ = some (.func (.func 37) #[] #[]) := fun W h => ((hA.below h hs) 1 (show 1 < 5 by decide)).1
 have r2 : ∀ W, Below w.heap.size w W → W.cell? ⟨A, 2, none⟩ = some (.func (.func 39) #[] #[]) := fun W h => ((hA.below h hs) 2 (show 2 < 5 by decide)).1
 have r3 : ∀ W, Below w.heap.size w W → W.cell? ⟨A, 3, none⟩ = some (.func (.func 40) #[] #[]) := fun W h => ((hA.below h hs) 3 (show 3 < 5 by decide)).1
 have r4 : ∀ W, Below w.heap.size w W → W.cell? ⟨A, 4, none⟩ = some (.func (.func 42) #[] #[]) := fun W h => ((hA.below h hs) 4 (show 4 < 5 by decide)).1
 replace r0 := Lib.hid r0
 replace r1 := Lib.hid r1
 replace r2 := Lib.hid r2
 replace r3 := Lib.hid r3
 replace r4 := Lib.hid r4
 have c0 := Lib.hid (fun s W h => stepE0 (M := M) (s := s) W hM h)
 have c1 := Lib.hid (fun s W h => stepE1 (M := M) (s := s) W hM h)
 have c2 := Lib.hid (fun s W h => stepE2 (M := M) (s := s) W hM h)
 have c3 := Lib.hid (fun s W h => stepE3 (M := M) (s := s) W hM h)
 have c4 := Lib.hid (fun s W h => stepE4 (M := M) (s := s) W hM h)
 have hgo : ∀ s w', StE M 5 s → Below w.heap.size w w' → StepE M 4 w (.returned (.tuple #[.string s, .int .i64 0])) w' := fun s w' h hb => ⟨s, h, rfl, hb⟩
 replace hgo := Lib.hid hgo
 obtain ⟨P, hP⟩ : ∃ P, StepE M 4 w = P := ⟨_, rfl⟩
 rw [hP] at hgo ⊢
 show Calls _ _ _ _ (fun e w' => P e w')
 clear hP hA hs
 go_enter Tryz.func34, Tryz.ntmps34
 go_wp2
 go_loopw [0, 11] (fun sv iv wr => ∃ (k : Nat) (s : ByteArray), k ≤ 5 ∧ iv = .int .i64 (k : Int) ∧ sv = .string s ∧ Hid (StE M k s) ∧ Hid (Below w.heap.size w wr)) (fun _ iv _ => 5 - (intOf iv).toNat)
 case atStart => exact ⟨0, M, by decide, rfl, rfl, Lib.hid rfl, Lib.hid (Below.refl _ _)⟩
 case round =>
  obtain ⟨k, s, hk, rfl, rfl, hst, hb⟩ := hrel
  rcases k with _ | _ | _ | _ | _ | k
  ·have l0 := r0.out wr hb.out
   have cS := Lib.hid (c0.out s wr hst.out)
   go_wp2_with fail
   refine cS.out.mono ?_
   rintro e w1 ⟨s', hs', rfl, hb1⟩
   replace hs' := Lib.hid hs'
   have hb2 := Lib.hid (chain hb.out hb1)
   clear hst hb l0 hb1 cS
   go_wp2
   go_roundw
   case rel => exact ⟨1, s', by decide, by go_num, rfl, hs', hb2⟩
   case measure => simp [intOf]
  ·have l0 := r1.out wr hb.out
   have cS := Lib.hid (c1.out s wr hst.out)
   go_wp2_with fail
   refine cS.out.mono ?_
   rintro e w1 ⟨s', hs', rfl, hb1⟩
   replace hs' := Lib.hid hs'
   have hb2 := Lib.hid (chain hb.out hb1)
   clear hst hb l0 hb1 cS
   go_wp2
   go_roundw
   case rel => exact ⟨2, s', by decide, by go_num, rfl, hs', hb2⟩
   case measure => simp [intOf]
  ·have l0 := r2.out wr hb.out
   have cS := Lib.hid (c2.out s wr hst.out)
   go_wp2_with fail
   refine cS.out.mono ?_
   rintro e w1 ⟨s', hs', rfl, hb1⟩
   replace hs' := Lib.hid hs'
   have hb2 := Lib.hid (chain hb.out hb1)
   clear hst hb l0 hb1 cS
   go_wp2
   go_roundw
   case rel => exact ⟨3, s', by decide, by go_num, rfl, hs', hb2⟩
   case measure => simp [intOf]
  ·have l0 := r3.out wr hb.out
   have cS := Lib.hid (c3.out s wr hst.out)
   go_wp2_with fail
   refine cS.out.mono ?_
   rintro e w1 ⟨s', hs', rfl, hb1⟩
   replace hs' := Lib.hid hs'
   have hb2 := Lib.hid (chain hb.out hb1)
   clear hst hb l0 hb1 cS
   go_wp2
   go_roundw
   case rel => exact ⟨4, s', by decide, by go_num, rfl, hs', hb2⟩
   case measure => simp [intOf]
  ·have l0 := r4.out wr hb.out
   have cS := Lib.hid (c4.out s wr hst.out)
   go_wp2_with fail
   refine cS.out.mono ?_
   rintro e w1 ⟨s', hs', rfl, hb1⟩
   replace hs' := Lib.hid hs'
   have hb2 := Lib.hid (chain hb.out hb1)
   clear hst hb l0 hb1 cS
   go_wp2
   go_roundw
   case rel => exact ⟨5, s', by decide, by go_num, rfl, hs', hb2⟩
   case measure => simp [intOf]
  ·obtain rfl : k = 0 := by omega
   have hf := Lib.hid (hgo.out s wr hst.out hb.out)
   clear hst hb hgo
   go_wp2
   first | go_ret2 | skip
   exact hf.out
end F13
namespace F13
open Go.RowKit Mem

set_option maxHeartbeats 4000000 in
theorem encode_own (f : Fr) (w : World) (hf : Fit f) : Calls Tryz.prog 21 #[f.val] w (EncP f w) := by
 have hb0 : Below w.heap.size w (w.alloc (.cells f.cells 44)) := (Below.refl _ _).alloc (Nat.le_refl _) _
 have cM := Lib.hid (fun W => marshal_own f W hf)
 by_cases h0 : ckE f = 0
 ·have hv := (valid_iff f).1 h0
  rw [mS_ok h0, h0] at cM
  have hms : (⟨(msgL f).toArray⟩ : ByteArray).size = 44 := msgL_len hv
  have hgoal : ∀ w' s, StE ⟨(msgL f).toArray⟩ 5 s → Below w.heap.size w w' → EncP f w (.returned (.tuple #[.string s, .int .i64 0])) w' := fun w' s h hb =>
   ⟨s, ⟨fun _ => h, fun h => absurd h0 h⟩, by rw [h0], hb⟩
  obtain ⟨M, hM⟩ : ∃ M, (⟨(msgL f).toArray⟩ : ByteArray) = M := ⟨_, rfl⟩
  rw [hM] at cM hms hgoal
  replace hgoal := Lib.hid hgoal
  have hmsh := Lib.hid hms
  obtain ⟨P, hP⟩ : ∃ P, EncP f w = P := ⟨_, rfl⟩
  rw [hP] at hgoal ⊢
  show Calls _ _ _ _ (fun e w' => P e w')
  obtain ⟨kind, reel, sess, idx, len, data, spare, arch, pay⟩ := f
  unfold Fr.val at *
  unfold Fr.cells at *
  dsimp only at *
  clear h0 hM hms hv hP hf
  go_enter Tryz.func21, Tryz.ntmps21
  go_wp2_with fail
  refine (cM.out _).mono ?_
  rintro e w1 ⟨rfl, hB⟩
  replace hB := chain hb0 hB
  have hA := vat_alloc w1 106 stepsE
  have hB2 := hB.alloc hB.size (.cells stepsE.toArray 106)
  obtain ⟨W2, hW2⟩ : ∃ W, w1.alloc (.cells stepsE.toArray 106) = W := ⟨_, rfl⟩
  have hs : w1.heap.size < W2.heap.size := by rw [← hW2]; simp
  rw [hW2] at hA hB2
  unfold stepsE at hW2
  have cA := Lib.hid (applyE W2 hmsh.out hA hs)
  replace hB2 := Lib.hid hB2
  clear hb0 cM hA hs hB
  go_wp2_with fail
  refine cA.out.mono ?_
  rintro e w3 ⟨s, hst, rfl, hb3⟩
  have hfin := Lib.hid (hgoal.out w3 s hst (chain hB2.out hb3))
  clear hst hgoal hb3 cA
  go_wp2
  first | go_ret2 | skip
  exact hfin.out
 ·rw [mS_no h0] at cM
  have hgoal : ∀ w', Below w.heap.size w w' → EncP f w (.returned (.tuple #[.string ⟨#[]⟩, .int .i64 (ckE f)])) w' := fun w' h => ⟨⟨#[]⟩, ⟨fun h => absurd h h0, fun _ => rfl⟩, rfl, h⟩
  obtain ⟨k, hk⟩ : ∃ k, ckE f = k := ⟨_, rfl⟩
  rw [hk] at cM h0 hgoal
  have d1 : (k != 0) = true := bne_iff_ne.2 h0
  replace hgoal := Lib.hid hgoal
  replace cM := Lib.hid cM.out
  obtain ⟨P, hP⟩ : ∃ P, EncP f w = P := ⟨_, rfl⟩
  rw [hP] at hgoal ⊢
  show Calls _ _ _ _ (fun e w' => P e w')
  obtain ⟨kind, reel, sess, idx, len, data, spare, arch, pay⟩ := f
  unfold Fr.val at *
  unfold Fr.cells at *
  dsimp only at *
  clear hk h0 hf hP
  go_enter Tryz.func21, Tryz.ntmps21
  go_wp2_with fail
  refine (cM.out _).mono ?_
  rintro e w1 ⟨rfl, hB⟩
  go_wp2
  first | go_ret2 | skip
  exact hgoal.out _ (chain hb0 hB)
end F13
namespace F13
open Go.RowKit Mem

structure HdFacts (f : Fr) (s1 s2 i1 i2 ly : Int) : Prop where
 q1 : f.sess.tdiv 256 = s1
 q1' : f.sess / 256 = s1
 q2 : f.sess.tmod 256 = s2
 q2' : f.sess % 256 = s2
 q3 : f.idx.tdiv 256 = i1
 q3' : f.idx / 256 = i1
 q4 : f.idx.tmod 256 = i2
 q4' : f.idx % 256 = i2
 q5 : 16 * f.data + f.spare = ly
 b0 : 0 ≤ f.kind ∧ f.kind ≤ 255
 b1 : 0 ≤ f.reel ∧ f.reel ≤ 255
 b2 : 0 ≤ s1 ∧ s1 ≤ 255
 b3 : 0 ≤ s2 ∧ s2 ≤ 255
 b4 : 0 ≤ i1 ∧ i1 ≤ 255
 b5 : 0 ≤ i2 ∧ i2 ≤ 255
 b6 : 0 ≤ f.len ∧ f.len ≤ 255
 b7 : 0 ≤ ly ∧ ly ≤ 255
 cells : ∀ v : List Value, v = bys (K3.byL f.arch) → [.int .u8 f.kind, .int .u8 f.reel, .int .u8 s1, .int .u8 s2, .int .u8 i1, .int .u8 i2, .int .u8 f.len, .int .u8 ly] ++ v = bys (hdL f)
theorem hdFacts {f : Fr} (h : Valid f) : ∃ s1 s2 i1 i2 ly, HdFacts f s1 s2 i1 i2 ly := by
 have h1 := h.kind
 have h2 := h.data
 have h3 := h.spare
 have h4 := h.reel
 have h5 := h.sess
 have h6 := h.idx
 have h7 := h.len
 refine ⟨f.sess / 256, f.sess % 256, f.idx / 256, f.idx % 256, 16 * f.data + f.spare, ?_⟩
 refine ⟨Int.tdiv_eq_ediv_of_nonneg (by omega), rfl, Int.tmod_eq_emod_of_nonneg (by omega), rfl, Int.tdiv_eq_ediv_of_nonneg (by omega), rfl, Int.tmod_eq_emod_of_nonneg (by omega), rfl, rfl, by omega, by omega, by omega, by omega, by omega, by omega, by omega, by omega, ?_⟩
 rintro v rfl
 unfold hdL
 rw [bys_append]
 congr 1
 unfold bys
 simp only [List.map_cons, List.map_nil]
 rw [u8_val (by omega) (by omega), u8_val (by omega) (by omega), u8_val (by omega) (by omega), u8_val (by omega) (by omega), u8_val (by omega) (by omega), u8_val (by omega) (by omega), u8_val (by omega) (by omega), u8_val (by omega) (by omega)]
set_option maxHeartbeats 4000000 in
theorem rheader_any (f : Fr) (w : World) (h : Valid f) :
  Calls Tryz.prog 89 #[f.val] w fun e w' => e = .returned (.string ⟨(hdL f).toArray⟩) ∧ Below w.heap.size w w' := by
 obtain ⟨s1, s2, i1, i2, ly, hF⟩ := hdFacts h
 have hc := hF.cells _ (K3.byL_cells f.arch)
 obtain ⟨l, hl⟩ : ∃ l, hdL f = l := ⟨_, rfl⟩
 have hll : l.length = 12 := by rw [← hl]; rfl
 rw [hl] at hc ⊢
 obtain ⟨q1, q1', q2, q2', q3, q3', q4, q4', q5, b0, b1, b2, b3, b4, b5, b6, b7, _⟩ := hF
 obtain ⟨kind, reel, sess, idx, len, data, spare, arch, pay⟩ := f
 have hx := arch.isLt
 have hd := h.data
 have hsp := h.spare
 have hse := h.sess
 have hid := h.idx
 dsimp only at *
 obtain ⟨X, hX⟩ : ∃ X, arch.toNat = X := ⟨_, rfl⟩
 rw [hX] at hx hc
 have hconv := K3.conv_made (P := Tryz.prog) (w.alloc (.cells (Fr.mk kind reel sess idx len data spare arch pay).cells 44)) (src := 53) (dst := 9) (e := 5) (n := 12) (l := l) hll Tryz.underlying53 Tryz.underlying5 Tryz.underlying9 (show (#[.int .u8 kind, .int .u8 reel, .int .u8 s1, .int .u8 s2, .int .u8 i1, .int .u8 i2, .int .u8 len, .int .u8 ly, .int .u8 ((X : Int) / 16777216), .int .u8 ((X : Int) / 65536 % 256), .int .u8 ((X : Int) / 256 % 256), .int .u8 ((X : Int) % 256)] : Array Value).toList = bys l from hc)
 unfold Fr.val
 unfold Fr.cells at hconv ⊢
 dsimp only at hconv ⊢
 rw [hX] at hconv ⊢
 simp only [World.size_alloc] at hconv
 have hx1 : (X : Int) < 4294967296 := by omega
 have hx0 : (0 : Int) ≤ (X : Int) := by omega
 clear hc hl hll h hX
 go_enter Tryz.func89, Tryz.ntmps89
 go_wp2
 go_ret
 exact ⟨rfl, two_made w _ _⟩
theorem rsum1 (s : ByteArray) (w : World) (hs : s.size ≤ 1000000) :
  Calls Tryz.prog 91 #[.slice (some ⟨w.heap.size, 0, none⟩) 1 1] (w.alloc (.cells #[.string s] 9)) fun e w' => e = .returned (.int .u32 ((K3.sumL s.data.toList).toNat : Int)) ∧ Below w.heap.size w w' := by
 have h := K3.rsum_any (some ⟨w.heap.size, 0, none⟩) 1 [s.data.toList] _ (by simpa using hs) (by simp) (by simp) (by decide) (rd_one w 9 s)
 rw [show K3.joinL [s.data.toList] = s.data.toList by simp [K3.joinL]] at h
 exact h.mono fun e w' ⟨a, b⟩ => ⟨a, b ▸ (Below.refl _ _).alloc (Nat.le_refl _) _⟩
theorem rsum1d (s : ByteArray) (w : World) (hs : s.size ≤ 1000000) :
  Calls Tryz.prog 91 #[.slice (some ⟨w.heap.size, 0, none⟩) 1 1] (w.alloc (.cells #[.string s] 9)).drew fun e w' => e = .returned (.int .u32 ((K3.sumL s.data.toList).toNat : Int)) ∧ Below w.heap.size w w' := by
 have h := K3.rsum_any (some ⟨w.heap.size, 0, none⟩) 1 [s.data.toList] (w.alloc (.cells #[.string s] 9)).drew (by simpa using hs) (by simp) (by simp) (by decide) (rd_one w 9 s).drew
 rw [show K3.joinL [s.data.toList] = s.data.toList by simp [K3.joinL]] at h
 exact h.mono fun e w' ⟨a, b⟩ => ⟨a, b ▸ ((Below.refl _ _).alloc (Nat.le_refl _) _).drew⟩
set_option maxHeartbeats 4000000 in
theorem rmarshal_any (f : Fr) (w : World) (hp : f.pay.size ≤ 9223372036854775807) :
  Calls Tryz.prog 48 #[f.val] w fun e w' => e = .returned (.tuple #[.string (mS f), .int .i64 (ckE f)]) ∧ Below w.heap.size w w' := by
 have cC := Lib.hid (fun W => rcheck_any f W (by omega))
 have hb0 : Below w.heap.size w (w.alloc (.cells f.cells 44)) := (Below.refl _ _).alloc (Nat.le_refl _) _
 by_cases h0 : ckE f = 0
 ·rw [mS_ok h0]
  rw [h0] at cC ⊢
  have hv := (valid_iff f).1 h0
  have cH := fun W => rheader_any f W hv
  obtain ⟨hd, hhd⟩ : ∃ hd, (⟨(hdL f).toArray⟩ : ByteArray) = hd := ⟨_, rfl⟩
  rw [hhd] at cH
  replace cH := Lib.hid cH
  have hds : hd.size = 12 := by rw [← hhd]; rfl
  have hbl : (hd ++ f.pay).data.toList = bodyL f := by rw [app_list, ← hhd]; rfl
  have hbs : (hd ++ f.pay).size = 40 := by rw [← bodyL_len hv, ← hbl]; simp
  have cS := fun W => rsum1 (hd ++ f.pay) W (by omega)
  have cB := fun W => K3.rbytes_any (K3.sumL (bodyL f)) W
  rw [hbl] at cS
  have hms : (hd ++ f.pay) ++ (⟨(K3.byL (K3.sumL (bodyL f))).toArray⟩ : ByteArray) = ⟨(msgL f).toArray⟩ := str_eq (by rw [app_list, hbl]; rfl)
  have hcs : (⟨(K3.byL (K3.sumL (bodyL f))).toArray⟩ : ByteArray).size = 4 := rfl
  obtain ⟨Q, hQ⟩ : ∃ Q, (⟨(K3.byL (K3.sumL (bodyL f))).toArray⟩ : ByteArray) = Q := ⟨_, rfl⟩
  obtain ⟨M, hM⟩ : ∃ M, (⟨(msgL f).toArray⟩ : ByteArray) = M := ⟨_, rfl⟩
  obtain ⟨K, hK⟩ : ∃ K, K3.sumL (bodyL f) = K := ⟨_, rfl⟩
  rw [hK] at cS cB hQ hms hcs
  rw [hQ] at cB hms hcs
  rw [hM] at hms ⊢
  replace cS := Lib.hid cS
  replace cB := Lib.hid cB
  obtain ⟨B, hB⟩ : ∃ B, hd ++ f.pay = B := ⟨_, rfl⟩
  rw [hB] at cS hms hbs
  have hsp := hv.size
  have s1 : (hd.size : Int) ≤ 12 := by omega
  have s2 : (f.pay.size : Int) ≤ 28 := by omega
  have s3 : (B.size : Int) ≤ 40 := by omega
  have s5 : ¬ 9223372036854775807 < hd.size + f.pay.size := by omega
  have s6 : ¬ 9223372036854775807 < B.size + Q.size := by omega
  have s4 : (Q.size : Int) ≤ 4 := by omega
  clear hQ hM hK hbl hds hbs hcs h0 hhd hp hv hsp
  have hbox := fun (i : Nat) (v : Value) (h : f.cells[i]? = some v) => (show (w.alloc (.cells f.cells 44)).cell? ⟨w.heap.size, i, none⟩ = some v by rw [World.cell?_alloc_new]; exact h)
  have hsz0 : w.heap.size < (w.alloc (.cells f.cells 44)).heap.size := by simp
  obtain ⟨kind, reel, sess, idx, len, data, spare, arch, pay⟩ := f
  unfold Fr.val at *
  dsimp only at *
  unfold Fr.cells at *
  dsimp only at *
  go_enter Tryz.func48, Tryz.ntmps48
  go_wp2_with fail
  refine (cC.out _).mono ?_
  rintro e w1 ⟨rfl, hb1⟩
  have cell := fun (i : Nat) (v : Value) h (W : World) (k : Below w1.heap.size w1 W) => (k.cell (p := ⟨w.heap.size, i, none⟩) (Nat.lt_of_lt_of_le hsz0 hb1.size)).trans ((hb1.cell (p := ⟨w.heap.size, i, none⟩) hsz0).trans (hbox i v h))
  have l0 := cell 0 _ rfl
  have l1 := cell 1 _ rfl
  have l2 := cell 2 _ rfl
  have l3 := cell 3 _ rfl
  have l4 := cell 4 _ rfl
  have l5 := cell 5 _ rfl
  have l6 := cell 6 _ rfl
  have l7 := cell 7 _ rfl
  have l8 := cell 8 _ rfl
  have hbw := chain hb0 hb1
  have keep0 := Below.refl w1.heap.size w1
  have keep1 : ∀ W, Below w1.heap.size w1 W → Below w1.heap.size w1 (World.drew W) := fun W h => chainN h 1
  clear cell hbox hsz0 hb1 hb0
  go_wp2_with fail
  go_region_held3 (fun W => Below w1.heap.size w1 W) (first | exact keep0 | exact keep1 _ keep0 | exact chain ‹_› ‹_› | assumption) (first | (go_at_call 89; (with_reducible refine (cH.out _).mono ?_); rintro e w9 ⟨rfl, hb9⟩))
  go_wp2_with fail
  refine (cS.out _).mono ?_
  rintro e w2 ⟨rfl, hb2⟩
  go_wp2_with fail
  refine (cB.out _).mono ?_
  rintro e w3 ⟨rfl, hb3⟩
  go_wp2
  go_ret2
  exact ⟨rfl, chain hbw (chain (by assumption) (chain hb2 hb3))⟩
 ·rw [mS_no h0]
  obtain ⟨k, hk⟩ : ∃ k, ckE f = k := ⟨_, rfl⟩
  rw [hk] at cC h0 ⊢
  have d1 : (k != 0) = true := bne_iff_ne.2 h0
  obtain ⟨kind, reel, sess, idx, len, data, spare, arch, pay⟩ := f
  unfold Fr.val Fr.cells at *
  dsimp only at *
  clear hk h0 hp
  go_enter Tryz.func48, Tryz.ntmps48
  go_wp2_with fail
  refine (cC.out _).mono ?_
  rintro e w1 ⟨rfl, hB⟩
  go_wp2
  go_ret2
  exact ⟨rfl, chain hb0 hB⟩
end F13
namespace F13
open Go.RowKit Mem

set_option maxHeartbeats 4000000 in
theorem rencode_any (f : Fr) (w : World) (hp : f.pay.size ≤ 9223372036854775807) : Calls Tryz.prog 25 #[f.val] w (EncP f w) := by
 have hb0 : Below w.heap.size w (w.alloc (.cells f.cells 44)) := (Below.refl _ _).alloc (Nat.le_refl _) _
 have cM := Lib.hid (fun W => rmarshal_any f W hp)
 by_cases h0 : ckE f = 0
 ·have hv := (valid_iff f).1 h0
  rw [mS_ok h0, h0] at cM
  have hms : (⟨(msgL f).toArray⟩ : ByteArray).size = 44 := msgL_len hv
  obtain ⟨M, hM⟩ : ∃ M, (⟨(msgL f).toArray⟩ : ByteArray) = M := ⟨_, rfl⟩
  rw [hM] at cM hms
  have cE := fun W => G7.renc_any M 8 W (by decide) (by decide) (by omega)
  have hgoal : ∀ w' S t, G7.IsEnc 8 (G7.el M) t → S = M12.mkB ++ bodyC (G7.str (G7.el M ++ t)) → Below w.heap.size w w' → EncP f w (.returned (.tuple #[.string S, .int .i64 0])) w' := fun w' S t h1 h2 h3 =>
   ⟨S, ⟨fun _ => ⟨_, ⟨t, by rw [hM]; exact h1, rfl⟩, by rw [hM]; exact h2⟩, fun h => absurd h0 h⟩, by rw [h0], h3⟩
  replace hgoal := Lib.hid hgoal
  replace cM := Lib.hid cM.out
  replace cE := Lib.hid cE
  have hmel : (G7.el M).length = 44 := by rw [G7.el_len, hms]
  obtain ⟨P, hP⟩ : ∃ P, EncP f w = P := ⟨_, rfl⟩
  rw [hP] at hgoal ⊢
  show Calls _ _ _ _ (fun e w' => P e w')
  obtain ⟨kind, reel, sess, idx, len, data, spare, arch, pay⟩ := f
  unfold Fr.val at *
  dsimp only at *
  unfold Fr.cells at *
  dsimp only at *
  clear h0 hM hms hv hP hp
  go_enter Tryz.func25, Tryz.ntmps25
  go_wp2_with fail
  refine (cM.out _).mono ?_
  rintro e w1 ⟨rfl, hB⟩
  replace hB := chain hb0 hB
  clear hb0 cM
  go_wp2_with fail
  refine (cE.out _).mono ?_
  rintro e w2 ⟨t, ht, rfl, hb⟩
  replace hB := chain hB hb
  obtain ⟨W, hW⟩ : ∃ W, G7.str (G7.el M ++ t) = W := ⟨_, rfl⟩
  have hWs : W.size = 52 := by rw [← hW, G7.size_str, List.length_append, hmel, ht.1]
  have hgo := fun w' S (h : S = M12.mkB ++ bodyC W) (hb : Below w.heap.size w w') => hgoal.out w' S t ht (by rw [hW]; exact h) hb
  replace hgo := Lib.hid hgo
  rw [hW]
  have cF := fun W' => C1.rfromBytes_any W W' (by omega)
  rw [← sb_bitsOf W] at cF
  have hbl : (bitsOf W).length = 416 := by rw [bitsOf_len, hWs]
  have hbs : (C9.sb (bitsOf W)).size = 416 := by rw [C9.sb_size, hbl]
  have cC := fun W' => (C9.rencode_any (C9.sb (bitsOf W)) W' (by omega)).mono fun e w' h => C9.enco_good h (by omega)
  have hes : (C9.sb (C9.enc (bitsOf W))).size = 836 := by rw [C9.sb_size, encL W hWs]
  have cI := fun W' => I11.rinter_any (C9.sb (C9.enc (bitsOf W))) 8 W' (by omega) (by decide)
  have hiS : I11.iS (C9.sb (C9.enc (bitsOf W))) 8 = bodyC W := rfl
  unfold I11.Iled at cI
  rw [hiS] at cI
  have hbo := bodyC_size hWs
  obtain ⟨B, hBo⟩ : ∃ B, bodyC W = B := ⟨_, rfl⟩
  rw [hBo] at hgo cI hbo
  obtain ⟨b1, hb1⟩ : ∃ b, C9.sb (bitsOf W) = b := ⟨_, rfl⟩
  obtain ⟨b2, hb2⟩ : ∃ b, C9.sb (C9.enc (bitsOf W)) = b := ⟨_, rfl⟩
  rw [hb1] at cF cC
  rw [hb2] at cC cI
  have hpE : I11.pE 8 = 0 := rfl
  rw [hpE] at cI
  have cK := fun W' => M12.rmark_any W'
  have hmk : M12.mkB.size = 16 := rfl
  obtain ⟨K, hK⟩ : ∃ K, M12.mkB = K := ⟨_, rfl⟩
  rw [hK] at hgo cK hmk
  replace cF := Lib.hid cF
  replace cC := Lib.hid cC
  replace cI := Lib.hid cI
  replace cK := Lib.hid cK
  have s1 : (K.size : Int) ≤ 16 := by omega
  have s2 : (B.size : Int) ≤ 836 := by omega
  have s3 : ¬ 9223372036854775807 < K.size + B.size := by omega
  clear hb ht hW hWs hbl hbs hes hiS hbo hBo hb1 hb2 hmk hK hgoal hmel hpE cE
  go_wp2_with fail
  refine (cF.out _).mono ?_
  rintro e w3 ⟨rfl, hb⟩
  replace hB := chain hB hb
  clear hb
  go_wp2_with fail
  refine (cC.out _).mono ?_
  rintro e w4 ⟨rfl, hb⟩
  replace hB := chain hB hb
  clear hb
  go_wp2_with fail
  refine (cI.out _).mono ?_
  rintro e w5 ⟨rfl, hb⟩
  replace hB := chain hB hb
  clear hb
  go_wp2_with (go_at_call 53; refine (cK.out _).mono ?_; rintro e w6 ⟨rfl, rfl⟩)
  first | go_ret2 | skip
  exact hgo.out _ _ rfl hB
 ·rw [mS_no h0] at cM
  have hgoal : ∀ w', Below w.heap.size w w' → EncP f w (.returned (.tuple #[.string ⟨#[]⟩, .int .i64 (ckE f)])) w' := fun w' h => ⟨⟨#[]⟩, ⟨fun h => absurd h h0, fun _ => rfl⟩, rfl, h⟩
  obtain ⟨k, hk⟩ : ∃ k, ckE f = k := ⟨_, rfl⟩
  rw [hk] at cM h0 hgoal
  have d1 : (k != 0) = true := bne_iff_ne.2 h0
  replace hgoal := Lib.hid hgoal
  replace cM := Lib.hid cM.out
  obtain ⟨P, hP⟩ : ∃ P, EncP f w = P := ⟨_, rfl⟩
  rw [hP] at hgoal ⊢
  show Calls _ _ _ _ (fun e w' => P e w')
  obtain ⟨kind, reel, sess, idx, len, data, spare, arch, pay⟩ := f
  unfold Fr.val at *
  dsimp only at *
  unfold Fr.cells at *
  dsimp only at *
  clear hk h0 hp hP
  go_enter Tryz.func25, Tryz.ntmps25
  go_wp2_with fail
  refine (cM.out _).mono ?_
  rintro e w1 ⟨rfl, hB⟩
  go_wp2
  first | go_ret2 | skip
  exact hgoal.out _ (chain hb0 hB)
end F13
end Go.Proofs.YtiodkllckcpinaaGreatDoor
