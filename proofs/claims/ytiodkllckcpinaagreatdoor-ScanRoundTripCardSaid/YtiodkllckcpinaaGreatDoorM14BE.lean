/- Facts and contracts that the walks of this layer use, merged: S14Ref3, S14Ref5, S14Ref2. -/
import Derived.Test.YtiodkllckcpinaaGreatDoorM14AU
import Derived.Test.YtiodkllckcpinaaGreatDoorF13Ref5
import Derived.Test.YtiodkllckcpinaaGreatDoorM14AX
import Derived.Lib.Hide
import Derived.BigQuiet
import Derived.Deep.QuietTactic
import Derived.WalkSpells
import Derived.WalkLawsBesides
set_option linter.unusedVariables false
set_option linter.unusedSimpArgs false
set_option maxRecDepth 100000
namespace Go.Proofs.YtiodkllckcpinaaGreatDoor
namespace S14
open Go.RowKit Mem F13

def BuP (w : World) (e : Ending) (w' : World) : Prop := (∃ z : Int, (z = 0 ∨ z = 1) ∧ e = .returned (.int .i64 z)) ∧ Below w.heap.size w w'
set_option maxHeartbeats 16000000 in
theorem rbusy_any (cs : List ByteArray) (A : Option Addr) (cap : Nat) (w : World) (hn : cs.length ≤ 10) (hcs : ∀ c ∈ cs, c.size ≤ 1000000) (hrd : Rd w A (cs.map Value.string)) :
  Calls Tryz.prog 13 #[.slice A cs.length cap, .int .i64 10] w (BuP w) := by
 have hgoal : ∀ (z : Int) (w' : World), (z = 0 ∨ z = 1) → Below w.heap.size w w' → BuP w (.returned (.int .i64 z)) w' := fun z w' h1 h2 => ⟨⟨z, h1, rfl⟩, h2⟩
 have hone : ∀ k (h : k < cs.length), (cs[k]).size ≤ 1000000 := fun k h => hcs _ (List.getElem_mem h)
 have hread : ∀ k (h : k < cs.length), ∃ b o : Nat, A = some ⟨b, o, none⟩ ∧ b < w.heap.size ∧ w.cell? ⟨b, o + k, none⟩ = some (.string cs[k]) := fun k h => by
  obtain ⟨b, o, e, hb, hc⟩ := hrd k (by simpa using h)
  exact ⟨b, o, e, hb, by rw [hc]; simp⟩
 obtain ⟨P, hP⟩ : ∃ P, BuP w = P := ⟨_, rfl⟩
 rw [hP] at hgoal ⊢
 have g0 := Lib.hid (fun w' hb => hgoal 0 w' (.inl rfl) hb)
 have g1 := Lib.hid (fun w' hb => hgoal 1 w' (.inr rfl) hb)
 replace hone := Lib.hid hone
 replace hread := Lib.hid hread
 replace hn := Lib.hid hn
 clear hP hcs hrd hgoal
 show Calls _ _ _ _ (fun e w' => P e w')
 go_enter Tryz.func13, Tryz.ntmps13
 go_wp2
 go_loopw [5, 6] (fun mv kv wr => ∃ (k m : Nat), kv = .int .i64 (k : Int) ∧ mv = .int .i64 (m : Int) ∧ k ≤ cs.length ∧ m ≤ 10 ∧ Below w.heap.size w wr) (fun _ kv _ => cs.length - (intOf kv).toNat)
 case atStart => exact ⟨0, 0, rfl, rfl, Nat.zero_le _, by omega, Below.refl _ _⟩
 case round =>
  obtain ⟨k, m, rfl, rfl, hk, hm, hB⟩ := hrel
  by_cases hlt : k < cs.length
  ·obtain ⟨b, o, rfl, hbs, hce⟩ := hread.out k hlt
   have hcc := (hB.cell (p := ⟨b, o + k, none⟩) hbs).trans hce
   have hck := hone.out k hlt
   obtain ⟨c, hc⟩ : ∃ c, cs[k] = c := ⟨_, rfl⟩
   rw [hc] at hcc hck
   have cC := Lib.hid (fun (i : Nat) (W : World) (h : i + 16 ≤ c.size) => rcandidate_any c i W hck h)
   have cB := Lib.hid (fun (i : Nat) (W : World) (h : i + 16 ≤ c.size) => rbody_any c i W hck h)
   have cD := Lib.hid (fun (i : Nat) (W : World) (h : i + 16 ≤ c.size) => rdecode_any (bodyAt c i) W (by have := bodyAt_le h; omega))
   have dk : decide ((k : Int) < (cs.length : Int)) = true := decide_eq_true (by omega)
   have dk' : decide (k < cs.length) = true := decide_eq_true hlt
   have k0 : (0 : Int) ≤ (k : Int) := by omega
   have k1 : (k : Int) < (cs.length : Int) := by omega
   have kk : (k : Int) ≤ 10 := by have := hn.out; omega
   have c6 : (c.size : Int) ≤ 1000000 := by omega
   replace hck := Lib.hid hck
   replace hm := Lib.hid hm
   replace hlt := Lib.hid hlt
   clear hc hce hk
   go_wp2
   go_loopw [5, 8] (fun mv iv wr => ∃ (i m : Nat), iv = .int .i64 (i : Int) ∧ mv = .int .i64 (m : Int) ∧ i ≤ c.size + 852 ∧ m ≤ 10 ∧ Below w.heap.size w wr) (fun _ iv _ => c.size + 853 - (intOf iv).toNat)
   case atStart => exact ⟨0, m, rfl, rfl, Nat.zero_le _, hm.out, hB⟩
   case round =>
    clear hB hm hcc
    obtain ⟨i, m, rfl, rfl, hib, hm, hB⟩ := hrel
    obtain ⟨I, hI⟩ : ∃ I : Nat, I = i + 16 := ⟨_, rfl⟩
    have i1 : (i : Int) + 16 = (I : Int) := by omega
    have i2 : (I : Int) ≤ 1000900 := by have := hck.out; omega
    have i3 : (i : Int) ≤ 1000852 := by have := hck.out; omega
    by_cases hs : I ≤ c.size
    ·have d1 : decide ((I : Int) ≤ (c.size : Int)) = true := decide_eq_true (by omega)
     have d1' : decide (I ≤ c.size) = true := decide_eq_true hs
     have cC1 := fun W => cC.out i W (by omega)
     have cB1 := fun W => cB.out i W (by omega)
     have cD1 := fun W => cD.out i W (by omega)
     obtain ⟨Bd, hBd⟩ : ∃ B, bodyAt c i = B := ⟨_, rfl⟩
     rw [hBd] at cB1 cD1
     unfold DcP at cD1
     obtain ⟨p, hp⟩ : ∃ p : Nat, p = i + 1 := ⟨_, rfl⟩
     obtain ⟨r, hr⟩ : ∃ r : Nat, r = i + 852 := ⟨_, rfl⟩
     obtain ⟨q, hq⟩ : ∃ q : Nat, q = m + 1 := ⟨_, rfl⟩
     have p1 : (i : Int) + 1 = (p : Int) := by omega
     have r1 : (i : Int) + 852 = (r : Int) := by omega
     have q1 : (m : Int) + 1 = (q : Int) := by omega
     have q2 : (q : Int) ≤ 11 := by omega
     have m1 : (m : Int) ≤ 10 := by omega
     have hp2 := Lib.hid (show p ≤ c.size + 852 by omega)
     have hr2 := Lib.hid (show r ≤ c.size + 852 by omega)
     have hp3 := Lib.hid (show i < p ∧ i < c.size by omega)
     have hr3 := Lib.hid (show i < r ∧ i < c.size by omega)
     have hq3 := Lib.hid hq
     replace cB1 := Lib.hid cB1
     replace cD1 := Lib.hid cD1
     replace hm := Lib.hid hm
     rcases hcd : candB c i with _ | _
     ·rw [hcd] at cC1
      replace cC1 := Lib.hid cC1
      clear cB1 cD1 hcd hI hp hr hs hib hBd hq
      go_wp2_with fail
      refine (cC1.out _).mono ?_
      rintro e w1 ⟨rfl, rfl⟩
      go_wp2
      go_roundw
      case rel => exact ⟨p, m, rfl, rfl, hp2.out, hm.out, hB⟩
      case measure => have := hp3.out; simp [intOf]; omega
     ·rw [hcd] at cC1
      replace cC1 := Lib.hid cC1
      clear hcd hI hp hr hs hib hBd hq
      go_wp2_with fail
      refine (cC1.out _).mono ?_
      rintro e w1 ⟨rfl, rfl⟩
      go_wp2_with fail
      refine (cB1.out _).mono ?_
      rintro e w1 ⟨rfl, rfl⟩
      go_wp2_with fail
      refine (cD1.out _).mono ?_
      rintro e w2 ⟨F, d, u, n, kz, hQ, rfl, hb2⟩
      have hB2 := hB.trans (hb2.mono hB.size)
      have hal := fun (W : World) => two_made w2 (.cells F.cells 44) (.cells #[.int .i64 d, .int .i64 u, .int .i64 n] 46)
      have hB3 := hB2.trans ((two_made w2 (.cells F.cells 44) (.cells #[.int .i64 d, .int .i64 u, .int .i64 n] 46)).mono hB2.size)
      clear cC1 cB1 cD1 hQ hb2 hB hB2 hal
      obtain ⟨kind, reel, sess, idx, len, data, spare, arch, pay⟩ := F
      unfold Fr.cells at hB3
      unfold Fr.val Fr.cells qV
      dsimp only at hB3 ⊢
      by_cases hk : kz = 0
      ·subst hk
       go_wp2
       go_roundw
       case rel => exact ⟨r, m, rfl, rfl, hr2.out, hm.out, hB3⟩
       case measure => have := hr3.out; simp [intOf]; omega
      ·have d4 : (kz == 0) = false := beq_eq_false_iff_ne.2 hk
       by_cases hq10 : q ≤ 10
       ·have d5 : decide ((10 : Int) < (q : Int)) = false := decide_eq_false (by omega)
        have d5' : decide (10 < q) = false := decide_eq_false (by omega)
        clear hk
        go_wp2
        go_roundw
        case rel => exact ⟨p, q, rfl, rfl, hp2.out, hq10, hB3⟩
        case measure => have := hp3.out; simp [intOf]; omega
       ·have d5 : decide ((10 : Int) < (q : Int)) = true := decide_eq_true (by omega)
        have d5' : decide (10 < q) = true := decide_eq_true (by omega)
        have hfin := Lib.hid (g1.out _ hB3)
        clear hk hB3
        go_wp2
        first | go_ret | skip
        exact hfin.out
    ·have d1 : decide ((I : Int) ≤ (c.size : Int)) = false := decide_eq_false (by omega)
     have d1' : decide (I ≤ c.size) = false := decide_eq_false hs
     clear hI hs hib
     go_wp2
     go_roundw
     case rel => exact ⟨k + 1, m, by go_num, rfl, by have := hlt.out; omega, hm, hB⟩
     case measure => have := hlt.out; simp [intOf]; omega
  ·obtain rfl : k = cs.length := by omega
   have dk : decide ((cs.length : Int) < (cs.length : Int)) = false := decide_eq_false (by omega)
   have dk' : decide (cs.length < cs.length) = false := decide_eq_false (by omega)
   have hfin := Lib.hid (g0.out wr hB)
   clear g0 g1 hB hread hone hlt
   go_wp2
   first | go_ret | skip
   exact hfin.out
def JoP' (fs : List Fr) (w : World) (e : Ending) (w' : World) : Prop := ∃ (S : ByteArray) (k : Int), JoinQ fs S k ∧ e = .returned (.tuple #[.string S, .int .i64 k]) ∧ Below w.heap.size w w'
set_option maxHeartbeats 16000000 in
theorem rjoin_any (fs : List Fr) (A : Option Addr) (cap : Nat) (w : World) (hfs : IsFrames w A fs.length cap fs) (hn : fs.length ≤ 1000) : Calls Tryz.prog 20 #[.slice A fs.length cap] w (JoP' fs w) := by
 have hgoal : ∀ (S : ByteArray) (k : Int) (w' : World), JoinQ fs S k → Below w.heap.size w w' → JoP' fs w (.returned (.tuple #[.string S, .int .i64 k])) w' := fun S k w' h hb => ⟨S, k, h, rfl, hb⟩
 have hget := fun (k : Nat) (hk : k < fs.length) => hfs.get hk
 have hfit : ∀ (k : Nat) (hk : k < fs.length), (fs[k]).pay.size ≤ 9223372036854775807 := fun k hk => (hfs.fit _ (List.getElem_mem hk)).size
 have hstart := JoinTo.start fs
 have hstep := fun (k : Nat) (acc : List UInt8) (h : JoinTo fs k acc) (hk : k < fs.length) (S : ByteArray) (he : EncQ fs[k] S) h0 => h.step hk he h0
 have hbad := fun (k : Nat) (acc : List UInt8) (h : JoinTo fs k acc) (hk : k < fs.length) h0 => h.bad hk h0
 have hdone := fun (acc : List UInt8) (h : JoinTo fs fs.length acc) => h.done (Nat.le_refl _)
 have hlen := fun (k : Nat) (acc : List UInt8) (h : JoinTo fs k acc) => h.len
 obtain ⟨P, hP⟩ : ∃ P, JoP' fs w = P := ⟨_, rfl⟩
 rw [hP] at hgoal ⊢
 replace hgoal := Lib.hid hgoal
 replace hget := Lib.hid hget
 replace hfit := Lib.hid hfit
 replace hstart := Lib.hid hstart
 replace hstep := Lib.hid hstep
 replace hbad := Lib.hid hbad
 replace hdone := Lib.hid hdone
 replace hlen := Lib.hid hlen
 replace hn := Lib.hid hn
 clear hP hfs
 show Calls _ _ _ _ (fun e w' => P e w')
 go_enter Tryz.func20, Tryz.ntmps20
 go_wp2
 go_loopw [4, 5] (fun sv iv wr => ∃ (k : Nat) (acc : ByteArray), iv = .int .i64 (k : Int) ∧ sv = .string acc ∧ k ≤ fs.length ∧ Hid (JoinTo fs k acc.data.toList) ∧ Below w.heap.size w wr) (fun _ iv _ => fs.length - (intOf iv).toNat)
 case atStart => exact ⟨0, ⟨#[]⟩, rfl, rfl, Nat.zero_le _, hstart, Below.refl _ _⟩
 case round =>
  clear hstart
  obtain ⟨k, acc, rfl, rfl, hk, hJ, hB⟩ := hrel
  by_cases hlt : k < fs.length
  ·obtain ⟨b, o, rfl, hbs, hce⟩ := hget.out k hlt
   have cE := fun W => rencode_any fs[k] W (hfit.out k hlt)
   have hst := fun S he h0 => hstep.out k acc.data.toList hJ.out hlt S he h0
   have hbd := fun h0 => hbad.out k acc.data.toList hJ.out hlt h0
   obtain ⟨f, hf⟩ : ∃ f, fs[k] = f := ⟨_, rfl⟩
   rw [hf] at hce cE hst hbd
   obtain ⟨g0, g1, g2, g3, g4, g5, g6, g7, g8⟩ := hce.below hB hbs
   have dk : decide ((k : Int) < (fs.length : Int)) = true := decide_eq_true (by omega)
   have dk' : decide (k < fs.length) = true := decide_eq_true hlt
   have k0 : (0 : Int) ≤ (k : Int) := by omega
   have k1 : (k : Int) < (fs.length : Int) := by omega
   have kk : (k : Int) ≤ 1000 := by have := hn.out; omega
   have hal : acc.size ≤ 852000 := by
    have := hlen.out k acc.data.toList hJ.out
    have e : acc.data.toList.length = acc.size := by simp
    have := hn.out
    omega
   unfold EncP at cE
   replace cE := Lib.hid cE
   replace hst := Lib.hid hst
   replace hbd := Lib.hid hbd
   clear hce hf hstep hbad hget hfit hlen
   obtain ⟨kind, reel, sess, idx, len, data, spare, arch, pay⟩ := f
   unfold Fr.val Fr.cells at cE
   dsimp only at cE g0 g1 g2 g3 g4 g5 g6 g7 g8
   go_wp2_with fail
   refine (cE.out _).mono ?_
   rintro e w2 ⟨S, hS, rfl, hb2⟩
   have hB2 := hB.trans (hb2.mono hB.size)
   obtain ⟨q, hq⟩ : ∃ q, ckE (Fr.mk kind reel sess idx len data spare arch pay) = q := ⟨_, rfl⟩
   rw [hq] at hst hbd ⊢
   clear cE g0 g1 g2 g3 g4 g5 g6 g7 g8 hB hb2
   by_cases h0 : q = 0
   ·subst h0
    obtain ⟨hJ2, hSs⟩ := hst.out S hS rfl
    rw [← app_list] at hJ2
    have s1 : (S.size : Int) = 852 := by omega
    have s2 : (acc.size : Int) ≤ 852000 := by omega
    have s3 : ¬ 9223372036854775807 < acc.size + S.size := by omega
    replace hJ2 := Lib.hid hJ2
    clear hq hst hbd hS hSs hal hJ
    go_wp2
    go_roundw
    case rel => exact ⟨k + 1, acc ++ S, by go_num, rfl, by omega, hJ2, hB2⟩
    case measure => simp [intOf]; omega
   ·have hJ2 := Lib.hid (hbd.out h0)
    have hfin := Lib.hid (hgoal.out _ _ w2 hJ2.out hB2)
    have d1 : (q != 0) = true := bne_iff_ne.2 h0
    clear hst hbd hS hgoal hJ2 hB2 hq h0 hal hJ
    go_wp2
    first | go_ret2 | skip
    exact hfin.out
  ·obtain rfl : k = fs.length := by omega
   have dk : decide ((fs.length : Int) < (fs.length : Int)) = false := decide_eq_false (by omega)
   have dk' : decide (fs.length < fs.length) = false := decide_eq_false (by omega)
   have hfin := Lib.hid (hgoal.out acc 0 wr (hdone.out _ hJ.out) hB)
   clear hgoal hdone hJ hB hget hfit hstep hbad hlen
   go_wp2
   first | go_ret2 | skip
   exact hfin.out
end S14
namespace S14
open Go.RowKit Mem F13

def RdS (w : World) (A : Option Addr) (L : List (Nat × Sg)) : Prop := ∀ k (hk : k < L.length), ∃ g, A = some ⟨g, 0, none⟩ ∧ g < w.heap.size ∧ At14 w g (k * 14) L[k]
theorem RdS.below {w w' : World} {A : Option Addr} {L : List (Nat × Sg)} (h : RdS w A L) (k : Below w.heap.size w w') : RdS w' A L := fun i hi => by
 obtain ⟨g, e, hg, hc⟩ := h i hi
 exact ⟨g, e, Nat.lt_of_lt_of_le hg k.size, hc.below k hg⟩
theorem rdS_of {w : World} {base n : Nat} {e : TypeId} {v : Value} {L : List (Nat × Sg)} (h : w.ownsRow base e 14 v n (sgsC L)) : ∃ A cap, v = .slice A L.length cap ∧ L.length ≤ cap ∧ cap ≤ maxLen ∧ RdS w A L := by
 obtain ⟨rfl, A, cap, h1, h2, h3, _, h5⟩ := own_at h
 exact ⟨A, cap, h1, h2, h3, fun k hk => by obtain ⟨g, a, _, b, c⟩ := h5 k hk; exact ⟨g, a, b, c⟩⟩
set_option maxHeartbeats 8000000 in
theorem rsame_any (L : List (Nat × Sg)) (A B : Option Addr) (ca cb : Nat) (w : World) (hn : L.length ≤ 100000000) (hA : RdS w A L) (hB : RdS w B L) :
  Calls Tryz.prog 14 #[.slice A L.length ca, .slice B L.length cb] w fun e w' => e = .returned (.bool true) ∧ ∃ m, w' = w.drewN m := by
 replace hA := Lib.hid hA
 replace hB := Lib.hid hB
 replace hn := Lib.hid hn
 go_enter Tryz.func14, Tryz.ntmps14
 go_wp2
 go_loopw [5] (fun iv wr => ∃ (k : Nat), iv = .int .i64 (k : Int) ∧ k ≤ L.length ∧ ∃ n, wr = w.drewN n) (fun iv _ => L.length - (intOf iv).toNat)
 case atStart => exact ⟨0, rfl, Nat.zero_le _, 0, rfl⟩
 case round =>
  obtain ⟨k, rfl, hk, n, rfl⟩ := hrel
  by_cases hlt : k < L.length
  ·obtain ⟨g, rfl, _, ha⟩ := hA.out k hlt
   obtain ⟨h, rfl, _, hb⟩ := hB.out k hlt
   obtain ⟨⟨p, at_, ⟨kind, reel, sess, idx, len, data, spare, arch, pay⟩, d, u, m⟩, hp⟩ : ∃ p, L[k] = p := ⟨_, rfl⟩
   rw [hp] at ha hb
   obtain ⟨a0, a1, a2, a3, a4, a5, a6, a7, a8, a9, aa, ab, ac, ad⟩ := ha
   obtain ⟨b0, b1, b2, b3, b4, b5, b6, b7, b8, b9, ba, bb, bc, bd⟩ := hb
   dsimp only at a0 a1 a2 a3 a4 a5 a6 a7 a8 a9 aa ab ac ad b0 b1 b2 b3 b4 b5 b6 b7 b8 b9 ba bb bc bd
   have dk : decide ((k : Int) < (L.length : Int)) = true := decide_eq_true (by omega)
   have dk' : decide (k < L.length) = true := decide_eq_true hlt
   have k0 : (0 : Int) ≤ (k : Int) := by omega
   have k1 : (k : Int) < (L.length : Int) := by omega
   have kk : (k : Int) ≤ 100000000 := by have := hn.out; omega
   clear hp
   go_wp2
   go_quiet (fail)
   go_wp2
   go_roundw
   case rel => exact ⟨k + 1, by go_num, by omega, _, rfl⟩
   case measure => simp [intOf]; omega
  ·obtain rfl : k = L.length := by omega
   have dk : decide ((L.length : Int) < (L.length : Int)) = false := decide_eq_false (by omega)
   have dk' : decide (L.length < L.length) = false := decide_eq_false (by omega)
   go_wp2
   go_ret
   exact ⟨rfl, n, rfl⟩
end S14
namespace S14
open Go.RowKit Mem F13

set_option maxHeartbeats 16000000 in
theorem rpiece_any (c : ByteArray) (w : World) (hc : c.size ≤ 1000000) : Calls Tryz.prog 18 #[.string c] w (PcP c w) := by
 obtain ⟨i0, hi, hz0, hz1, hz2⟩ := info_parts infoS
 have hgoal : ∀ (l : List Sg) (v : Value) (w' : World), Scan c 0 l → w'.ownsRow w.heap.size 48 14 v l.length (sgsC (l.map fun s => (0, s))) → Below w.heap.size w w' → PcP c w (.returned v) w' := fun l v w' h1 h2 h3 => ⟨l, v, h1, rfl, h2, h3⟩
 have cC := fun (i : Nat) (W : World) (h : i + 16 ≤ c.size) => rcandidate_any c i W hc h
 have cB := fun (i : Nat) (W : World) (h : i + 16 ≤ c.size) => rbody_any c i W hc h
 have cD := fun (i : Nat) (W : World) (h : i + 16 ≤ c.size) => rdecode_any (bodyAt c i) W (by have := bodyAt_le h; omega)
 have hstart := Upto.start c
 have hstop := fun (i : Nat) (pre : List Sg) (h : Upto c i pre) (h2 : c.size < i + 16) => h.stop h2
 have hmiss := fun (i : Nat) (pre : List Sg) (h : Upto c i pre) (h2 : i + 16 ≤ c.size) hm => h.miss h2 hm
 have hhit := fun (i : Nat) (pre : List Sg) (h : Upto c i pre) (h2 : i + 16 ≤ c.size) hcd (F : Fr) (d u n : Int) hd => h.hit h2 hcd (F := F) (d := d) (u := u) (n := n) hd
 have hlen := fun (i : Nat) (pre : List Sg) (h : Upto c i pre) => h.2
 obtain ⟨P, hP⟩ : ∃ P, PcP c w = P := ⟨_, rfl⟩
 rw [hP] at hgoal ⊢
 replace hgoal := Lib.hid hgoal
 replace cC := Lib.hid cC
 replace cB := Lib.hid cB
 replace cD := Lib.hid cD
 replace hstart := Lib.hid hstart
 replace hstop := Lib.hid hstop
 replace hmiss := Lib.hid hmiss
 replace hhit := Lib.hid hhit
 replace hlen := Lib.hid hlen
 have hch := Lib.hid hc
 have c6 : (c.size : Int) ≤ 1000000 := by omega
 have hr0 : (w.alloc (.cells #[] 48)).ownsRow w.heap.size 48 14 (.slice (some ⟨w.heap.size, 0, none⟩) 0 0) 0 [] := World.ownsRow_made w #[] 0 (Nat.le_refl _) (by decide) (by simp)
 have hB0 : Below w.heap.size w (w.alloc (.cells #[] 48)) := (Below.refl _ _).alloc (Nat.le_refl _) _
 clear hP hc
 show Calls _ _ _ _ (fun e w' => P e w')
 go_enter Tryz.func18, Tryz.ntmps18
 go_wp2
 go_loopw [3, 4] (fun ov iv wr => ∃ (i : Nat) (pre : List Sg), iv = .int .i64 (i : Int) ∧ i ≤ c.size + 852 ∧ Hid (Upto c i pre) ∧ wr.ownsRow w.heap.size 48 14 ov pre.length (sgsC (pre.map fun s => (0, s))) ∧ Below w.heap.size w wr) (fun _ iv _ => c.size + 853 - (intOf iv).toNat)
 case atStart => exact ⟨0, [], rfl, by omega, hstart, hr0, hB0⟩
 case round =>
  clear hr0 hB0 hstart
  obtain ⟨i, pre, rfl, hib, hU, hrow, hB⟩ := hrel
  obtain ⟨I, hI⟩ : ∃ I : Nat, I = i + 16 := ⟨_, rfl⟩
  have i1 : (i : Int) + 16 = (I : Int) := by omega
  have i2 : (I : Int) ≤ 1000900 := by have := hch.out; omega
  have i3 : (i : Int) ≤ 1000852 := by have := hch.out; omega
  have hll := hlen.out i pre hU.out
  by_cases hs : I ≤ c.size
  ·have d1 : decide ((I : Int) ≤ (c.size : Int)) = true := decide_eq_true (by omega)
   have d1' : decide (I ≤ c.size) = true := decide_eq_true hs
   have cC1 := fun W => cC.out i W (by omega)
   have cB1 := fun W => cB.out i W (by omega)
   have cD1 := fun W => cD.out i W (by omega)
   have hm1 := hmiss.out i pre hU.out (by omega)
   have hh1 := hhit.out i pre hU.out (by omega)
   obtain ⟨Bd, hBd⟩ : ∃ B, bodyAt c i = B := ⟨_, rfl⟩
   rw [hBd] at cB1 cD1 hm1 hh1
   unfold DcP at cD1
   obtain ⟨p, hp⟩ : ∃ p : Nat, p = i + 1 := ⟨_, rfl⟩
   obtain ⟨r, hr⟩ : ∃ r : Nat, r = i + 852 := ⟨_, rfl⟩
   have p1 : (i : Int) + 1 = (p : Int) := by omega
   have r1 : (i : Int) + 852 = (r : Int) := by omega
   rw [← hp] at hm1
   rw [← hr] at hh1
   have hp2 := Lib.hid (show p ≤ c.size + 852 by omega)
   have hr2 := Lib.hid (show r ≤ c.size + 852 by omega)
   have hp3 := Lib.hid (show i < p ∧ i < c.size by omega)
   have hr3 := Lib.hid (show i < r ∧ i < c.size by omega)
   replace hll := Lib.hid hll
   replace cB1 := Lib.hid cB1
   replace cD1 := Lib.hid cD1
   replace hm1 := Lib.hid hm1
   replace hh1 := Lib.hid hh1
   rcases hcd : candB c i with _ | _
   ·rw [hcd] at cC1 hm1
    replace cC1 := Lib.hid cC1
    have hU2 : Hid (Upto c p pre) := Lib.hid (hm1.out (fun e => by cases e))
    clear hU hh1 hm1 cB1 cD1 hcd hI hp hr hs hib hBd
    go_wp2_with fail
    refine (cC1.out _).mono ?_
    rintro e w1 ⟨rfl, rfl⟩
    go_wp2
    go_roundw
    case rel => exact ⟨p, pre, rfl, hp2.out, hU2, hrow, hB⟩
    case measure => have := hp3.out; simp [intOf]; omega
   ·rw [hcd] at cC1 hm1 hh1
    replace cC1 := Lib.hid cC1
    replace hh1 := Lib.hid (hh1.out rfl)
    replace hm1 := Lib.hid (fun h => hm1.out (fun _ => h))
    clear hcd hI hp hr hs hib hBd
    go_wp2_with fail
    refine (cC1.out _).mono ?_
    rintro e w1 ⟨rfl, rfl⟩
    go_wp2_with fail
    refine (cB1.out _).mono ?_
    rintro e w1 ⟨rfl, rfl⟩
    go_wp2_with fail
    refine (cD1.out _).mono ?_
    rintro e w2 ⟨F, d, u, n, k, hQ, rfl, hb2⟩
    clear cC1 cB1 cD1
    obtain ⟨W11, hW11⟩ : ∃ W, (w2.alloc (.cells F.cells 44)).alloc (.cells #[.int .i64 d, .int .i64 u, .int .i64 n] 46) = W := ⟨_, rfl⟩
    obtain ⟨T, hT⟩ : ∃ T, w2.heap.size = T := ⟨_, rfl⟩
    have hvT : VAt W11 T F.cells.toList := by
     rw [← hW11, ← hT]
     exact (vat_alloc w2 44 F.cells.toList).below ((Below.refl _ _).alloc (Nat.le_refl _) _) (by simp)
    have hvQ : VAt W11 (T + 1) [.int .i64 d, .int .i64 u, .int .i64 n] := by
     have := vat_alloc (w2.alloc (.cells F.cells 44)) 46 [.int .i64 d, .int .i64 u, .int .i64 n]
     rw [World.size_alloc] at this
     rw [← hW11, ← hT]
     exact this
    have hal : Below w2.heap.size w2 W11 := by rw [← hW11]; exact two_made w2 _ _
    have hb3 := chain hb2 hal
    have hrow2 := own_below hrow hb3
    have hB2 := hB.trans (hb3.mono hB.size)
    clear hrow hB hb2 hal hb3
    by_cases hk : k = 0
    ·subst hk
     have hU2 : Hid (Upto c r (pre ++ [⟨i, F, d, u, n⟩])) := Lib.hid (hh1.out F d u n hQ)
     have e1 : pre.length + 1 ≤ maxLen := by have := hll.out; have := hch.out; unfold maxLen; omega
     have e2 : (pre.length + 1) * 120 ≤ 140737488355328 := by have := hll.out; have := hch.out; omega
     have e3 : ∀ o, w.heap.size ≤ (W11.alloc o).heap.size := fun o => by have := hB2.size; simp; omega
     have hone := sgC_one (0, ⟨i, F, d, u, n⟩)
     have hsn := sgs_snoc [] pre ⟨i, F, d, u, n⟩ 0
     rw [List.nil_append, List.nil_append] at hsn
     obtain ⟨kind, reel, sess, idx, len, data, spare, arch, pay⟩ := F
     unfold Fr.cells at hW11 hvT
     simp only [sgC, Fr.cells, List.cons_append, List.nil_append] at hone hsn
     unfold Fr.val Fr.cells qV
     dsimp only at hW11 hvT ⊢
     obtain ⟨t0, t1, t2, t3, t4, t5, t6, t7, t8, _, _, _, _, _, _, _, _, _⟩ := cells9 hvT
     obtain ⟨q0, q1, q2, _, _, _⟩ := cells3 hvQ
     replace hsn := Lib.hid hsn
     clear hvT hvQ hQ hm1 hh1 hU
     go_wp2_with (at_builtin; refine wpList_append_own _ rfl _ _ 30 rfl w.heap.size 48 i0 (.agg #[.int .i64 0, .int .i64 0, .int .i64 0, .int .i64 0, .int .i64 0, .int .i64 0, .int .i64 0, .int .i64 0, .int .i64 0, .int .u32 0, .string ⟨#[]⟩, .int .i64 0, .int .i64 0, .int .i64 0]) 14 120 Tryz.underlying30 hi hz0 hz1 hz2 rfl (by decide) _ _ _ rfl (hrow2.alloc _) ⟨W11.heap.size, 0, none⟩ 1 1 [.int .i64 0, .int .i64 (i : Int), .int .i64 kind, .int .i64 reel, .int .i64 sess, .int .i64 idx, .int .i64 len, .int .i64 data, .int .i64 spare, .int .u32 (arch.toNat : Int), .string pay, .int .i64 d, .int .i64 u, .int .i64 n] rfl rfl (list_new _ _ _) hone e1 e2 (e3 _) ?_; intro v' w3 hown' hgrow _)
     have hB3 := grown_below (hB2.alloc hB2.size _) (e3 _) (hrow2.alloc _) hgrow
     go_roundw
     case rel => exact ⟨r, pre ++ [⟨i, ⟨kind, reel, sess, idx, len, data, spare, arch, pay⟩, d, u, n⟩], rfl, hr2.out, hU2, by rw [hsn.out, List.length_append, List.length_singleton]; exact hown', hB3⟩
     case measure => have := hr3.out; simp [intOf]; omega
    ·have hU2 : Hid (Upto c p pre) := Lib.hid (hm1.out ⟨F, d, u, n, k, hQ, hk⟩)
     have d4 : (k == 0) = false := beq_eq_false_iff_ne.2 hk
     obtain ⟨kind, reel, sess, idx, len, data, spare, arch, pay⟩ := F
     unfold Fr.cells at hW11
     unfold Fr.val Fr.cells qV
     dsimp only at hW11 ⊢
     clear hvT hvQ hQ hm1 hh1 hU hk
     go_wp2
     go_roundw
     case rel => exact ⟨p, pre, rfl, hp2.out, hU2, hrow2, hB2⟩
     case measure => have := hp3.out; simp [intOf]; omega
  ·have d1 : decide ((I : Int) ≤ (c.size : Int)) = false := decide_eq_false (by omega)
   have d1' : decide (I ≤ c.size) = false := decide_eq_false hs
   have hfin := Lib.hid (hgoal.out pre _ wr (hstop.out i pre hU.out (by omega)) hrow hB)
   clear hU hrow hB hgoal hstop hI hs hib hll
   go_wp2
   first | go_ret | skip
   exact hfin.out
end S14
end Go.Proofs.YtiodkllckcpinaaGreatDoor
