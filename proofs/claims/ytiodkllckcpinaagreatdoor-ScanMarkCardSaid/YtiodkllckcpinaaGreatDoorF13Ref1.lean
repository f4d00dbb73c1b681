/- The contract of the reference's Check of layer 13 (written by gen/f13check.py). -/
import Derived.Test.YtiodkllckcpinaaGreatDoorRows
import Derived.Test.YtiodkllckcpinaaGreatDoorM14AM
import Derived.Lib.Hide
import Derived.WalkKit
import Derived.BigQuiet
import Derived.Deep.QuietTactic
import Derived.WalkSpells
import Derived.WalkLawsBesides
set_option linter.unusedVariables false
set_option linter.unusedSimpArgs false
set_option maxRecDepth 100000
namespace Go.Proofs.YtiodkllckcpinaaGreatDoor
namespace F13
open Go.RowKit Mem

theorem zeros_no {l : List UInt8} {n : Nat} (h : n < l.length) (h' : ((l[n].toNat : Int) != 0) = true) : zerosB (l.drop n) = false := by
 unfold zerosB
 rw [List.drop_eq_getElem_cons h, List.all_cons]
 have : (l[n] == 0) = false := by
  rw [beq_eq_false_iff_ne]
  intro e
  rw [e] at h'
  revert h'
  decide
 rw [this, Bool.false_and]
theorem zeros_yes {l : List UInt8} {n : Nat} (h : n < l.length) (h' : ((l[n].toNat : Int) != 0) = false) : zerosB (l.drop n) = zerosB (l.drop (n + 1)) := by
 unfold zerosB
 rw [List.drop_eq_getElem_cons h, List.all_cons]
 have : (l[n] == 0) = true := by
  rw [beq_iff_eq, ← UInt8.toNat_inj]
  have := bne_eq_false_iff_eq.1 h'
  show l[n].toNat = 0
  omega
 rw [this, Bool.true_and]
theorem zeros_end (l : List UInt8) {n : Nat} (h : l.length ≤ n) : zerosB (l.drop n) = true := by
 rw [List.drop_of_length_le h]
 rfl
set_option maxHeartbeats 8000000 in
theorem rcheck_rest (kind reel sess idx len data spare : Int) (arch : K3.R) (pay : ByteArray) (w : World) (hp : pay.size ≤ 9223372036854775807) (hk : (kind != 66) = false ∨ ((kind != 66) = true ∧ (kind != 68) = false)) :
  Calls Tryz.prog 88 #[(Fr.mk kind reel sess idx len data spare arch pay).val] w fun e w' => e = .returned (.int .i64 (if rgB (Fr.mk kind reel sess idx len data spare arch pay) then 2 else if pyB (Fr.mk kind reel sess idx len data spare arch pay) then 1 else 0)) ∧ Below w.heap.size w w' := by
 unfold rgB Fr.val Fr.cells
 dsimp only
 rcases d1 : decide (data < 1) with _ | _
 ·rcases d2 : decide (8 < data) with _ | _
  ·rcases d3 : decide (spare < 0) with _ | _
   ·rcases d4 : decide (7 < spare) with _ | _
    ·rcases d5 : decide (reel < 0) with _ | _
     ·rcases d6 : decide (data + spare ≤ reel) with _ | _
      ·rcases d7 : decide (sess < 1) with _ | _
       ·rcases d8 : decide (255 < sess) with _ | _
        ·rcases d9 : decide (idx < 0) with _ | _
         ·rcases d10 : decide (65535 < idx) with _ | _
          ·rcases d11 : decide (len < 0) with _ | _
           ·rcases d12 : decide (28 < len) with _ | _
            ·have k1 := of_decide_eq_false d11
             have k2 := of_decide_eq_false d12
             obtain ⟨L, rfl⟩ : ∃ L : Nat, len = L := ⟨len.toNat, by omega⟩
             have b1 := of_decide_eq_false d1
             have b2 := of_decide_eq_false d2
             have b3 := of_decide_eq_false d3
             have b4 := of_decide_eq_false d4
             replace hp := Lib.hid hp
             by_cases hs : pay.size = 28
             ·have t1 : ((pay.size : Int) != 28) = false := by rw [hs]; rfl
              have hpy : pyB (Fr.mk kind reel sess idx (L : Int) data spare arch pay) = !(zerosB (pay.data.toList.drop L)) := by
               unfold pyB
               rw [show (pay.size != 28) = false by rw [hs]; rfl]
               rfl
              have hl : pay.data.toList.length = 28 := by simpa using hs
              have hlh := Lib.hid hl
              rw [hpy]
              obtain ⟨R, hR⟩ : ∃ R : Int, (if (!(zerosB (pay.data.toList.drop L))) = true then 1 else 0) = R := ⟨_, rfl⟩
              have eR : (if (false || false || false || false || false || false || false || false || false || false || false || false) = true then 2 else if (!(zerosB (pay.data.toList.drop L))) = true then 1 else 0) = R := hR
              rw [eR]
              have hyes : Hid (zerosB (pay.data.toList.drop L) = true → R = 0) := Lib.hid (fun h => by rw [← hR, h]; rfl)
              have hno : Hid (zerosB (pay.data.toList.drop L) = false → R = 1) := Lib.hid (fun h => by rw [← hR, h]; rfl)
              have L28 : L ≤ 28 := by omega
              clear hpy hl hR eR k1 k2
              rcases hk with hk | ⟨hk, hk2⟩
              all_goals
               go_enter Tryz.func88, Tryz.ntmps88
               go_wp2
               go_loopw [4] (fun i wr => ∃ k : Nat, i = .int .i64 (k : Int) ∧ L ≤ k ∧ k ≤ 28 ∧ Hid (zerosB (pay.data.toList.drop L) = zerosB (pay.data.toList.drop k)) ∧ wr.cell? ⟨w.heap.size, 8, none⟩ = some (.string pay) ∧ Below w.heap.size w wr) (fun i _ => 28 - (intOf i).toNat)
               case atStart => exact ⟨L, rfl, Nat.le_refl _, L28, Lib.hid rfl, box_cell w _ _ _ 8 _ rfl, two_made w _ _⟩
               case round =>
                obtain ⟨k, rfl, hLk, hk28, hz, hce, hb⟩ := hrel
                have hcell : wr.cell? ⟨w.heap.size, 8, none⟩ = some (.string pay) := hce
                by_cases hlt : k < 28
                ·have hkl : k < pay.size := by rw [hs]; exact hlt
                 have hkl' : k < pay.data.toList.length := by rw [hlh.out]; exact hlt
                 have k0 : (0 : Int) ≤ (k : Int) := by omega
                 have k1 : (k : Int) < (pay.size : Int) := by omega
                 rcases hx : (((pay[k]'hkl).toNat : Int) != 0) with _ | _
                 ·have hz2 : Hid (zerosB (pay.data.toList.drop L) = zerosB (pay.data.toList.drop (k + 1))) := Lib.hid (hz.out.trans (zeros_yes hkl' hx))
                  clear hz hyes hno
                  go_wp2
                  go_roundw
                  case rel => exact ⟨k + 1, by go_num, by omega, by omega, hz2, hce, hb⟩
                  case measure => simp [intOf]; omega
                 ·have hR := Lib.hid (hno.out (hz.out.trans (zeros_no hkl' hx)))
                  clear hz hyes hno
                  go_wp2
                  go_ret
                  exact ⟨ret_i hR.out.symm, hb⟩
                ·have hR := Lib.hid (hyes.out (hz.out.trans (zeros_end _ (by rw [hlh.out]; omega))))
                 clear hz hyes hno
                 go_wp2
                 go_ret
                 exact ⟨ret_i hR.out.symm, hb⟩
             ·have t1 : ((pay.size : Int) != 28) = true := by rw [bne_iff_ne]; omega
              have hpy : pyB (Fr.mk kind reel sess idx (L : Int) data spare arch pay) = true := by
               unfold pyB
               rw [show (pay.size != 28) = true from bne_iff_ne.2 hs]
               rfl
              rw [hpy]
              clear hpy
              replace hp := hp.out
              rcases hk with hk | ⟨hk, hk2⟩
              all_goals
               go_enter Tryz.func88, Tryz.ntmps88
               go_wp2
               go_ret
               exact ⟨rfl, two_made w _ _⟩
            ·rcases hk with hk | ⟨hk, hk2⟩
             all_goals
              have b1 := of_decide_eq_false d1
              have b2 := of_decide_eq_false d2
              have b3 := of_decide_eq_false d3
              have b4 := of_decide_eq_false d4
              go_enter Tryz.func88, Tryz.ntmps88
              go_wp2
              go_ret
              exact ⟨rfl, two_made w _ _⟩
           ·rcases hk with hk | ⟨hk, hk2⟩
            all_goals
             have b1 := of_decide_eq_false d1
             have b2 := of_decide_eq_false d2
             have b3 := of_decide_eq_false d3
             have b4 := of_decide_eq_false d4
             go_enter Tryz.func88, Tryz.ntmps88
             go_wp2
             go_ret
             exact ⟨rfl, two_made w _ _⟩
          ·rcases hk with hk | ⟨hk, hk2⟩
           all_goals
            have b1 := of_decide_eq_false d1
            have b2 := of_decide_eq_false d2
            have b3 := of_decide_eq_false d3
            have b4 := of_decide_eq_false d4
            go_enter Tryz.func88, Tryz.ntmps88
            go_wp2
            go_ret
            exact ⟨rfl, two_made w _ _⟩
         ·rcases hk with hk | ⟨hk, hk2⟩
          all_goals
           have b1 := of_decide_eq_false d1
           have b2 := of_decide_eq_false d2
           have b3 := of_decide_eq_false d3
           have b4 := of_decide_eq_false d4
           go_enter Tryz.func88, Tryz.ntmps88
           go_wp2
           go_ret
           exact ⟨rfl, two_made w _ _⟩
        ·rcases hk with hk | ⟨hk, hk2⟩
         all_goals
          have b1 := of_decide_eq_false d1
          have b2 := of_decide_eq_false d2
          have b3 := of_decide_eq_false d3
          have b4 := of_decide_eq_false d4
          go_enter Tryz.func88, Tryz.ntmps88
          go_wp2
          go_ret
          exact ⟨rfl, two_made w _ _⟩
       ·rcases hk with hk | ⟨hk, hk2⟩
        all_goals
         have b1 := of_decide_eq_false d1
         have b2 := of_decide_eq_false d2
         have b3 := of_decide_eq_false d3
         have b4 := of_decide_eq_false d4
         go_enter Tryz.func88, Tryz.ntmps88
         go_wp2
         go_ret
         exact ⟨rfl, two_made w _ _⟩
      ·rcases hk with hk | ⟨hk, hk2⟩
       all_goals
        have b1 := of_decide_eq_false d1
        have b2 := of_decide_eq_false d2
        have b3 := of_decide_eq_false d3
        have b4 := of_decide_eq_false d4
        go_enter Tryz.func88, Tryz.ntmps88
        go_wp2
        go_ret
        exact ⟨rfl, two_made w _ _⟩
     ·rcases hk with hk | ⟨hk, hk2⟩
      all_goals
       go_enter Tryz.func88, Tryz.ntmps88
       go_wp2
       go_ret
       exact ⟨rfl, two_made w _ _⟩
    ·rcases hk with hk | ⟨hk, hk2⟩
     all_goals
      go_enter Tryz.func88, Tryz.ntmps88
      go_wp2
      go_ret
      exact ⟨rfl, two_made w _ _⟩
   ·rcases hk with hk | ⟨hk, hk2⟩
    all_goals
     go_enter Tryz.func88, Tryz.ntmps88
     go_wp2
     go_ret
     exact ⟨rfl, two_made w _ _⟩
  ·rcases hk with hk | ⟨hk, hk2⟩
   all_goals
    go_enter Tryz.func88, Tryz.ntmps88
    go_wp2
    go_ret
    exact ⟨rfl, two_made w _ _⟩
 ·rcases hk with hk | ⟨hk, hk2⟩
  all_goals
   go_enter Tryz.func88, Tryz.ntmps88
   go_wp2
   go_ret
   exact ⟨rfl, two_made w _ _⟩
theorem rcheck_any (f : Fr) (w : World) (hp : f.pay.size ≤ 9223372036854775807) :
  Calls Tryz.prog 88 #[f.val] w fun e w' => e = .returned (.int .i64 (ckE f)) ∧ Below w.heap.size w w' := by
 obtain ⟨kind, reel, sess, idx, len, data, spare, arch, pay⟩ := f
 unfold ckE kdB
 dsimp only
 rcases h1 : (kind != 66) with _ | _
 ·exact rcheck_rest kind reel sess idx len data spare arch pay w hp (.inl h1)
 ·rcases h2 : (kind != 68) with _ | _
  ·exact rcheck_rest kind reel sess idx len data spare arch pay w hp (.inr ⟨h1, h2⟩)
  ·unfold Fr.val Fr.cells
   dsimp only
   go_enter Tryz.func88, Tryz.ntmps88
   go_wp2
   go_ret
   exact ⟨rfl, (Below.refl _ _).alloc (Nat.le_refl _) _⟩
end F13
end Go.Proofs.YtiodkllckcpinaaGreatDoor
