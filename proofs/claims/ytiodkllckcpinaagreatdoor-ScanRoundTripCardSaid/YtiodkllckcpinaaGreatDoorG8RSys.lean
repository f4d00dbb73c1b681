/- The contracts of the reference's functions of layer 8: gauss, has, element, power, modified, errors, values; the elder reference's IsCodeword. -/
import Derived.Test.YtiodkllckcpinaaGreatDoorM14AH
import Derived.Laws.AppendOwn
import Derived.Deep.Cut
import Derived.StillTailTactics
import Derived.Test.YtiodkllckcpinaaGreatDoorM14AZ
import Derived.Test.YtiodkllckcpinaaGreatDoorM14AL
import Derived.Test.YtiodkllckcpinaaGreatDoorM14BA
import Derived.Test.YtiodkllckcpinaaGreatDoorM14AK
import Derived.Deep.QuietTactic
import Derived.BigQuiet
import Derived.Test.YtiodkllckcpinaaGreatDoorM14AQ
set_option linter.unusedVariables false
set_option linter.unusedSimpArgs false
set_option maxRecDepth 100000
namespace Go.Proofs.YtiodkllckcpinaaGreatDoor
namespace G8
open G5
open G7
open G6 (xz zx tms_ne one_ne rs rs_len rs_append IsSl mb info_byte VAt.setR VAt.readR)
open Go.RowKit Mem

def GauQ (w : World) (base m n : Nat) (M : Nat → Nat → R) (e : Ending) (w' : World) : Prop := ∃ (A : Option Addr) (k cl : Nat) (l : List R) (ok : Bool), e = .returned (.tuple #[.slice A k cl, .bool ok]) ∧ IsSl w' A cl l ∧ l.length = k ∧ Below base w w' ∧
 (ok = true → k = n) ∧ ∀ y0, Uq m n M y0 → ok = true ∧ ∀ i, i < n → l.getD i 0 = y0 i
theorem scM_zero (M : Nat → Nat → R) (i : Nat) (c : R) : ∀ r k, scM M i c 0 r k = M r k := fun r k => by unfold scM; rw [if_neg (by omega)]
theorem scM_at (M : Nat → Nat → R) (i : Nat) (c : R) (k : Nat) : scM M i c k i k = M i k := by unfold scM; rw [if_neg (by omega)]
theorem scM_step (M : Nat → Nat → R) (i : Nat) (c : R) (k : Nat) (r' k' : Nat) : scM M i c (k + 1) r' k' = if r' = i ∧ k' = k then tms (M i k) c else scM M i c k r' k' := by
 unfold scM
 by_cases h : r' = i ∧ k' = k
 ·rw [if_pos h, if_pos ⟨h.1, by omega⟩, h.2]
 ·rw [if_neg h]
  by_cases h2 : r' = i ∧ k' < k
  ·rw [if_pos h2, if_pos ⟨h2.1, by omega⟩]
  ·rw [if_neg h2, if_neg (by omega)]
theorem elM_zero (M : Nat → Nat → R) (i j : Nat) (c : R) : ∀ r k, elM M i j c 0 r k = M r k := fun r k => by unfold elM; rw [if_neg (by omega)]
theorem elM_at (M : Nat → Nat → R) (i j : Nat) (c : R) (k : Nat) : elM M i j c k j k = M j k := by unfold elM; rw [if_neg (by omega)]
theorem elM_other (M : Nat → Nat → R) {i j : Nat} (c : R) (k : Nat) (h : j ≠ i) : elM M i j c k i k = M i k := by unfold elM; rw [if_neg (by omega)]
theorem elM_step (M : Nat → Nat → R) (i j : Nat) (c : R) (k : Nat) (r' k' : Nat) : elM M i j c (k + 1) r' k' = if r' = j ∧ k' = k then M j k ^^^ tms c (M i k) else elM M i j c k r' k' := by
 unfold elM
 by_cases h : r' = j ∧ k' = k
 ·rw [if_pos h, if_pos ⟨h.1, by omega⟩, h.2]
 ·rw [if_neg h]
  by_cases h2 : r' = j ∧ k' < k
  ·rw [if_pos h2, if_pos ⟨h2.1, by omega⟩]
  ·rw [if_neg h2, if_neg (by omega)]

set_option maxHeartbeats 16000000 in
theorem gauss_any {base G m cap n : Nat} {g c : Nat → Nat} {M : Nat → Nat → R} {w : World} (h : Mat w base G m (n + 1) g c M) (hm : m ≤ 100) (hn : n ≤ 100) (hbase : base ≤ w.heap.size) :
  Calls Tryz.prog 146 #[.slice (some ⟨G, 0, none⟩) m cap, .int .i64 (n : Int)] w (GauQ w base m n M) := by
 have hM := Lib.hid h
 clear h
 obtain ⟨i0, hi, hz0, hz1, hz2⟩ := info_parts info_byte
 go_enter Tryz.func146, Tryz.ntmps146
 go_wp2
 go_loopw [6] (fun a wr => ∃ (i : Nat) (M' : Nat → Nat → R) (g' c' : Nat → Nat), i ≤ n ∧ i ≤ m ∧ a = .int .i64 i ∧ Hid (Mat wr base G m (n + 1) g' c' M') ∧ Hid (GI m n i M M') ∧ Hid (Below base w wr)) (fun a _ => n - (intOf a).toNat)
 case atStart => exact ⟨0, M, g, c, Nat.zero_le _, Nat.zero_le _, rfl, hM, Lib.hid (GI.start m n M), Lib.hid (Below.refl _ _)⟩
 case round =>
  clear hM
  obtain ⟨i, M', g', c', hin, him, rfl, hM, hG, hb⟩ := hrel
  by_cases hlt : i < n
  ·have d1 : (i : Int) < (n : Int) := by omega
   have d2 : decide (i < n) = true := decide_eq_true hlt
   go_wp2
   go_loop [7] (fun b => ∃ a : Nat, i ≤ a ∧ a ≤ m ∧ b = .int .i64 a ∧ Hid (∀ r, i ≤ r → r < a → M' r i = 0)) (fun b => m - (intOf b).toNat)
   case atStart => exact ⟨i, Nat.le_refl _, him, rfl, Lib.hid (fun r h1 h2 => by omega)⟩
   case round =>
    obtain ⟨a, hia, ham, rfl, hz⟩ := hrel
    by_cases hat : a < m
    ·obtain ⟨hc1, hf1⟩ := hM.out.cell hat
     obtain ⟨hc2, hf2⟩ := hM.out.elem hat (show i < n + 1 by omega)
     obtain ⟨X, hX⟩ : ∃ X, M' a i = X := ⟨_, rfl⟩
     rw [hX] at hc2
     have q1 : (a : Int) < (m : Int) := by omega
     have q2 : decide (a < m) = true := decide_eq_true hat
     have q3 : (0 : Int) ≤ (a : Int) := by omega
     have q4 : (0 : Int) ≤ (i : Int) := by omega
     have q5 : (i : Int) < (n : Int) + 1 := by omega
     rcases he : (X == 0#8) with _ | _
     ·have t1 : ((X.toNat : Int) == 0) = false := by rw [G6.z_el, he]
      have hX0 : M' a i ≠ 0 := by rw [hX]; simpa using he
      have hX0 := Lib.hid hX0
      have q6 : decide (m ≤ a) = false := decide_eq_false (by omega)
      clear he hX hf2
      have hs : Hid (Mat ((wr.setCell ⟨G, i, none⟩ (.slice (some ⟨g' a, 0, none⟩) (n + 1) (c' a))).setCell ⟨G, a, none⟩ (.slice (some ⟨g' i, 0, none⟩) (n + 1) (c' i))) base G m (n + 1) (swM g' i a) (swM c' i a) (swM M' i a)) := Lib.hid (hM.out.swap (by omega) hat)
      obtain ⟨hc3, hf3⟩ := hM.out.cell (show i < m by omega)
      have q7 : (i : Int) < (m : Int) := by omega
      obtain ⟨W1, hW1⟩ : ∃ W1, wr.setCell ⟨G, i, none⟩ (.slice (some ⟨g' a, 0, none⟩) (n + 1) (c' a)) = W1 := ⟨_, rfl⟩
      have hrow1 := VAt.set hM.out.top (k := i) (by rw [mrow_len]; omega) (.slice (some ⟨g' a, 0, none⟩) (n + 1) (c' a)) a (by rw [List.length_set, mrow_len]; exact hat)
      obtain ⟨hn4, hf4⟩ := hrow1
      obtain ⟨V4, hV4⟩ : ∃ V4, ((mrow g' c' (n + 1) m).set i (.slice (some ⟨g' a, 0, none⟩) (n + 1) (c' a)))[a]'(by rw [List.length_set, mrow_len]; exact hat) = V4 := ⟨_, rfl⟩
      rw [hV4] at hn4
      rw [hW1] at hn4 hf4 hs
      have hW1h := Lib.hid hW1
      have hn4 := Lib.hid hn4
      have hf4 := Lib.hid hf4
      clear hW1 hV4
      go_upto_region 11 with (fail)
      rw [hW1h.out]
      have hn4 := hn4.out
      have hf4 := hf4.out
      go_upto_region 12 with (fail)
      have hb2 := (hb.out.setCell (p := ⟨G, i, none⟩) hM.out.ge (.slice (some ⟨g' a, 0, none⟩) (n + 1) (c' a)))
      rw [hW1h.out] at hb2
      have hb2 := hb2.setCell (p := ⟨G, a, none⟩) hM.out.ge (.slice (some ⟨g' i, 0, none⟩) (n + 1) (c' i))
      obtain ⟨W2, hW2⟩ : ∃ W2, W1.setCell ⟨G, a, none⟩ (.slice (some ⟨g' i, 0, none⟩) (n + 1) (c' i)) = W2 := ⟨_, rfl⟩
      rw [hW2] at hs hb2 ⊢
      have hG2 := Lib.hid (hG.out.swap hia hat)
      have hp2 : swM M' i a i i ≠ 0 := by unfold swM; rw [if_pos rfl]; exact hX0.out
      have hp2 := Lib.hid hp2
      have him2 : i < m := by omega
      obtain ⟨M2, hM2⟩ : ∃ M2, swM M' i a = M2 := ⟨_, rfl⟩
      obtain ⟨g2, hg2⟩ : ∃ g2, swM g' i a = g2 := ⟨_, rfl⟩
      obtain ⟨c2, hc2'⟩ : ∃ c2, swM c' i a = c2 := ⟨_, rfl⟩
      rw [hM2] at hs hG2 hp2
      rw [hg2, hc2'] at hs
      have hb2 := Lib.hid hb2
      clear hM2 hg2 hc2' hW2 hW1h hn4 hf4 hz hM hG hc1 hf1 hc2 hc3 hf3 hb hX0 q1 q2 q6 hia ham hat q3 t1
      obtain ⟨hc1, hf1⟩ := hs.out.cell him2
      obtain ⟨hc2, hf2⟩ := hs.out.elem him2 (show i < n + 1 by omega)
      obtain ⟨by_, hby⟩ : ∃ by_, iv (M2 i i) = by_ := ⟨_, rfl⟩
      have hEJ := EJ.start hG2.out him2 hin hp2.out
      have cI := rinv_one (M2 i i) W2
      rw [hby] at cI hEJ
      obtain ⟨B, hB⟩ : ∃ B, (!(M2 i i == 0#8)) = B := ⟨_, rfl⟩
      rw [hB] at cI
      obtain ⟨X2, hX2⟩ : ∃ X2, M2 i i = X2 := ⟨_, rfl⟩
      rw [hX2] at cI hc2
      have cI := Lib.hid cI
      have hEJ := Lib.hid hEJ
      clear hby hB hX2 hf2 hf1 hG2 hp2
      go_wp2_with fail
      with_reducible refine cI.out.mono ?_
      rintro e w3 ⟨rfl, rfl⟩
      clear hc1 hc2 cI
      have hs0 := Lib.hid (hs.out.congr (M' := scM M2 i by_ 0) fun r k _ _ => (scM_zero M2 i by_ r k).symm)
      clear hs
      go_wp2
      go_loopw [11] (fun b wq => ∃ k : Nat, k ≤ n + 1 ∧ b = .int .i64 k ∧ Hid (Mat wq base G m (n + 1) g2 c2 (scM M2 i by_ k)) ∧ Hid (Below base w wq)) (fun b _ => n + 1 - (intOf b).toNat)
      case atStart => exact ⟨0, Nat.zero_le _, rfl, hs0, hb2⟩
      case round =>
       clear hs0 hb2
       obtain ⟨k, hk, rfl, hM, hb⟩ := hrel
       by_cases hkn : k ≤ n
       ·obtain ⟨hc1, hf1⟩ := hM.out.cell him2
        obtain ⟨hc2, hf2⟩ := hM.out.elem him2 (show k < n + 1 by omega)
        have hset := fun v => hM.out.set him2 (show k < n + 1 by omega) v (M' := scM M2 i by_ (k + 1))
        have hst := scM_step M2 i by_ k
        rw [scM_at] at hc2
        obtain ⟨X, hX⟩ : ∃ X, M2 i k = X := ⟨_, rfl⟩
        rw [hX] at hc2 hst
        have cM := fun W => (rmul_any X by_ W).mono fun _ _ ⟨a, b⟩ => And.intro a b.symm
        obtain ⟨T, hT⟩ : ∃ T, tms X by_ = T := ⟨_, rfl⟩
        rw [hT] at cM hst
        have hM2 := Lib.hid ((hset T fun r' k' _ _ => hst r' k').drew)
        have hb2 := Lib.hid ((hb.out.setCell (p := ⟨g2 i, k, none⟩) (hM.out.rge i him2) (bv T)).drew)
        have cM := Lib.hid cM
        have d3 : (k : Int) ≤ (n : Int) := by omega
        have d4 : decide (k ≤ n) = true := decide_eq_true hkn
        have k0 : (0 : Int) ≤ (k : Int) := by omega
        have k1 : (k : Int) < (n : Int) + 1 := by omega
        clear hset hst hX hT hM hb
        go_wp2_with fail
        refine wp_region_still_tail 15 (by kernel_rfl) (by kernel_rfl) ?_
        simp only [List.take_succ_cons, List.take_zero, List.drop_succ_cons, List.drop_zero]
        repeat still_step
        still_call (cM.out _)
        repeat still_step
        refine wpStill_nil ?_
        change wpList _ _ _ _ _ wr.drew
        go_wp2
        go_roundw
        case rel => exact ⟨k + 1, by omega, by go_num, hM2, hb2⟩
        case measure => simp [intOf]; omega
       ·have hke : k = n + 1 := by omega
        rw [hke] at hM
        have d3 : ¬ (k : Int) ≤ (n : Int) := by omega
        have d4 : decide (k ≤ n) = false := decide_eq_false hkn
        obtain ⟨M3, hM3⟩ : ∃ M3, scM M2 i by_ (n + 1) = M3 := ⟨_, rfl⟩
        rw [hM3] at hM hEJ
        clear hke hM3
        go_wp2
        clear d3 d4 hkn hk
        go_loopw [12] (fun b wq => ∃ (j : Nat) (M4 : Nat → Nat → R), j ≤ m ∧ b = .int .i64 j ∧ Hid (Mat wq base G m (n + 1) g2 c2 M4) ∧ Hid (EJ m n i j M M4) ∧ Hid (Below base w wq)) (fun b _ => m - (intOf b).toNat)
        case atStart => exact ⟨0, M3, Nat.zero_le _, rfl, hM, hEJ, hb⟩
        case round =>
         clear hM hEJ hb
         obtain ⟨j, M4, hj, rfl, hM, hEJ, hb⟩ := hrel
         by_cases hjm : j < m
         ·obtain ⟨hc1, hf1⟩ := hM.out.cell hjm
          obtain ⟨hc2, hf2⟩ := hM.out.elem hjm (show i < n + 1 by omega)
          obtain ⟨C, hC⟩ : ∃ C, M4 j i = C := ⟨_, rfl⟩
          rw [hC] at hc2
          have d3 : (j : Int) < (m : Int) := by omega
          have d4 : decide (j < m) = true := decide_eq_true hjm
          have j0 : (0 : Int) ≤ (j : Int) := by omega
          have hskip := Lib.hid (fun hz => hEJ.out.skip (j := j) hz)
          by_cases hji : j = i
          ·have t1 : ((j : Int) == (i : Int)) = true := by simp [hji]
           have t2 : (j == i) = true := by simp [hji]
           have hE2 := Lib.hid (hskip.out (.inl hji))
           have hjh := Lib.hid hji
           clear hf1 hf2 hC hskip hji
           go_wp2
           go_roundw
           case rel => exact ⟨j + 1, M4, by omega, by go_num, hM, hE2, hb⟩
           case measure => simp [intOf]; omega
          ·have t1 : ((j : Int) == (i : Int)) = false := by rw [beq_eq_false_iff_ne]; omega
           have t2 : (j == i) = false := by simpa using hji
           rcases he : (C == 0#8) with _ | _
           ·have t3 : ((C.toNat : Int) == 0) = false := by rw [G6.z_el, he]
            have hE2 := Lib.hid (hEJ.out.step him2 hin hjm hji)
            rw [hC] at hE2
            have hs0 := Lib.hid (hM.out.congr (M' := elM M4 i j C 0) fun r k _ _ => (elM_zero M4 i j C r k).symm)
            have hjih := Lib.hid hji
            clear hf1 hf2 hC hskip he hM hEJ
            go_wp2
            go_loopw [14] (fun b wq => ∃ k : Nat, k ≤ n + 1 ∧ b = .int .i64 k ∧ Hid (Mat wq base G m (n + 1) g2 c2 (elM M4 i j C k)) ∧ Hid (Below base w wq)) (fun b _ => n + 1 - (intOf b).toNat)
            case atStart => exact ⟨0, Nat.zero_le _, rfl, hs0, hb⟩
            case round =>
             clear hs0 hb hc1 hc2
             obtain ⟨k, hk, rfl, hM, hb⟩ := hrel
             by_cases hkn : k ≤ n
             ·obtain ⟨hc1, hf1⟩ := hM.out.cell hjm
              obtain ⟨hc3, hf3⟩ := hM.out.cell him2
              obtain ⟨hc2, hf2⟩ := hM.out.elem hjm (show k < n + 1 by omega)
              obtain ⟨hc4, hf4⟩ := hM.out.elem him2 (show k < n + 1 by omega)
              have hset := fun v => hM.out.set hjm (show k < n + 1 by omega) v (M' := elM M4 i j C (k + 1))
              have hst := elM_step M4 i j C k
              rw [elM_at] at hc2
              rw [elM_other _ _ _ hjih.out] at hc4
              obtain ⟨X, hX⟩ : ∃ X, M4 j k = X := ⟨_, rfl⟩
              obtain ⟨Y, hY⟩ : ∃ Y, M4 i k = Y := ⟨_, rfl⟩
              rw [hX] at hc2 hst
              rw [hY] at hc4 hst
              have cM := fun W => (rmul_any C Y W).mono fun _ _ ⟨a, b⟩ => And.intro a b.symm
              obtain ⟨T, hT⟩ : ∃ T, tms C Y = T := ⟨_, rfl⟩
              rw [hT] at cM hst
              have hbx := bxr X T
              obtain ⟨S, hS⟩ : ∃ S, X ^^^ T = S := ⟨_, rfl⟩
              rw [hS] at hst hbx
              have hM2 := Lib.hid ((hset S fun r' k' _ _ => hst r' k').drew)
              have hb2 := Lib.hid ((hb.out.setCell (p := ⟨g2 j, k, none⟩) (hM.out.rge j hjm) (bv S)).drew)
              have cM := Lib.hid cM
              have e3 : (k : Int) ≤ (n : Int) := by omega
              have e4 : decide (k ≤ n) = true := decide_eq_true hkn
              have k0 : (0 : Int) ≤ (k : Int) := by omega
              have k1 : (k : Int) < (n : Int) + 1 := by omega
              clear hset hst hX hY hT hS hM hb
              go_wp2_with fail
              refine wp_region_still_tail 23 (by kernel_rfl) (by kernel_rfl) ?_
              simp only [List.take_succ_cons, List.take_zero, List.drop_succ_cons, List.drop_zero]
              repeat still_step
              still_call (cM.out _)
              repeat still_step
              refine wpStill_nil ?_
              change wpList _ _ _ _ _ wr.drew
              go_wp2
              go_roundw
              case rel => exact ⟨k + 1, by omega, by go_num, hM2, hb2⟩
              case measure => simp [intOf]; omega
             ·have hke : k = n + 1 := by omega
              rw [hke] at hM
              have e3 : ¬ (k : Int) ≤ (n : Int) := by omega
              have e4 : decide (k ≤ n) = false := decide_eq_false hkn
              clear hke
              go_wp2
              go_roundw
              case rel => exact ⟨j + 1, _, by omega, by go_num, hM, hE2, hb⟩
              case measure => simp [intOf]; omega
           ·have t3 : ((C.toNat : Int) == 0) = true := by rw [G6.z_el, he]
            have hE2 := Lib.hid (hskip.out (.inr (by rw [hC]; simpa using he)))
            clear hf1 hf2 hC hskip he hji
            go_wp2
            go_roundw
            case rel => exact ⟨j + 1, M4, by omega, by go_num, hM, hE2, hb⟩
            case measure => simp [intOf]; omega
         ·have hje : j = m := by omega
          rw [hje] at hEJ
          have hGI := Lib.hid hEJ.out.done
          have d3 : ¬ (j : Int) < (m : Int) := by omega
          have d4 : decide (j < m) = false := decide_eq_false hjm
          clear hje hEJ
          go_wp2
          go_roundw
          case rel => exact ⟨i + 1, M4, g2, c2, by omega, by omega, by go_num, hM, hGI, hb⟩
          case measure => simp [intOf]; omega
     ·have t1 : ((X.toNat : Int) == 0) = true := by rw [G6.z_el, he]
      have hz2 := Lib.hid (show ∀ r, i ≤ r → r < a + 1 → M' r i = 0 from fun r h1 h2 => by
       by_cases e : r = a
       ·rw [e, hX]; simpa using he
       ·exact hz.out r h1 (by omega))
      clear he hX
      go_wp2
      go_round
      case rel => exact ⟨a + 1, by omega, by omega, by go_num, hz2⟩
      case measure => simp [intOf]; omega
    ·have hae : a = m := by omega
     have q1 : ¬ (a : Int) < (m : Int) := by omega
     have q2 : decide (a < m) = false := decide_eq_false hat
     have q6 : decide (m ≤ a) = true := decide_eq_true (by omega)
     have hfin := Lib.hid (show ∀ y0, Uq m n M y0 → False from fun y0 hu => hG.out.pivot hlt hu (fun r h1 h2 => hz.out r h1 (by omega)))
     go_wp2
     go_ret2
     exact ⟨none, 0, 0, [], false, rfl, IsSl.no _, rfl, hb.out, fun h => (by cases h), fun y0 hu => (hfin.out y0 hu).elim⟩
  ·have hie : i = n := by omega
   have d1 : ¬ (i : Int) < (n : Int) := by omega
   have d2 : decide (i < n) = false := decide_eq_false hlt
   rw [hie] at hG him
   clear hie
   obtain ⟨W3, rfl⟩ : ∃ W3, W3 = wr := ⟨_, rfl⟩
   have hbs := Nat.le_trans hbase hb.out.size
   go_wp2
   clear d1 d2 hlt
   go_loopw [15, 16] (fun v x wq => ∃ k : Nat, k ≤ n ∧ x = .int .i64 k ∧ wq.ownsRow W3.heap.size 5 1 v k (rs (tab k fun r => M' r n)) ∧ Below W3.heap.size W3 wq) (fun _ x _ => n - (intOf x).toNat)
   case atStart => exact ⟨0, Nat.zero_le _, rfl, World.ownsRow_nil _ _ _ _, Below.refl _ _⟩
   case round =>
    obtain ⟨k, hk, rfl, hown, hbq⟩ := hrel
    by_cases hkn : k < n
    ·have hkm : k < m := by omega
     obtain ⟨hc1, hf1⟩ := (hM.out.below hbq).cell hkm
     obtain ⟨hc2, hf2⟩ := (hM.out.below hbq).elem hkm (show n < n + 1 by omega)
     have hst : tab (k + 1) (fun r => M' r n) = tab k (fun r => M' r n) ++ [M' k n] := by simp [tab, List.range_succ]
     obtain ⟨X, hX⟩ : ∃ X, M' k n = X := ⟨_, rfl⟩
     rw [hX] at hc2 hst
     have hst := Lib.hid hst
     have d3 : (k : Int) < (n : Int) := by omega
     have d4 : decide (k < n) = true := decide_eq_true hkn
     have k0 : (0 : Int) ≤ (k : Int) := by omega
     have k1 : (k : Int) < (m : Int) := by omega
     have n0 : (0 : Int) ≤ (n : Int) := by omega
     clear hX hf1 hf2
     go_wp2_with (at_builtin; refine wpList_append_own _ rfl _ _ 53 rfl W3.heap.size 5 i0 (.int .u8 0) 1 1 Tryz.underlying53 hi hz0 hz1 hz2 rfl (by decide) _ _ _ rfl (hown.alloc _) ⟨wr.heap.size, 0, none⟩ 1 1 [bv X] rfl rfl (one_new _ _ _) (one_cell _ _) ?c3 ?c4 ?c5 ?_)
     case c3 => unfold maxLen; omega
     case c4 => omega
     case c5 => have := hbq.size; simp; omega
     intro v' w2 hown2 hgr _
     rw [show [bv X] = rs [X] from rfl, ← rs_append, ← hst.out] at hown2
     have hb2 := (hbq.alloc hbq.size _).grown hgr (by have := hbq.size; simp; omega) (fun j hj => (hown.lt j hj).1)
     clear hown hgr hbq hc1 hc2
     go_wp2
     go_roundw
     case rel => exact ⟨k + 1, by omega, by go_num, hown2, hb2⟩
     case measure => simp [intOf]; omega
    ·have hke : k = n := by omega
     have d3 : ¬ (k : Int) < (n : Int) := by omega
     have d4 : decide (k < n) = false := decide_eq_false hkn
     obtain ⟨A', c', rfl, _, _⟩ := own_slice hown
     obtain ⟨hsl, hlen⟩ := IsSl.of_own hown
     rw [hke] at hsl
     have hsl := Lib.hid hsl
     have hM2 := Lib.hid (hM.out.below hbq)
     have hB := Lib.hid (hb.out.trans (hbq.mono hbs))
     have hkh := Lib.hid hke
     clear hown hlen hM hb hbq hbs hke
     go_wp2
     clear d3 d4 hkn hk
     go_loop [17] (fun b => ∃ r : Nat, n ≤ r ∧ r ≤ m ∧ b = .int .i64 r) (fun b => m - (intOf b).toNat)
     case atStart => exact ⟨n, Nat.le_refl _, him, rfl⟩
     case round =>
      obtain ⟨r, hnr, hrm, rfl⟩ := hrel
      by_cases hr : r < m
      ·obtain ⟨hc1, hf1⟩ := hM2.out.cell hr
       obtain ⟨hc2, hf2⟩ := hM2.out.elem hr (show n < n + 1 by omega)
       have hz := fun y0 hu => hG.out.rows (y0 := y0) hu hr
       obtain ⟨X, hX⟩ : ∃ X, M' r n = X := ⟨_, rfl⟩
       rw [hX] at hc2 hz
       have d3 : (r : Int) < (m : Int) := by omega
       have d4 : decide (r < m) = true := decide_eq_true hr
       have k0 : (0 : Int) ≤ (r : Int) := by omega
       have n0 : (0 : Int) ≤ (n : Int) := by omega
       rcases he : (X == 0#8) with _ | _
       ·have t3 : ((X.toNat : Int) != 0) = true := by rw [G6.nz_el, he]; rfl
        have hno := Lib.hid (show ∀ y0, Uq m n M y0 → False from fun y0 hu => by
         have := hz y0 hu
         rw [if_neg (by omega)] at this
         rw [this] at he
         simp at he)
        clear hX he hz hf1 hf2
        go_wp2
        go_ret2
        exact ⟨none, 0, 0, [], false, rfl, IsSl.no _, rfl, hB.out, fun h => (by cases h), fun y0 hu => (hno.out y0 hu).elim⟩
       ·have t3 : ((X.toNat : Int) != 0) = false := by rw [G6.nz_el, he]; rfl
        clear hX he hz hf1 hf2
        go_wp2
        go_round
        case rel => exact ⟨r + 1, by omega, by omega, by go_num⟩
        case measure => simp [intOf]; omega
      ·have d3 : ¬ (r : Int) < (m : Int) := by omega
       have d4 : decide (r < m) = false := decide_eq_false hr
       go_wp2
       go_ret2
       exact ⟨A', k, c', _, true, rfl, hsl.out, by rw [tab_len, hkh.out], hB.out, fun _ => hkh.out, fun y0 hu => ⟨rfl, fun i hi => by
        rw [tab_get _ _ _ hi]
        have := hG.out.rows (y0 := y0) hu (r := i) (by omega)
        rwa [if_pos hi] at this⟩⟩
end G8

namespace G8
open G5
open G7
open G6 (mb rs rs_len rs_get rs_one IsSl info_byte VAt.setR VAt.readR wrap_pred)
open Go.RowKit Mem

set_option maxHeartbeats 1000000 in
theorem rhas_any {A : Option Addr} {n c : Nat} {l : List Int} {w : World} (z : Int) (h : IsInts w A c l) (hl : l.length = n) :
  Calls Tryz.prog 101 #[.slice A n c, .int .i64 z] w fun e w' => e = .returned (.bool (decide (z ∈ l))) ∧ w = w' := by
 rw [← any_mem]
 have hsh := Lib.hid h
 have hlh := Lib.hid hl
 have hn : n ≤ 9223372036854775807 := by have := h.hle; have := h.hcap; omega
 clear h hl
 go_enter Tryz.func101, Tryz.ntmps101
 go_wp2
 go_loop [5] (fun a => ∃ k : Nat, k ≤ n ∧ a = .int .i64 k ∧ Hid (∀ x ∈ l.take k, (z == x) = false)) (fun a => n - (intOf a).toNat)
 case atStart => exact ⟨0, Nat.zero_le _, rfl, Lib.hid (fun x h => by simp at h)⟩
 case round =>
  obtain ⟨k, hk, rfl, hz⟩ := hrel
  by_cases hlt : k < n
  ·have hkl : k < l.length := by rw [hlh.out]; exact hlt
   obtain ⟨b, o, rfl, hb, hc⟩ := hsh.out.read k hkl
   have hy := fun h => none_yet (P := fun y => z == y) hz.out hkl h
   have hf := fun h => found (P := fun y => z == y) hkl h
   obtain ⟨Y, hY⟩ : ∃ Y, l.getD k 0 = Y := ⟨_, rfl⟩
   rw [hY] at hc hy hf
   have d0 : (k : Int) < (n : Int) := by omega
   have d1 : decide (k < n) = true := decide_eq_true hlt
   have k0 : (0 : Int) ≤ (k : Int) := by omega
   rcases he : z == Y with _ | _
   ·have hz2 := Lib.hid (hy he)
    have t1 : (Y == z) = false := by rw [beq_eq_false_iff_ne] at he ⊢; exact fun e => he e.symm
    clear hY hy hf hz hkl he
    go_wp2
    go_round
    case rel => exact ⟨k + 1, by omega, by go_num, hz2⟩
    case measure => simp [intOf]; omega
   ·have hal := Lib.hid (hf he)
    have t1 : (Y == z) = true := by rw [beq_iff_eq] at he ⊢; exact he.symm
    clear hY hy hf hz hkl he
    go_wp2
    go_ret
    exact ⟨by rw [hal.out]; rfl, rfl⟩
  ·have hal := Lib.hid (none_at_all (P := fun y => z == y) hz.out (by rw [hlh.out]; omega))
   have d0 : ¬ (k : Int) < (n : Int) := by omega
   have d1 : decide (k < n) = false := decide_eq_false hlt
   go_wp2
   go_ret
   exact ⟨by rw [hal.out]; rfl, rfl⟩

set_option maxHeartbeats 1000000 in
theorem rel_any {n i : Nat} (w : World) (hn : n ≤ 1000) (hi : i < n) : Calls Tryz.prog 144 #[.int .i64 (i : Int), .int .i64 (n : Int)] w fun e w' => e = .returned (bv (lc n i)) ∧ w = w' := by
 have cE := rexp_any ((n - 1 - i : Nat) : Int) w (by omega) (by omega)
 rw [ex_nat] at cE
 obtain ⟨N, hN⟩ : ∃ N, n = N + 1 := ⟨n - 1, by omega⟩
 obtain ⟨d, hd⟩ : ∃ d, n - 1 - i = d := ⟨_, rfl⟩
 unfold lc
 rw [hd] at cE ⊢
 obtain ⟨X, hX⟩ : ∃ X, it d 1 = X := ⟨_, rfl⟩
 rw [hX] at cE ⊢
 have cE := Lib.hid cE
 have e1 : (n : Int) - 1 = (N : Int) := by omega
 have e2 : (N : Int) - (i : Int) = (d : Int) := by omega
 have hN2 : N ≤ 1000 := by omega
 have hd2 : d ≤ 1000 := by omega
 clear hN hd hX
 go_enter Tryz.func144, Tryz.ntmps144
 go_wp2_with fail
 refine cE.out.mono ?_
 rintro e w1 ⟨rfl, rfl⟩
 go_wp2
 go_ret
 exact ⟨rfl, rfl⟩
set_option maxHeartbeats 1000000 in
theorem rpow_any (x : R) (n : Nat) (w : World) (hn : n ≤ 1000) : Calls Tryz.prog 148 #[bv x, .int .i64 (n : Int)] w fun e w' => e = .returned (bv (pw x n)) ∧ w = w' := by
 go_enter Tryz.func148, Tryz.ntmps148
 go_wp2
 go_loop [5, 6] (fun p a => ∃ (k : Nat) (S : R), k ≤ n ∧ a = .int .i64 k ∧ p = bv S ∧ Hid (pw x k = S)) (fun _ a => n - (intOf a).toNat)
 case atStart => exact ⟨0, 1, Nat.zero_le _, rfl, rfl, Lib.hid rfl⟩
 case round =>
  obtain ⟨k, S, hk, rfl, rfl, hS⟩ := hrel
  by_cases hlt : k < n
  ·have cM := rmul_any S x w
   have hst : pw x (k + 1) = tms S x := by rw [← hS.out]; rfl
   obtain ⟨T, hT⟩ : ∃ T, tms S x = T := ⟨_, rfl⟩
   rw [hT] at cM hst
   have cM := Lib.hid cM
   have hst := Lib.hid hst
   have d0 : (k : Int) < (n : Int) := by omega
   have d1 : decide (k < n) = true := decide_eq_true hlt
   clear hT hS
   go_wp2_with fail
   refine cM.out.mono ?_
   rintro e w1 ⟨rfl, rfl⟩
   go_wp2
   go_round
   case rel => exact ⟨k + 1, T, by omega, by go_num, rfl, hst⟩
   case measure => simp [intOf]; omega
  ·have hke : k = n := by omega
   rw [hke] at hS
   have d0 : ¬ (k : Int) < (n : Int) := by omega
   have d1 : decide (k < n) = false := decide_eq_false hlt
   clear hke
   go_wp2
   go_ret
   exact ⟨by rw [hS.out]; rfl, rfl⟩

theorem own_at {w : World} {base n : Nat} {e : TypeId} {v : Value} {xs : List Value} (h : w.ownsRow base e 1 v n xs) (hn : 0 < n) :
  ∃ g cap, v = .slice (some ⟨g, 0, none⟩) n cap ∧ base ≤ g ∧ g < w.heap.size ∧ VAt w g xs ∧ n ≤ cap ∧ cap ≤ 9223372036854775807 := by
 rcases h.2 with ⟨_, h0⟩ | ⟨g, cap, cur, hv, hb, hh, h1, h2, h3, h4⟩
 ·omega
 ·refine ⟨g, cap, hv, hb, (Array.getElem?_eq_some_iff.1 hh).1, ?_, h1, h2⟩
  rw [hv] at h
  exact VAt.of_own h
set_option maxHeartbeats 4000000 in
theorem rmod_any {A B : Option Addr} {c d p m n : Nat} {l : List R} {es : List Nat} {w : World} (h : IsSl w A c l) (hl : l.length = p) (hp1 : 1 ≤ p) (hp : p ≤ 100) (h' : IsInts w B d (es.map fun (i : Nat) => (i : Int))) (hm : es.length = m) (hn : n ≤ 1000) (hlt : ∀ i ∈ es, i < n) :
  Calls Tryz.prog 103 #[.slice A p c, .int .i64 (n : Int), .slice B m d] w fun e w' => ∃ A' c', e = .returned (.slice A' p c') ∧ IsSl w' A' c' (mdL n l es) ∧ Below w.heap.size w w' := by
 obtain ⟨i0, hi, hz0, hz1, hz2⟩ := info_parts info_byte
 have hmb : m ≤ 9223372036854775807 := by have h1 := h'.hle; have h2 := h'.hcap; rw [List.length_map] at h1; omega
 obtain ⟨b0, o0, rfl, hb0, _⟩ := h.read 0 (by omega)
 have hsrc : ∀ W, Below w.heap.size w W → ∀ j u, (rs l)[j]? = some u → W.cell? ((⟨b0, o0, none⟩ : Addr).add j) = some u := fun W k j u hj => by
  have hj' : j < (rs l).length := (List.getElem?_eq_some_iff.1 hj).1
  obtain ⟨b', o', e, _, hc⟩ := (h.below k).rd j hj'
  injection e with e
  injection e with e1 e2
  subst e1 e2
  have : (⟨b0, o0, none⟩ : Addr).add j = ⟨b0, o0 + j, none⟩ := by
   by_cases h0 : j = 0
   ·subst h0; rfl
   ·simp [Addr.add, h0]
  rw [this, hc]
  rw [List.getElem?_eq_getElem hj'] at hj
  exact hj
 have hsl := Lib.hid h'
 have hmh := Lib.hid hm
 have hlth := Lib.hid hlt
 have hlh := Lib.hid hl
 have hlr : (rs l).length = p := by rw [rs_len, hl]
 have m0 := mb w (.cells #[] 5)
 clear h h' hm hlt hl
 go_enter Tryz.func103, Tryz.ntmps103
 go_wp2_with (at_builtin; refine wpList_append_own _ rfl _ _ 53 rfl w.heap.size 5 i0 (.int .u8 0) 1 1 Tryz.underlying53 hi hz0 hz1 hz2 rfl (by decide) _ _ _ rfl (empty_at rfl (Nat.le_refl _)) ⟨b0, o0, none⟩ p c (rs l) rfl (by rw [hlr]; omega) (hsrc _ m0) (rs_one l) ?c3 ?c4 ?c5 ?_)
 case c3 => unfold maxLen; omega
 case c4 => omega
 case c5 => simp
 intro v' w2 hown hgr _
 have hb2 := m0.grown hgr (by simp) (fun j hj => by
  have : j = w.heap.size := by simpa [Value.ownBlock] using hj.symm
  omega)
 obtain ⟨G, cap, rfl, hGb, hGl, hat, hc1, hc2⟩ := own_at hown (by omega)
 have hat := Lib.hid (show VAt w2 G (rs (mdL n l (es.take 0))) from by rw [List.take_zero]; exact hat)
 have hGl := Lib.hid hGl
 have hGb := Lib.hid hGb
 have hb2 := Lib.hid hb2
 clear hown hgr hsrc m0 hlr
 go_wp2
 go_loopw [17] (fun a wr => ∃ k : Nat, k ≤ m ∧ a = .int .i64 k ∧ Hid (VAt wr G (rs (mdL n l (es.take k)))) ∧ Hid (G < wr.heap.size) ∧ Hid (Below w.heap.size w wr)) (fun a _ => m - (intOf a).toNat)
 case atStart => exact ⟨0, Nat.zero_le _, rfl, hat, hGl, hb2⟩
 case round =>
  clear hat hGl hb2
  obtain ⟨k, hk, rfl, hat, hgl, hb⟩ := hrel
  by_cases hkm : k < m
  ·have hkl : k < es.length := by rw [hmh.out]; exact hkm
   obtain ⟨b', o, rfl, hbl, hc⟩ := (hsl.out.below hb.out).read k (by rw [List.length_map]; exact hkl)
   have hcg : (es.map fun (i : Nat) => (i : Int)).getD k 0 = ((es.getD k 0 : Nat) : Int) := by simp [List.getD_eq_getElem?_getD, List.getElem?_eq_getElem hkl]
   rw [hcg] at hc
   have hYn := hlth.out (es.getD k 0) (by rw [List.getD_eq_getElem?_getD, List.getElem?_eq_getElem hkl]; exact List.getElem_mem _)
   have htk : es.take (k + 1) = es.take k ++ [es.getD k 0] := by
    rw [List.take_succ_eq_append_getElem hkl]
    simp [List.getD_eq_getElem?_getD, List.getElem?_eq_getElem hkl]
   obtain ⟨Y, hY⟩ : ∃ Y, es.getD k 0 = Y := ⟨_, rfl⟩
   rw [hY] at hc htk hYn
   have hst := mdL_snoc n l (es.take k) Y
   rw [← htk] at hst
   have hLl := mdL_len n (es.take k) l
   rw [hlh.out] at hLl
   obtain ⟨L, hL⟩ : ∃ L, mdL n l (es.take k) = L := ⟨_, rfl⟩
   rw [hL] at hst hat hLl
   have cE := rel_any wr hn hYn
   obtain ⟨X, hX⟩ : ∃ X, lc n Y = X := ⟨_, rfl⟩
   rw [hX] at cE hst
   have cE := Lib.hid cE
   have hst := Lib.hid hst
   have hLl := Lib.hid hLl
   obtain ⟨q, hq⟩ : ∃ q, p = q + 1 := ⟨p - 1, by omega⟩
   have e1 : (p : Int) - 1 = (q : Int) := by omega
   have d0 : (k : Int) < (m : Int) := by omega
   have d1 : decide (k < m) = true := decide_eq_true hkm
   have k0 : (0 : Int) ≤ (k : Int) := by omega
   have hqh := Lib.hid hq
   have hq100 : q ≤ 100 := by omega
   clear hcg hY htk hYn hL hX hkl hq
   go_wp2_with fail
   refine cE.out.mono ?_
   rintro e w3 ⟨rfl, rfl⟩
   clear cE hc
   have hs0 := Lib.hid (show VAt wr G (rs (md1 X L (q + 1))) by rw [md1_start X L (q + 1) (by rw [hLl.out, hqh.out]; exact Nat.le_refl _)]; exact hat.out)
   clear hat
   go_wp2
   go_loopw [11] (fun b wq => ∃ K : Nat, K ≤ q ∧ b = .int .i64 K ∧ Hid (VAt wq G (rs (md1 X L (K + 1)))) ∧ Hid (G < wq.heap.size) ∧ Hid (Below w.heap.size w wq)) (fun b _ => (intOf b).toNat)
   case atStart => exact ⟨q, Nat.le_refl _, rfl, hs0, hgl, hb⟩
   case round =>
    clear hs0 hgl hb
    obtain ⟨K, hK, rfl, hat, hgl, hb⟩ := hrel
    by_cases hK0 : 0 < K
    ·obtain ⟨J, hJ⟩ : ∃ J, K = J + 1 := ⟨K - 1, by omega⟩
     have hKl : K < L.length := by rw [hLl.out, hqh.out]; omega
     have hst2 := md1_step (X := X) hKl hJ
     obtain ⟨hn1, hf1⟩ := VAt.readR hat.out (k := K) (by rw [md1_len]; exact hKl)
     obtain ⟨hn2, hf2⟩ := VAt.readR hat.out (k := J) (by rw [md1_len]; omega)
     rw [md1_at hKl] at hn1
     rw [md1_prev hKl hJ] at hn2
     obtain ⟨U, hU⟩ : ∃ U, L.getD K 0 = U := ⟨_, rfl⟩
     obtain ⟨V, hV⟩ : ∃ V, L.getD J 0 = V := ⟨_, rfl⟩
     rw [hU] at hn1 hst2
     rw [hV] at hn2 hst2
     have cM := fun W => (rmul_any X V W).mono fun _ _ ⟨a, b⟩ => And.intro a b.symm
     obtain ⟨T, hT⟩ : ∃ T, tms X V = T := ⟨_, rfl⟩
     rw [hT] at cM hst2
     have hbx := bxr U T
     obtain ⟨S, hS⟩ : ∃ S, U ^^^ T = S := ⟨_, rfl⟩
     rw [hS] at hst2 hbx
     have hat2 := Lib.hid (show VAt (wr.setCell ⟨G, K, none⟩ (bv S)).drew G (rs (md1 X L K)) by
      have := (VAt.setR hat.out (k := K) (by rw [md1_len]; exact hKl) S).drew
      rw [hst2] at this
      exact this)
     have hgl2 := Lib.hid (show G < (wr.setCell ⟨G, K, none⟩ (bv S)).drew.heap.size by simpa using hgl.out)
     have hb3 := Lib.hid ((hb.out.setCell (p := ⟨G, K, none⟩) hGb.out (bv S)).drew)
     have cM := Lib.hid cM
     have d3 : (0 : Int) < (K : Int) := by omega
     have d4 : decide (0 < K) = true := decide_eq_true hK0
     have k1 : (K : Int) < (p : Int) := by have := hqh.out; omega
     have k2 : (0 : Int) ≤ (K : Int) := by omega
     have e2 : (K : Int) - 1 = (J : Int) := by omega
     have j0 : (0 : Int) ≤ (J : Int) := by omega
     have j1 : (J : Int) < (p : Int) := by omega
     have w1' : IntKind.i64.wrap (J : Int) = (J : Int) := by rw [IntKind.wrap_i64]; omega
     have hat2 := Lib.hid (show VAt (wr.setCell ⟨G, K, none⟩ (bv S)).drew G (rs (md1 X L (J + 1))) by rw [← hJ]; exact hat2.out)
     have hJh := Lib.hid hJ
     clear hst2 hU hV hT hS hat hgl hb hKl hJ
     go_wp2_with fail
     refine wp_region_still_tail 15 (by kernel_rfl) (by kernel_rfl) ?_
     simp only [List.take_succ_cons, List.take_zero, List.drop_succ_cons, List.drop_zero]
     repeat still_step
     still_call (cM.out _)
     repeat still_step
     refine wpStill_nil ?_
     change wpList _ _ _ _ _ wr.drew
     go_wp2
     go_roundw
     case rel => exact ⟨J, by have := hJh.out; omega, rfl, hat2, hgl2, hb3⟩
     case measure => simp [intOf]; have := hJh.out; omega
    ·have hK1 : K = 0 := by omega
     have d3 : ¬ (0 : Int) < (K : Int) := by omega
     have d4 : decide (0 < K) = false := decide_eq_false hK0
     have hat2 := Lib.hid (show VAt wr G (rs (mdL n l (es.take (k + 1)))) by
      rw [hst.out, ← md1_done]
      have := hat.out
      rw [hK1] at this
      exact this)
     clear hK1 hat
     go_wp2
     go_roundw
     case rel => exact ⟨k + 1, by omega, by go_num, hat2, hgl, hb⟩
     case measure => simp [intOf]; omega
  ·have hke : k = m := by omega
   rw [hke, List.take_of_length_le (by rw [hmh.out]; exact Nat.le_refl _)] at hat
   have hlen : (mdL n l es).length = p := by rw [mdL_len, hlh.out]
   have hsl2 := Lib.hid (sl_at (c := cap) hat.out (by rw [hlen]; exact hc1) hc2 hgl.out)
   have d0 : ¬ (k : Int) < (m : Int) := by omega
   have d1 : decide (k < m) = false := decide_eq_false hkm
   clear hke hat
   go_wp2
   go_ret
   exact ⟨_, cap, rfl, hsl2.out, hb.out⟩
end G8

namespace G8
open G5
open G7
open G6 (mb rs rs_len rs_get rs_one rs_append IsSl info_byte VAt.setR VAt.readR)
open Go.RowKit Mem

theorem info_bytes : (Tryz.prog.info? 53).map (fun i => (i.zero, i.size, i.bytes)) = some (some (.slice none 0 0), 1, 24) := by kernel_rfl
structure Rws (w : World) (base W R : Nat) (V : Value) (g c : Nat → Nat) (M : Nat → Nat → G5.R) : Prop where
 top : w.ownsRow base 53 1 V R (mrow g c W R)
 row : ∀ r, r < R → w.ownsRow base 5 1 (.slice (some ⟨g r, 0, none⟩) W (c r)) W (rs (tab W (M r)))
 inj : ∀ r q, r < R → q < R → g r = g q → r = q
theorem Rws.start (w : World) (base W : Nat) (g c : Nat → Nat) (M : Nat → Nat → R) : Rws w base W 0 (.slice none 0 0) g c M := ⟨World.ownsRow_nil _ _ _ _, fun r h => by omega, fun r q h => by omega⟩
theorem Rws.below {w w' : World} {base W R : Nat} {V : Value} {g c : Nat → Nat} {M : Nat → Nat → G5.R} (h : Rws w base W R V g c M) (k : Below w.heap.size w w') : Rws w' base W R V g c M :=
 ⟨own_below h.top k, fun r hr => own_below (h.row r hr) k, h.inj⟩
theorem Rws.lt {w : World} {base W R : Nat} {V : Value} {g c : Nat → Nat} {M : Nat → Nat → G5.R} (h : Rws w base W R V g c M) {r : Nat} (hr : r < R) : base ≤ g r ∧ g r < w.heap.size := (h.row r hr).lt (g r) rfl
theorem mrow_snoc (g c : Nat → Nat) (W R gn cn : Nat) : mrow (fun r => if r = R then gn else g r) (fun r => if r = R then cn else c r) W (R + 1) = mrow g c W R ++ [.slice (some ⟨gn, 0, none⟩) W cn] := by
 unfold mrow
 rw [List.range_succ, List.map_append]
 congr 1
 ·refine List.map_congr_left fun r hr => ?_
  have := List.mem_range.1 hr
  show Value.slice (some ⟨if r = R then gn else g r, 0, none⟩) W (if r = R then cn else c r) = _
  rw [if_neg (by omega), if_neg (by omega)]
 ·simp
theorem Rws.snoc {w w' : World} {base W R gn cn : Nat} {V V' : Value} {g c : Nat → Nat} {M : Nat → Nat → G5.R} (h : Rws w base W R V g c M)
  (hn : w.ownsRow base 5 1 (.slice (some ⟨gn, 0, none⟩) W cn) W (rs (tab W (M R)))) (hd : ∀ r, r < R → g r ≠ gn)
  (ht : w'.ownsRow base 53 1 V' (R + 1) (mrow g c W R ++ [.slice (some ⟨gn, 0, none⟩) W cn])) (hg : w.grownBy w' V.ownBlock) :
  Rws w' base W (R + 1) V' (fun r => if r = R then gn else g r) (fun r => if r = R then cn else c r) M := by
 have keep : ∀ {v : Value} {n : Nat} {xs : List Value}, w.ownsRow base 5 1 v n xs → w'.ownsRow base 5 1 v n xs := fun hr => hr.kept hg ((own_apart hr h.top (by decide)))
 refine ⟨by rw [mrow_snoc]; exact ht, fun r hr => ?_, fun r q hr hq e => ?_⟩
 ·by_cases e : r = R
  ·subst e
   simp only [if_true]
   exact keep hn
  ·simp only [if_neg e]
   exact keep (h.row r (by omega))
 ·by_cases e1 : r = R
  ·by_cases e2 : q = R
   ·omega
   ·simp only [e1, if_true, if_neg e2] at e
    exact absurd e.symm (hd q (by omega))
  ·by_cases e2 : q = R
   ·simp only [e2, if_true, if_neg e1] at e
    exact absurd e (hd r (by omega))
   ·simp only [if_neg e1, if_neg e2] at e
    exact h.inj r q (by omega) (by omega) e
theorem Rws.mat {w : World} {base W R : Nat} {V : Value} {g c : Nat → Nat} {M : Nat → Nat → G5.R} (h : Rws w base W R V g c M) (hR : 0 < R) : ∃ G cap, V = .slice (some ⟨G, 0, none⟩) R cap ∧ Mat w base G R W g c M := by
 obtain ⟨G, cap, rfl, h1, h2, h3, _, _⟩ := own_at h.top hR
 refine ⟨G, cap, rfl, h3, h2, h1, fun r hr => VAt.of_own (h.row r hr), fun r hr => (h.lt hr).2, fun r hr => (h.lt hr).1, fun r hr e => ?_, h.inj⟩
 have := own_apart (h.row r hr) h.top (by decide)
 rcases this with h0 | h0
 ·cases h0
 ·exact h0 (by rw [show Value.ownBlock (.slice (some ⟨g r, 0, none⟩) W (c r)) = some (g r) from rfl, e]; rfl)
set_option maxHeartbeats 1000000 in
theorem gauss_nil (base : Nat) (M : Nat → Nat → R) (w : World) (hb : base ≤ w.heap.size) : Calls Tryz.prog 146 #[.slice none 0 0, .int .i64 0] w (GauQ w base 0 0 M) := by
 go_enter Tryz.func146, Tryz.ntmps146
 go_wp2
 go_loop [6] (fun a => a = .int .i64 0) (fun a => 0)
 case atStart => exact rfl
 case round =>
  obtain rfl := hrel
  go_wp2
  go_loop [15, 16] (fun v a => v = .slice none 0 0 ∧ a = .int .i64 0) (fun _ a => 0)
  case atStart => exact ⟨rfl, rfl⟩
  case round =>
   obtain ⟨rfl, rfl⟩ := hrel
   go_wp2
   go_loop [17] (fun a => a = .int .i64 0) (fun a => 0)
   case atStart => exact rfl
   case round =>
    obtain rfl := hrel
    go_wp2
    go_ret2
    exact ⟨none, 0, 0, [], true, rfl, IsSl.no _, rfl, Below.refl _ _, fun _ => rfl, fun y0 hu => ⟨rfl, fun i hi => by omega⟩⟩
theorem gauss_rows {w : World} {base n R : Nat} {V : Value} {g c : Nat → Nat} {M : Nat → Nat → G5.R} (h : Rws w base (n + 1) R V g c M) (hR : R ≤ 100) (hn : n ≤ 100) (hb : base ≤ w.heap.size) (h0 : R = 0 → V = .slice none 0 0 ∧ n = 0) :
  Calls Tryz.prog 146 #[V, .int .i64 (n : Int)] w (GauQ w base R n M) := by
 by_cases hz : R = 0
 ·obtain ⟨rfl, rfl⟩ := h0 hz
  subst hz
  rw [show ((0 : Nat) : Int) = 0 from rfl]
  exact gauss_nil base M w hb
 ·obtain ⟨G, cap, rfl, hm⟩ := h.mat (by omega)
  exact gauss_any hm hR hn hb

set_option maxHeartbeats 1000000 in
theorem risc_any (s : ByteArray) (p : Nat) (w : World) (h1 : 1 ≤ p) (h2 : p ≤ 64) (h3 : p ≤ s.size) (h4 : s.size ≤ 255) : Calls Tryz.prog 106 #[.string s, .int .i64 (p : Int)] w fun e w' => e = .returned (.bool (cwB p (el s))) ∧ Below w.heap.size w w' := by
 have cS := Lib.hid (rsyn_any s p w h1 h2 h3 h4)
 unfold cwB
 have hsl0 := syn_len p (el s)
 obtain ⟨l, hl⟩ : ∃ l, syn p (el s) = l := ⟨_, rfl⟩
 rw [hl] at hsl0
 have hlh := Lib.hid hl
 have hlen := Lib.hid hsl0
 rw [hl]
 obtain ⟨Z, hZ⟩ : ∃ Z, l.all (· == 0) = Z := ⟨_, rfl⟩
 rw [hZ]
 have hZh := Lib.hid hZ
 clear hl hsl0 hZ
 go_enter Tryz.func106, Tryz.ntmps106
 go_wp2_with fail
 refine cS.out.mono ?_
 rintro e w1 ⟨A, c, rfl, hsl, hb⟩
 rw [hlh.out] at hsl
 have hsl := Lib.hid hsl
 clear cS
 go_wp2
 go_loop [7, 8] (fun o a => ∃ (k : Nat) (B : Bool), k ≤ p ∧ a = .int .i64 k ∧ o = .bool B ∧ Hid ((l.take k).all (· == 0) = B)) (fun _ a => p - (intOf a).toNat)
 case atStart => exact ⟨0, true, Nat.zero_le _, rfl, rfl, Lib.hid rfl⟩
 case round =>
  obtain ⟨k, B, hk, rfl, rfl, hB⟩ := hrel
  by_cases hlt : k < p
  ·obtain ⟨b, o, rfl, hbl, hc⟩ := hsl.out.read k (by rw [hlen.out]; exact hlt)
   have hts := G6.take_snoc l k (by rw [hlen.out]; exact hlt)
   obtain ⟨X, hX⟩ : ∃ X, l.getD k 0 = X := ⟨_, rfl⟩
   rw [hX] at hc hts
   have hst : (l.take (k + 1)).all (· == 0) = (B && (X == 0)) := by rw [hts, List.all_append, hB.out]; simp
   have d0 : (k : Int) < (p : Int) := by omega
   have d1 : decide (k < p) = true := decide_eq_true hlt
   have k0 : (0 : Int) ≤ (k : Int) := by omega
   rcases B with _ | _
   ·have hst := Lib.hid (show (l.take (k + 1)).all (· == 0) = false from hst)
    clear hX hts hB
    go_wp2
    go_round
    case rel => exact ⟨k + 1, false, by omega, by go_num, rfl, hst⟩
    case measure => simp [intOf]; omega
   ·have t1 : ((X.toNat : Int) == 0) = (X == 0#8) := G6.z_el X
    obtain ⟨C, hC⟩ : ∃ C, (X == 0#8) = C := ⟨_, rfl⟩
    have hst := Lib.hid (show (l.take (k + 1)).all (· == 0) = C by rw [hst, ← hC]; rfl)
    rw [hC] at t1
    clear hX hts hB hC
    go_wp2
    go_round
    case rel => exact ⟨k + 1, C, by omega, by go_num, rfl, hst⟩
    case measure => simp [intOf]; omega
  ·have hfin := Lib.hid (show l.all (· == 0) = B by rw [← hB.out, List.take_of_length_le (by rw [hlen.out]; omega)])
   have d0 : ¬ (k : Int) < (p : Int) := by omega
   have d1 : decide (k < p) = false := decide_eq_false hlt
   clear hB
   go_wp2
   go_ret
   exact ⟨by rw [← hZh.out, hfin.out]; rfl, hb⟩
end G8

namespace G8
open G5
open G7
open G6 (mb xz rs rs_len rs_get rs_one rs_append IsSl info_byte VAt.setR VAt.readR)
open Go.RowKit Mem

def rootB (n e : Nat) (L : List R) (i : Nat) : Bool := (1 ^^^ sr (List.range e) fun k => tms (L.getD k 0) (pw (iv (lc n i)) (k + 1))) == 0
def fnd (n e : Nat) (L : List R) (es : List Nat) (i : Nat) : Bool := rootB n e L i && !decide (i ∈ es)
def ErrQ (w : World) (p n e : Nat) (l : List R) (es : List Nat) (o : Ending) (w' : World) : Prop := ∃ (A : Option Addr) (q c : Nat) (ms : List Nat) (ok : Bool), o = .returned (.tuple #[.slice A q c, .bool ok]) ∧ IsInts w' A c (ms.map fun (i : Nat) => (i : Int)) ∧ ms.length = q ∧ Below w.heap.size w w' ∧
 (ok = true → ms.length = e ∧ ms.Nodup ∧ ∀ i ∈ ms, i < n ∧ i ∉ es) ∧ ∀ v, Mo p n es.length l v → (plc n v).length = e → (∀ i, i < n → v i ≠ 0 → i ∉ es) → ok = true ∧ ms = plc n v
theorem found_all {n e : Nat} {L : List R} {es : List Nat} {v : Nat → R} (hn : n ≤ 255) (hlen : (plc n v).length = e) (hd : ∀ i, i < n → v i ≠ 0 → i ∉ es) (hL : ∀ k, k < e → L.getD k 0 = keyY n e v k) : (List.range n).filter (fnd n e L es) = plc n v := by
 unfold plc
 refine List.filter_congr fun i hi => ?_
 have hi := List.mem_range.1 hi
 have e1 : (sr (List.range e) fun k => tms (L.getD k 0) (pw (iv (lc n i)) (k + 1))) = sr (List.range e) fun k => tms (keyY n e v k) (pw (iv (lc n i)) (k + 1)) := sr_congr _ fun k hk => by rw [hL k (List.mem_range.1 hk)]
 have h1 := key_root hlen (X := lc n i) (x := iv (lc n i)) (tms_iv (lc_ne n i))
 rw [← e1, mon_zero] at h1
 have h2 : (∃ m ∈ plc n v, lc n m = lc n i) ↔ v i ≠ 0 := by
  constructor
  ·rintro ⟨m, hm, e⟩
   obtain ⟨a, b⟩ := plc_mem.1 hm
   rw [lc_inj hn a hi e] at b
   exact b
  ·intro h
   exact ⟨i, plc_mem.2 ⟨hi, h⟩, rfl⟩
 rw [h2] at h1
 unfold fnd rootB
 rw [Bool.eq_iff_iff, Bool.and_eq_true, beq_iff_eq, h1, Bool.not_eq_true', Bool.not_eq_true', decide_eq_false_iff_not, beq_eq_false_iff_ne]
 exact ⟨fun h => h.1, fun h => ⟨h, hd i hi h⟩⟩
theorem mem_cast (i : Nat) (es : List Nat) : decide ((i : Int) ∈ es.map fun (j : Nat) => (j : Int)) = decide (i ∈ es) := by
 rw [decide_eq_decide, List.mem_map]
 constructor
 ·rintro ⟨j, hj, e⟩
  have : j = i := by omega
  rwa [this] at hj
 ·exact fun h => ⟨i, h, rfl⟩
theorem tab_succ (k : Nat) (f : Nat → R) : tab (k + 1) f = tab k f ++ [f k] := by simp [tab, List.range_succ]

set_option maxHeartbeats 16000000 in
theorem rerr_any {A B : Option Addr} {c d p n e s : Nat} {l : List R} {es : List Nat} {w : World} (h : IsSl w A c l) (hl : l.length = p) (hp : p ≤ 64) (hn : n ≤ 255) (h' : IsInts w B d (es.map fun (i : Nat) => (i : Int))) (hs : es.length = s) (hr : 2 * e + s ≤ p) :
  Calls Tryz.prog 104 #[.slice A p c, .int .i64 (n : Int), .int .i64 (e : Int), .slice B s d] w (ErrQ w p n e l es) := by
 obtain ⟨i0, hi, hz0, hz1, hz2⟩ := info_parts info_byte
 obtain ⟨j0, hj, hy0, hy1, hy2⟩ := info_parts info_bytes
 obtain ⟨t0, ht, hx0, hx1, hx2⟩ := info_parts info_int
 have hsl := Lib.hid h
 have hes := Lib.hid h'
 have hlh := Lib.hid hl
 have hsh := Lib.hid hs
 obtain ⟨M, hM⟩ : ∃ M, keyM l s e = M := ⟨_, rfl⟩
 have hMh := Lib.hid hM
 obtain ⟨se, hse⟩ : ∃ se, s + e = se := ⟨_, rfl⟩
 have e1 : (s : Int) + (e : Int) = (se : Int) := by omega
 have hseh := Lib.hid hse
 have he64 : e ≤ 64 := by omega
 have hse64 : se ≤ 64 := by omega
 have hs64 : s ≤ 64 := by omega
 clear h h' hl hs hM hse
 go_enter Tryz.func104, Tryz.ntmps104
 go_wp2
 go_loopw [10, 12] (fun v a wr => ∃ (R j : Nat) (g c : Nat → Nat), Hid (j = se + R) ∧ j ≤ p ∧ a = .int .i64 j ∧ Hid (R = 0 → v = .slice none 0 0) ∧ Hid (Rws wr w.heap.size (e + 1) R v g c M) ∧ Hid (Below w.heap.size w wr)) (fun _ a _ => p - (intOf a).toNat)
 case atStart => exact ⟨0, se, fun _ => 0, fun _ => 0, Lib.hid rfl, by have := hseh.out; omega, rfl, Lib.hid (fun _ => rfl), Lib.hid (Rws.start _ _ _ _ _ _), Lib.hid (Below.refl _ _)⟩
 case round =>
  obtain ⟨R', j, g, c', hjR, hjp, rfl, hV0, hR, hb⟩ := hrel
  by_cases hlt : j < p
  ·obtain ⟨W0, rfl⟩ : ∃ W0, W0 = wr := ⟨_, rfl⟩
   have d1 : (j : Int) < (p : Int) := by omega
   have d2 : decide (j < p) = true := decide_eq_true hlt
   go_wp2
   go_loopw [13, 14] (fun v a wq => ∃ k : Nat, k ≤ e ∧ a = .int .i64 ((k + 1 : Nat) : Int) ∧ wq.ownsRow W0.heap.size 5 1 v k (rs (tab k (M R'))) ∧ Below W0.heap.size W0 wq) (fun _ a _ => e + 1 - (intOf a).toNat)
   case atStart => exact ⟨0, Nat.zero_le _, rfl, World.ownsRow_nil _ _ _ _, Below.refl _ _⟩
   case round =>
    obtain ⟨k, hk, rfl, hown, hbq⟩ := hrel
    obtain ⟨K, hK⟩ : ∃ K, k + 1 = K := ⟨_, rfl⟩
    rw [hK]
    by_cases hke : k < e
    ·obtain ⟨q, hq⟩ : ∃ q, q = j - K := ⟨_, rfl⟩
     have hjse := hjR.out
     have hsee := hseh.out
     have hql : q < l.length := by rw [hlh.out]; omega
     obtain ⟨b2, o2, rfl, hbl2, hc2⟩ := ((hsl.out.below hb.out).below hbq).read q hql
     have hMk : M R' k = l.getD q 0 := by
      rw [← hMh.out]
      unfold keyM
      rw [if_pos hke]
      congr 1
      omega
     have hst := tab_succ k (M R')
     rw [hMk] at hst
     obtain ⟨X, hX⟩ : ∃ X, l.getD q 0 = X := ⟨_, rfl⟩
     rw [hX] at hc2 hst
     have hst := Lib.hid hst
     have d3 : (K : Int) ≤ (e : Int) := by omega
     have d4 : decide (K ≤ e) = true := decide_eq_true (by omega)
     have e2 : (j : Int) - (K : Int) = (q : Int) := by omega
     have q0 : (0 : Int) ≤ (q : Int) := by omega
     have q1 : (q : Int) < (p : Int) := by omega
     have hK64 : K ≤ 64 := by omega
     have hj64 : j ≤ 64 := by omega
     have hKh := Lib.hid hK
     clear hq hjse hsee hql hMk hX hK
     go_wp2_with (at_builtin; refine wpList_append_own _ rfl _ _ 53 rfl W0.heap.size 5 i0 (.int .u8 0) 1 1 Tryz.underlying53 hi hz0 hz1 hz2 rfl (by decide) _ _ _ rfl (hown.alloc _) ⟨wr.heap.size, 0, none⟩ 1 1 [bv X] rfl rfl (one_new _ _ _) (one_cell _ _) ?c3 ?c4 ?c5 ?_)
     case c3 => unfold maxLen; omega
     case c4 => omega
     case c5 => have := hbq.size; simp; omega
     intro v' w2 hown2 hgr _
     rw [show [bv X] = rs [X] from rfl, ← rs_append, ← hst.out] at hown2
     have hb2 := (hbq.alloc hbq.size _).grown hgr (by have := hbq.size; simp; omega) (fun j hj => (hown.lt j hj).1)
     clear hown hgr hbq hc2
     go_wp2
     go_roundw
     case rel => exact ⟨k + 1, by omega, by rw [hKh.out]; go_num, hown2, hb2⟩
     case measure => simp [intOf]; have := hKh.out; omega
    ·have hkee : k = e := by omega
     have hjse := hjR.out
     have hql : j < l.length := by rw [hlh.out]; omega
     obtain ⟨b2, o2, rfl, hbl2, hc2⟩ := ((hsl.out.below hb.out).below hbq).read j hql
     rw [hkee] at hown
     have hMk : M R' e = l.getD j 0 := by
      rw [← hMh.out]
      unfold keyM
      rw [if_neg (Nat.lt_irrefl e)]
      congr 1
      rw [hseh.out]
      omega
     have hst := tab_succ e (M R')
     rw [hMk] at hst
     obtain ⟨X, hX⟩ : ∃ X, l.getD j 0 = X := ⟨_, rfl⟩
     rw [hX] at hc2 hst
     have hst := Lib.hid hst
     have d3 : ¬ (K : Int) ≤ (e : Int) := by omega
     have d4 : decide (K ≤ e) = false := decide_eq_false (by omega)
     have q0 : (0 : Int) ≤ (j : Int) := by omega
     have hK66 : K ≤ 66 := by omega
     have hbqs := hbq.size
     have hRq := hR.out.below hbq
     have hbb := hb.out.trans (hbq.mono hb.out.size)
     have hR64 : R' ≤ 64 := by omega
     have hkeh := Lib.hid hkee
     clear hjse hql hMk hX hK hkee hke hk
     go_wp2_with (at_builtin; refine wpList_append_own _ rfl _ _ 53 rfl W0.heap.size 5 i0 (.int .u8 0) 1 1 Tryz.underlying53 hi hz0 hz1 hz2 rfl (by decide) _ _ _ rfl (hown.alloc _) ⟨wr.heap.size, 0, none⟩ 1 1 [bv X] rfl rfl (one_new _ _ _) (one_cell _ _) ?c3 ?c4 ?c5 ?_)
     case c3 => unfold maxLen; omega
     case c4 => omega
     case c5 => first | omega | (simp; omega)
     intro v' w2 hown2 hgr _
     rw [show [bv X] = rs [X] from rfl, ← rs_append, ← hst.out] at hown2
     have hb2 := (hbq.alloc hbqs _).grown hgr (by first | omega | (simp; omega)) (fun j hj => (hown.lt j hj).1)
     have hR2 := hR.out.below hb2
     have hbb2 := hb.out.trans (hb2.mono hb.out.size)
     obtain ⟨gn, cn, rfl, hg1, hg2, _, _, _⟩ := own_at hown2 (by omega)
     have hfar : ∀ r, r < R' → g r ≠ gn := fun r hr e => by have := (hR.out.lt hr).2; omega
     have hown3 : w2.ownsRow w.heap.size 5 1 (.slice (some ⟨gn, 0, none⟩) (e + 1) cn) (e + 1) (rs (tab (e + 1) (M R'))) := ⟨hown2.1, hown2.2.imp id fun ⟨g, cap, cur, h1, h2, h3⟩ => ⟨g, cap, cur, h1, Nat.le_trans hb.out.size h2, h3⟩⟩
     clear hown hgr hbq hc2 hbqs hRq hbb hown2
     go_wp2_with (at_builtin; refine wpList_append_own _ rfl _ _ 163 rfl w.heap.size 53 j0 (.slice none 0 0) 1 24 Tryz.underlying163 hj hy0 hy1 hy2 rfl (by decide) _ _ _ rfl (hR2.top.alloc _) ⟨w2.heap.size, 0, none⟩ 1 1 [.slice (some ⟨gn, 0, none⟩) (e + 1) cn] rfl rfl (one_new _ _ _) (fun u hu => by rw [List.mem_singleton.1 hu]; rfl) ?f3 ?f4 ?f5 ?_)
     case f3 => unfold maxLen; omega
     case f4 => omega
     case f5 => have := hbb2.size; simp; omega
     intro V' w3 hown4 hgr2 _
     have ha := mb w2 (.cells #[.slice (some ⟨gn, 0, none⟩) (e + 1) cn] 53)
     have hR3 := Lib.hid ((hR2.below ha).snoc (own_below hown3 ha) hfar hown4 hgr2)
     have hb3 := Lib.hid ((hbb2.trans (ha.mono hbb2.size)).grown hgr2 (by have := hbb2.size; simp; omega) (fun j hj => (hR2.top.lt j hj).1))
     clear hown3 hown4 hgr2 hR2 hbb2 ha hfar hV0 hb2
     go_wp2
     go_roundw
     case rel => exact ⟨R' + 1, j + 1, _, _, Lib.hid (by have := hjR.out; omega), by omega, by go_num, Lib.hid (fun h => by omega), hR3, hb3⟩
     case measure => simp [intOf]; omega
  ·have hjpe : j = p := by omega
   have d1 : ¬ (j : Int) < (p : Int) := by omega
   have d2 : decide (j < p) = false := decide_eq_false hlt
   have hjse := hjR.out
   have hsee := hseh.out
   have hR64 : R' ≤ 64 := by omega
   have hRm : p - s - e = R' := by omega
   have cG := gauss_rows hR.out (by omega) (by omega) hb.out.size (fun h0 => ⟨hV0.out h0, by omega⟩)
   obtain ⟨A', cap', rfl, _, _⟩ := own_slice hR.out.top
   have hUq : ∀ v, Mo p n es.length l v → (plc n v).length = e → Uq R' e M (keyY n e v) := fun v hmo hle => by
    rw [hsh.out] at hmo
    have := key_uq hn hmo hle (by omega)
    rwa [hMh.out, hRm] at this
   have hUq := Lib.hid hUq
   have cG := Lib.hid cG
   have d3 : ¬ (R' : Int) < (e : Int) := by omega
   have d4 : decide (R' < e) = false := decide_eq_false (by omega)
   clear hjse hsee hRm hjR hV0 hR hlt hjpe
   go_wp2_with fail
   refine cG.out.mono ?_
   rintro o w2 ⟨A5, k5, c5, L, ok, rfl, hL, hLl, hb2, hok, huq⟩
   have hb3 := Lib.hid (show Below w.heap.size w w2 from hb.out.trans hb2)
   clear cG hb hb2
   rcases ok with _ | _
   ·have hno := Lib.hid (show ∀ v, Mo p n es.length l v → (plc n v).length = e → False from fun v h1 h2 => by cases (huq _ (hUq.out v h1 h2)).1)
    clear huq hok
    go_wp2
    go_ret2
    exact ⟨none, 0, 0, [], false, rfl, IsInts.no _, rfl, hb3.out, fun h => (by cases h), fun v h1 h2 _ => (hno.out v h1 h2).elim⟩
   ·have hLe : L.length = e := hLl.trans (hok rfl)
    have hke : k5 = e := hok rfl
    have hval := Lib.hid (show ∀ v, Mo p n es.length l v → (plc n v).length = e → ∀ k, k < e → L.getD k 0 = keyY n e v k from fun v h1 h2 => (huq _ (hUq.out v h1 h2)).2)
    have hLeh := Lib.hid hLe
    have hLs := Lib.hid hL
    subst hke
    obtain ⟨W2, rfl⟩ : ∃ W2, W2 = w2 := ⟨_, rfl⟩
    clear huq hok hLl hLe hL hUq d3 d4 d1 d2
    go_wp2
    go_loopw [17, 18] (fun v a wq => ∃ i m : Nat, i ≤ n ∧ m ≤ i ∧ a = .int .i64 i ∧ wq.ownsRow W2.heap.size 3 1 v m (is (fk (fnd n k5 L es) i)) ∧ Below W2.heap.size W2 wq) (fun _ a _ => n - (intOf a).toNat)
    case atStart => exact ⟨0, 0, Nat.zero_le _, Nat.le_refl _, rfl, World.ownsRow_nil _ _ _ _, Below.refl _ _⟩
    case round =>
     obtain ⟨i, m, hin, hmi, rfl, hown, hbq⟩ := hrel
     by_cases hltn : i < n
     ·have cE := rel_any wr (by omega) hltn
      have cI := rinv_one (lc n i) wr
      rw [show (!(lc n i == 0#8)) = true by simpa using lc_ne n i] at cI
      have hP : fnd n k5 L es i = ((1 ^^^ sr (List.range k5) fun k => tms (L.getD k 0) (pw (iv (lc n i)) (k + 1))) == 0 && !decide (i ∈ es)) := rfl
      have cH := fun W (k : Below w.heap.size w W) => rhas_any (n := s) (i : Int) (hes.out.below k) (by rw [List.length_map]; exact hsh.out)
      rw [mem_cast] at cH
      have hyes := fun h => fk_yes (P := fnd n k5 L es) (k := i) h
      have hnon := fun h => fk_no (P := fnd n k5 L es) (k := i) h
      obtain ⟨X, hX⟩ : ∃ X, lc n i = X := ⟨_, rfl⟩
      rw [hX] at cE cI hP
      obtain ⟨x, hx⟩ : ∃ x, iv X = x := ⟨_, rfl⟩
      rw [hx] at cI hP
      have cE := Lib.hid cE
      have cI := Lib.hid cI
      have cH := Lib.hid cH
      have hP := Lib.hid hP
      have hyes := Lib.hid hyes
      have hnon := Lib.hid hnon
      have d1 : (i : Int) < (n : Int) := by omega
      have d2 : decide (i < n) = true := decide_eq_true hltn
      have hbw := Lib.hid (hb3.out.trans (hbq.mono hb3.out.size))
      have hLq := Lib.hid (hLs.out.below hbq)
      clear hX hx
      go_wp2_with fail
      refine cE.out.mono ?_
      rintro o w5 ⟨rfl, rfl⟩
      go_wp2_with fail
      refine cI.out.mono ?_
      rintro o w5 ⟨rfl, rfl⟩
      obtain ⟨W4, rfl⟩ : ∃ W4, W4 = wr := ⟨_, rfl⟩
      clear cE cI
      go_wp2
      go_loopw [21, 22] (fun v a wz => ∃ (k K : Nat) (S : R), k ≤ k5 ∧ Hid (K = k + 1) ∧ K ≤ k5 + 1 ∧ a = .int .i64 K ∧ v = bv S ∧ Hid (S = 1 ^^^ sr (List.range k) fun k => tms (L.getD k 0) (pw x (k + 1))) ∧ Hid (∃ z, wz = W4.drewN z)) (fun _ a _ => k5 + 1 - (intOf a).toNat)
      case atStart => exact ⟨0, 1, 1, Nat.zero_le _, Lib.hid rfl, by omega, rfl, rfl, Lib.hid (show (1 : R) = 1 ^^^ 0 by rw [xz]), Lib.hid ⟨0, rfl⟩⟩
      case round =>
       obtain ⟨k, K, S, hk, hKk, hK5, rfl, rfl, hS, hz⟩ := hrel
       by_cases hke : k < k5
       ·have hKk' := hKk.out
        obtain ⟨z, hz⟩ := hz.out
        obtain ⟨b4, o4, rfl, hbl4, hc4⟩ := (hLq.out.drewN z).read k (by rw [hLeh.out]; exact hke)
        rw [← hz] at hc4 hbl4
        have hst : (1 ^^^ sr (List.range (k + 1)) fun k => tms (L.getD k 0) (pw x (k + 1))) = S ^^^ tms (L.getD k 0) (pw x K) := by
         rw [hS.out, List.range_succ, sr_app, hKk']
         show 1 ^^^ (_ ^^^ (tms (L.getD k 0) (pw x (k + 1)) ^^^ 0)) = _
         rw [xz, BitVec.xor_assoc]
        obtain ⟨Y, hY⟩ : ∃ Y, L.getD k 0 = Y := ⟨_, rfl⟩
        rw [hY] at hc4 hst
        have cP := fun W => (rpow_any x K W (by omega)).mono fun _ _ ⟨a, b⟩ => And.intro a b.symm
        obtain ⟨P, hP'⟩ : ∃ P, pw x K = P := ⟨_, rfl⟩
        rw [hP'] at cP hst
        have cM := fun W => (rmul_any Y P W).mono fun _ _ ⟨a, b⟩ => And.intro a b.symm
        obtain ⟨T, hT⟩ : ∃ T, tms Y P = T := ⟨_, rfl⟩
        rw [hT] at cM hst
        have hbx := bxr S T
        obtain ⟨S2, hS2⟩ : ∃ S2, S ^^^ T = S2 := ⟨_, rfl⟩
        rw [hS2] at hst hbx
        have hst := Lib.hid hst.symm
        have cP := Lib.hid cP
        have cM := Lib.hid cM
        have d3 : (K : Int) ≤ (k5 : Int) := by omega
        have d4 : decide (K ≤ k5) = true := decide_eq_true (by omega)
        have e2 : (K : Int) - 1 = (k : Int) := by omega
        have k0 : (0 : Int) ≤ (k : Int) := by omega
        have k1 : (k : Int) < (k5 : Int) := by omega
        have w1' : IntKind.i64.wrap (k : Int) = (k : Int) := by rw [IntKind.wrap_i64]; omega
        have hzh := Lib.hid hz
        clear hY hP' hT hS2 hz hS hKk'
        go_wp2_with fail
        go_quiet ((first | (go_at_call 148; exact Calls.quiet_of_same (cP.out _)) | (go_at_call 145; exact Calls.quiet_of_same (cM.out _))))
        rename_i nq _
        go_wp2
        go_roundw
        case rel => exact ⟨k + 1, K + 1, S2, by omega, Lib.hid (by rw [hKk.out]), by omega, by go_num, rfl, hst, Lib.hid ⟨z + nq, by rw [hzh.out, World.drewN_drewN]⟩⟩
        case measure => simp [intOf]; omega
       ·have hke2 : k = k5 := by omega
        rw [hke2] at hS
        have hKk' := hKk.out
        have hP2 : fnd n k5 L es i = (S == 0 && !decide (i ∈ es)) := by rw [hP.out, ← hS.out]
        have d3 : ¬ (K : Int) ≤ (k5 : Int) := by omega
        have d4 : decide (K ≤ k5) = false := decide_eq_false (by omega)
        obtain ⟨z, hz⟩ := hz.out
        have hown2 := Mem.own_drewN hown z
        have hbq2 := chainN hbq z
        rw [← hz] at hown2 hbq2
        have hbw2 : Below w.heap.size w wr := by rw [hz]; exact ⟨hbw.out.os, hbw.out.tape, hbw.out.output, hbw.out.size, hbw.out.block⟩
        have cH := cH.out wr hbw2
        have hyes := hyes.out
        have hnon := hnon.out
        clear hz hS hke2 hKk' hP hown hbq hbw
        rcases hS0 : (S == 0#8) with _ | _
        ·have t1 : ((S.toNat : Int) == 0) = false := by rw [G6.z_el, hS0]
         have hf := Lib.hid (hnon (by rw [hP2, show (S == 0) = false from hS0]; rfl))
         clear hS0 hP2 hyes hnon cH
         rw [← hf.out] at hown2
         go_wp2
         go_roundw
         case rel => exact ⟨i + 1, m, by omega, by omega, by go_num, hown2, hbq2⟩
         case measure => simp [intOf]; omega
        ·have t1 : ((S.toNat : Int) == 0) = true := by rw [G6.z_el, hS0]
         rcases hI : decide (i ∈ es) with _ | _
         ·rw [hI] at cH hP2
          have hf := Lib.hid (hyes (by rw [hP2, show (S == 0) = true from hS0]; rfl))
          have cH := Lib.hid cH
          clear hS0 hP2 hyes hnon hI
          go_wp2_with fail
          refine cH.out.mono ?_
          rintro o w6 ⟨rfl, rfl⟩
          clear cH
          go_wp2_with (at_builtin; refine wpList_append_own _ rfl _ _ 95 rfl W2.heap.size 3 t0 (.int .i64 0) 1 8 Tryz.underlying95 ht hx0 hx1 hx2 rfl (by decide) _ _ _ rfl (hown2.alloc _) ⟨wr.heap.size, 0, none⟩ 1 1 [.int .i64 (i : Int)] rfl rfl (one_new _ _ _) (one_cell _ _) ?d3 ?d4 ?d5 ?_)
          case d3 => unfold maxLen; omega
          case d4 => omega
          case d5 => have := hbq2.size; simp; omega
          intro v' w7 hown3 hgr _
          rw [show [Value.int .i64 (i : Int)] = is [(i : Int)] from rfl, ← is_append, ← hf.out] at hown3
          have hb4 := (hbq2.alloc hbq2.size _).grown hgr (by have := hbq2.size; simp; omega) (fun j hj => (hown2.lt j hj).1)
          clear hown2 hgr hbq2
          go_wp2
          go_roundw
          case rel => exact ⟨i + 1, m + 1, by omega, by omega, by go_num, hown3, hb4⟩
          case measure => simp [intOf]; omega
         ·rw [hI] at cH hP2
          have hf := Lib.hid (hnon (by rw [hP2, show (S == 0) = true from hS0]; rfl))
          have cH := Lib.hid cH
          clear hS0 hP2 hyes hnon hI
          rw [← hf.out] at hown2
          go_wp2_with fail
          refine cH.out.mono ?_
          rintro o w6 ⟨rfl, rfl⟩
          clear cH
          go_wp2
          go_roundw
          case rel => exact ⟨i + 1, m, by omega, by omega, by go_num, hown2, hbq2⟩
          case measure => simp [intOf]; omega
     ·have hie : i = n := by omega
      have d1 : ¬ (i : Int) < (n : Int) := by omega
      have d2 : decide (i < n) = false := decide_eq_false hltn
      obtain ⟨A7, c7, rfl, _, _⟩ := own_slice hown
      obtain ⟨hsl2, hlen⟩ := IsInts.of_own hown (fk_fit (fnd n k5 L es) i (by omega))
      rw [hie] at hsl2 hlen
      have hml : ((List.range n).filter (fnd n k5 L es)).length = m := by
       have : (fk (fnd n k5 L es) n).length = m := hlen
       unfold fk at this
       rwa [List.length_map] at this
      have hsl2 := Lib.hid (show IsInts wr A7 c7 (((List.range n).filter (fnd n k5 L es)).map fun (i : Nat) => (i : Int)) from hsl2)
      have hmlh := Lib.hid hml
      have hbb := Lib.hid (hb3.out.trans (hbq.mono hb3.out.size))
      obtain ⟨bo, hbo⟩ : ∃ bo, ((m : Int) == (k5 : Int)) = bo := ⟨_, rfl⟩
      have hbo2 : (m == k5) = bo := by
       rw [← hbo, Bool.eq_iff_iff, beq_iff_eq, beq_iff_eq]
       omega
      have hboh := Lib.hid (show bo = true ↔ m = k5 by rw [← hbo2, beq_iff_eq])
      have hA := Lib.hid (show bo = true → ((List.range n).filter (fnd n k5 L es)).length = k5 ∧ ((List.range n).filter (fnd n k5 L es)).Nodup ∧ ∀ i ∈ (List.range n).filter (fnd n k5 L es), i < n ∧ i ∉ es from fun h => by
       refine ⟨by rw [hml]; exact hboh.out.1 h, List.nodup_range.sublist List.filter_sublist, fun i hi => ?_⟩
       obtain ⟨a1, a2⟩ := List.mem_filter.1 hi
       refine ⟨List.mem_range.1 a1, ?_⟩
       unfold fnd at a2
       simp only [Bool.and_eq_true, Bool.not_eq_true', decide_eq_false_iff_not] at a2
       exact a2.2)
      have hC := Lib.hid (show ∀ v, Mo p n es.length l v → (plc n v).length = k5 → (∀ i, i < n → v i ≠ 0 → i ∉ es) → bo = true ∧ (List.range n).filter (fnd n k5 L es) = plc n v from fun v h1 h2 h3 => by
       have hfa := found_all hn h2 h3 (hval.out v h1 h2)
       refine ⟨hboh.out.2 ?_, hfa⟩
       rw [← hml, hfa, h2])
      clear hown hlen hie hbq hml
      go_wp2
      go_ret2
      exact ⟨A7, m, c7, _, bo, rfl, hsl2.out, hmlh.out, hbb.out, hA.out, hC.out⟩
end G8

namespace G8
open G5
open G7
open G6 (mb xz rs rs_len rs_get rs_one rs_append IsSl info_byte VAt.setR VAt.readR conv_sl)
open Go.RowKit Mem

def ValQ (w : World) (p n : Nat) (s : ByteArray) (Sy : List R) (ps : List Nat) (o : Ending) (w' : World) : Prop := ∃ (S : ByteArray) (ok : Bool), o = .returned (.tuple #[.string S, .bool ok]) ∧ Below w.heap.size w w' ∧
 (ok = true → S.size = n ∧ ∀ i, i < n → i ∉ ps → (el S).getD i 0 = (el s).getD i 0) ∧ ∀ u : Nat → R, (∀ r, r < p → Sy.getD r 0 = mom n u r) → (∀ i, i < n → i ∉ ps → u i = 0) → ok = true ∧ S = str (tab n fun i => (el s).getD i 0 ^^^ u i)
def zz (ps : List Nat) (L : List R) (k i : Nat) : R := sr (List.range k) fun j => if ps.getD j 0 = i then L.getD j 0 else 0
theorem zz_succ (ps : List Nat) (L : List R) (k i : Nat) : zz ps L (k + 1) i = zz ps L k i ^^^ (if i = ps.getD k 0 then L.getD k 0 else 0) := by
 unfold zz
 rw [List.range_succ, sr_app]
 show _ ^^^ ((if ps.getD k 0 = i then L.getD k 0 else 0) ^^^ 0) = _
 rw [xz]
 by_cases h : ps.getD k 0 = i
 ·rw [if_pos h, if_pos h.symm]
 ·rw [if_neg h, if_neg (fun e => h e.symm)]
def vrow (n : Nat) (l : List R) (ps : List Nat) (L : List R) (k : Nat) : List R := tab n fun i => l.getD i 0 ^^^ zz ps L k i
theorem vrow_zero {n : Nat} {l : List R} (h : l.length = n) (ps : List Nat) (L : List R) : vrow n l ps L 0 = l := (tab_eq h fun i _ => by rw [show zz ps L 0 i = 0 from rfl, xz]).symm
theorem vrow_step {n : Nat} (l : List R) (ps : List Nat) (L : List R) {k Z : Nat} (hZ : ps.getD k 0 = Z) (h : Z < n) : (vrow n l ps L k).set Z ((vrow n l ps L k).getD Z 0 ^^^ L.getD k 0) = vrow n l ps L (k + 1) := by
 unfold vrow
 rw [tab_get _ _ _ h, tab_set _ _ _ _ h]
 refine tab_congr fun i hi => ?_
 rw [zz_succ, hZ]
 by_cases e : i = Z
 ·subst e
  rw [if_pos rfl, if_pos rfl, BitVec.xor_assoc]
 ·rw [if_neg e, if_neg e, xz]
theorem zz_off {ps : List Nat} {L : List R} {i : Nat} (h : i ∉ ps) : zz ps L ps.length i = 0 := by
 unfold zz
 refine sr_zero _ fun k hk => if_neg fun e => h ?_
 have hk := List.mem_range.1 hk
 rw [← e, List.getD_eq_getElem?_getD, List.getElem?_eq_getElem hk]
 exact List.getElem_mem _
theorem zz_at {ps : List Nat} {L : List R} (hd : ps.Nodup) {k : Nat} (hk : k < ps.length) : zz ps L ps.length (ps.getD k 0) = L.getD k 0 := by
 unfold zz
 have : (sr (List.range ps.length) fun j => if ps.getD j 0 = ps.getD k 0 then L.getD j 0 else 0) = sr (List.range ps.length) fun j => if j = k then L.getD k 0 else 0 := sr_congr _ fun j hj => by
  have hj := List.mem_range.1 hj
  by_cases e : j = k
  ·subst e
   rw [if_pos rfl, if_pos rfl]
  ·rw [if_neg e, if_neg (fun h => e (nodup_get hd hj hk h))]
 rw [this, sr_pick, if_pos hk]
theorem vrow_off {n N : Nat} {l : List R} {ps : List Nat} {L : List R} (hN : ps.length = N) {i : Nat} (hi : i < n) (h : i ∉ ps) : (vrow n l ps L N).getD i 0 = l.getD i 0 := by
 subst hN
 unfold vrow
 rw [tab_get _ _ _ hi, zz_off h, xz]
theorem vrow_done {n N : Nat} {l : List R} {ps : List Nat} {L : List R} {u : Nat → R} (hN : ps.length = N) (hd : ps.Nodup) (hL : ∀ k, k < N → L.getD k 0 = valY N ps u k) (hu : ∀ i, i < n → i ∉ ps → u i = 0) : vrow n l ps L N = tab n fun i => l.getD i 0 ^^^ u i := by
 subst hN
 unfold vrow
 refine tab_congr fun i hi => ?_
 congr 1
 by_cases h : i ∈ ps
 ·obtain ⟨k, hk, e⟩ := List.getElem_of_mem h
  have e2 : ps.getD k 0 = i := by rw [List.getD_eq_getElem?_getD, List.getElem?_eq_getElem hk]; exact e
  rw [← e2, zz_at hd hk, hL k hk]
  unfold valY
  rw [if_pos hk]
 ·rw [zz_off h, hu i hi h]

set_option maxHeartbeats 16000000 in
theorem rval_any {A B : Option Addr} {c d p n N : Nat} {s : ByteArray} {Sy : List R} {ps : List Nat} {w : World} (hs : s.size = n) (hn : n ≤ 255) (h : IsSl w A c Sy) (hl : Sy.length = p) (hp1 : 1 ≤ p) (hp : p ≤ 64) (h' : IsInts w B d (ps.map fun (i : Nat) => (i : Int))) (hN : ps.length = N) (hNp : N ≤ p) (hd : ps.Nodup) (hlt : ∀ i ∈ ps, i < n) :
  Calls Tryz.prog 105 #[.string s, .slice A p c, .slice B N d] w (ValQ w p n s Sy ps) := by
 obtain ⟨i0, hi, hz0, hz1, hz2⟩ := info_parts info_byte
 obtain ⟨j0, hj, hy0, hy1, hy2⟩ := info_parts info_bytes
 have hsl := Lib.hid h
 have hes := Lib.hid h'
 have hlh := Lib.hid hl
 have hNh := Lib.hid hN
 have hdh := Lib.hid hd
 have hlth := Lib.hid hlt
 have hps : ∀ W, Below w.heap.size w W → ∀ k, k < N → ∃ b o, B = some ⟨b, o, none⟩ ∧ W.cell? ⟨b, o + k, none⟩ = some (.int .i64 ((ps.getD k 0 : Nat) : Int)) := fun W q k hk => by
  obtain ⟨b, o, e, _, hc⟩ := (h'.below q).read k (by rw [List.length_map, hN]; exact hk)
  rw [cast_get ps k (by rw [hN]; exact hk)] at hc
  exact ⟨b, o, e, hc⟩
 have hpl : ∀ k, k < N → ps.getD k 0 < n := fun k hk => hlt _ (nat_mem ps k (by rw [hN]; exact hk))
 have hps := Lib.hid hps
 have hpl := Lib.hid hpl
 obtain ⟨M, hM⟩ : ∃ M, valM n N ps Sy = M := ⟨_, rfl⟩
 have hMh := Lib.hid hM
 have hsz : (s.size : Int) = (n : Int) := by rw [hs]
 have hsh := Lib.hid hs
 clear h h' hl hN hd hlt hM hs
 go_enter Tryz.func105, Tryz.ntmps105
 go_wp2
 go_loopw [8, 9] (fun v a wr => ∃ (j : Nat) (g c : Nat → Nat), j ≤ p ∧ a = .int .i64 j ∧ Hid (Rws wr w.heap.size (N + 1) j v g c M) ∧ Hid (Below w.heap.size w wr)) (fun _ a _ => p - (intOf a).toNat)
 case atStart => exact ⟨0, fun _ => 0, fun _ => 0, Nat.zero_le _, rfl, Lib.hid (Rws.start _ _ _ _ _ _), Lib.hid (Below.refl _ _)⟩
 case round =>
  obtain ⟨j, g, c', hjp, rfl, hR, hb⟩ := hrel
  by_cases hlt : j < p
  ·obtain ⟨W0, rfl⟩ : ∃ W0, W0 = wr := ⟨_, rfl⟩
   have d1 : (j : Int) < (p : Int) := by omega
   have d2 : decide (j < p) = true := decide_eq_true hlt
   go_wp2
   go_loopw [10, 11] (fun v a wq => ∃ k : Nat, k ≤ N ∧ a = .int .i64 k ∧ wq.ownsRow W0.heap.size 5 1 v k (rs (tab k (M j))) ∧ Below W0.heap.size W0 wq) (fun _ a _ => N - (intOf a).toNat)
   case atStart => exact ⟨0, Nat.zero_le _, rfl, World.ownsRow_nil _ _ _ _, Below.refl _ _⟩
   case round =>
    obtain ⟨k, hk, rfl, hown, hbq⟩ := hrel
    by_cases hke : k < N
    ·have hbb := hb.out.trans (hbq.mono hb.out.size)
     obtain ⟨b2, o2, rfl, hc2⟩ := hps.out wr hbb k hke
     have hZn := hpl.out k hke
     have hMk : M j k = pw (lc n (ps.getD k 0)) j := by
      rw [← hMh.out]
      unfold valM
      rw [if_pos hke]
     obtain ⟨Z, hZ⟩ : ∃ Z, ps.getD k 0 = Z := ⟨_, rfl⟩
     rw [hZ] at hc2 hZn hMk
     have cE := rel_any wr (by omega) hZn
     have cP := rpow_any (lc n Z) j wr (by omega)
     have hst := tab_succ k (M j)
     rw [hMk] at hst
     obtain ⟨Y, hY⟩ : ∃ Y, lc n Z = Y := ⟨_, rfl⟩
     rw [hY] at cE cP hst
     obtain ⟨X, hX⟩ : ∃ X, pw Y j = X := ⟨_, rfl⟩
     rw [hX] at cP hst
     have hst := Lib.hid hst
     have cE := Lib.hid cE
     have cP := Lib.hid cP
     have d3 : (k : Int) < (N : Int) := by omega
     have d4 : decide (k < N) = true := decide_eq_true hke
     have k0 : (0 : Int) ≤ (k : Int) := by omega
     clear hMk hX hY hZ hbb
     go_wp2_with fail
     refine cE.out.mono ?_
     rintro o w5 ⟨rfl, rfl⟩
     go_wp2_with fail
     refine cP.out.mono ?_
     rintro o w5 ⟨rfl, rfl⟩
     clear cE cP
     go_wp2_with (at_builtin; refine wpList_append_own _ rfl _ _ 53 rfl W0.heap.size 5 i0 (.int .u8 0) 1 1 Tryz.underlying53 hi hz0 hz1 hz2 rfl (by decide) _ _ _ rfl (hown.alloc _) ⟨wr.heap.size, 0, none⟩ 1 1 [bv X] rfl rfl (one_new _ _ _) (one_cell _ _) ?c3 ?c4 ?c5 ?_)
     case c3 => unfold maxLen; omega
     case c4 => omega
     case c5 => have := hbq.size; simp; omega
     intro v' w2 hown2 hgr _
     rw [show [bv X] = rs [X] from rfl, ← rs_append, ← hst.out] at hown2
     have hb2 := (hbq.alloc hbq.size _).grown hgr (by have := hbq.size; simp; omega) (fun j hj => (hown.lt j hj).1)
     clear hown hgr hbq hc2
     go_wp2
     go_roundw
     case rel => exact ⟨k + 1, by omega, by go_num, hown2, hb2⟩
     case measure => simp [intOf]; omega
    ·have hkee : k = N := by omega
     have hql : j < Sy.length := by rw [hlh.out]; exact hlt
     obtain ⟨b2, o2, rfl, hbl2, hc2⟩ := ((hsl.out.below hb.out).below hbq).read j hql
     rw [hkee] at hown
     have hMk : M j N = Sy.getD j 0 := by
      rw [← hMh.out]
      unfold valM
      rw [if_neg (Nat.lt_irrefl N)]
     have hst := tab_succ N (M j)
     rw [hMk] at hst
     obtain ⟨X, hX⟩ : ∃ X, Sy.getD j 0 = X := ⟨_, rfl⟩
     rw [hX] at hc2 hst
     have hst := Lib.hid hst
     have d3 : ¬ (k : Int) < (N : Int) := by omega
     have d4 : decide (k < N) = false := decide_eq_false hke
     have q0 : (0 : Int) ≤ (j : Int) := by omega
     have hbqs := hbq.size
     have hkeh := Lib.hid hkee
     clear hql hMk hX hkee hk
     go_wp2_with (at_builtin; refine wpList_append_own _ rfl _ _ 53 rfl W0.heap.size 5 i0 (.int .u8 0) 1 1 Tryz.underlying53 hi hz0 hz1 hz2 rfl (by decide) _ _ _ rfl (hown.alloc _) ⟨wr.heap.size, 0, none⟩ 1 1 [bv X] rfl rfl (one_new _ _ _) (one_cell _ _) ?c3 ?c4 ?c5 ?_)
     case c3 => unfold maxLen; omega
     case c4 => omega
     case c5 => first | omega | (simp; omega)
     intro v' w2 hown2 hgr _
     rw [show [bv X] = rs [X] from rfl, ← rs_append, ← hst.out] at hown2
     have hb2 := (hbq.alloc hbqs _).grown hgr (by first | omega | (simp; omega)) (fun j hj => (hown.lt j hj).1)
     have hR2 := hR.out.below hb2
     have hbb2 := hb.out.trans (hb2.mono hb.out.size)
     obtain ⟨gn, cn, rfl, hg1, hg2, _, _, _⟩ := own_at hown2 (by omega)
     have hfar : ∀ r, r < j → g r ≠ gn := fun r hr e => by have := (hR.out.lt hr).2; omega
     have hown3 : w2.ownsRow w.heap.size 5 1 (.slice (some ⟨gn, 0, none⟩) (N + 1) cn) (N + 1) (rs (tab (N + 1) (M j))) := ⟨hown2.1, hown2.2.imp id fun ⟨g, cap, cur, h1, h2, h3⟩ => ⟨g, cap, cur, h1, Nat.le_trans hb.out.size h2, h3⟩⟩
     clear hown hgr hbq hc2 hbqs hown2
     go_wp2_with (at_builtin; refine wpList_append_own _ rfl _ _ 163 rfl w.heap.size 53 j0 (.slice none 0 0) 1 24 Tryz.underlying163 hj hy0 hy1 hy2 rfl (by decide) _ _ _ rfl (hR2.top.alloc _) ⟨w2.heap.size, 0, none⟩ 1 1 [.slice (some ⟨gn, 0, none⟩) (N + 1) cn] rfl rfl (one_new _ _ _) (fun u hu => by rw [List.mem_singleton.1 hu]; rfl) ?f3 ?f4 ?f5 ?_)
     case f3 => unfold maxLen; omega
     case f4 => omega
     case f5 => have := hbb2.size; simp; omega
     intro V' w3 hown4 hgr2 _
     have ha := mb w2 (.cells #[.slice (some ⟨gn, 0, none⟩) (N + 1) cn] 53)
     have hR3 := Lib.hid ((hR2.below ha).snoc (own_below hown3 ha) hfar hown4 hgr2)
     have hb3 := Lib.hid ((hbb2.trans (ha.mono hbb2.size)).grown hgr2 (by have := hbb2.size; simp; omega) (fun j hj => (hR2.top.lt j hj).1))
     clear hown3 hown4 hgr2 hR2 hbb2 ha hfar hb2
     go_wp2
     go_roundw
     case rel => exact ⟨j + 1, _, _, by omega, by go_num, hR3, hb3⟩
     case measure => simp [intOf]; omega
  ·have hjpe : j = p := by omega
   have d1 : ¬ (j : Int) < (p : Int) := by omega
   have d2 : decide (j < p) = false := decide_eq_false hlt
   rw [hjpe] at hR
   have cG := gauss_rows hR.out (by omega) (by omega) hb.out.size (fun h0 => by omega)
   obtain ⟨A', cap', rfl, _, _⟩ := own_slice hR.out.top
   have hUq : ∀ u : Nat → R, (∀ r, r < p → Sy.getD r 0 = mom n u r) → (∀ i, i < n → i ∉ ps → u i = 0) → Uq p N M (valY N ps u) := fun u h1 h2 => by
    have := val_uq (p := p) (S := Sy) hn hNh.out hdh.out hlth.out hNp h1 h2
    rwa [hMh.out] at this
   have hUq := Lib.hid hUq
   have cG := Lib.hid cG
   have d3 : ¬ (p : Int) < (N : Int) := by omega
   have d4 : decide (p < N) = false := decide_eq_false (by omega)
   have hjh := Lib.hid hjpe
   clear hR hjpe
   go_wp2_with fail
   refine cG.out.mono ?_
   rintro o w2 ⟨A5, k5, c5, L, ok, rfl, hL, hLl, hb2, hok, huq⟩
   have hb3 := Lib.hid (show Below w.heap.size w w2 from hb.out.trans hb2)
   clear cG hb hb2 d1 d2 d3 d4 hlt
   rcases ok with _ | _
   ·have hno := Lib.hid (show ∀ u : Nat → R, (∀ r, r < p → Sy.getD r 0 = mom n u r) → (∀ i, i < n → i ∉ ps → u i = 0) → False from fun u h1 h2 => by cases (huq _ (hUq.out u h1 h2)).1)
    clear huq hok
    go_wp2
    go_ret2
    exact ⟨⟨#[]⟩, false, rfl, hb3.out, fun h => (by cases h), fun u h1 h2 => (hno.out u h1 h2).elim⟩
   ·have hke : k5 = N := hok rfl
    have hLe : L.length = N := hLl.trans hke
    have hval := Lib.hid (show ∀ u : Nat → R, (∀ r, r < p → Sy.getD r 0 = mom n u r) → (∀ i, i < n → i ∉ ps → u i = 0) → ∀ k, k < N → L.getD k 0 = valY N ps u k from fun u h1 h2 => (huq _ (hUq.out u h1 h2)).2)
    have hLeh := Lib.hid hLe
    have hLs := Lib.hid hL
    subst hke
    clear huq hok hLl hLe hL hUq
    obtain ⟨cap, W6, hcap, hcap2, hcv, hat6, hg6, hb6⟩ := bytes_row w2 s (by rw [hsh.out]; omega)
    obtain ⟨G, hG⟩ : ∃ G, w2.heap.size = G := ⟨_, rfl⟩
    rw [hG] at hat6 hg6 hb6 hcv
    rw [hsh.out] at hcap hcv
    have hel : (el s).length = n := by rw [el_len, hsh.out]
    have hGh := Lib.hid hG
    have hatr := Lib.hid (show VAt W6 G (rs (vrow n (el s) ps L 0)) by rw [vrow_zero hel]; exact hat6)
    have hg6 := Lib.hid hg6
    have hb6 := Lib.hid (show Below w2.heap.size w2 W6 by rw [hG]; exact hb6)
    clear hat6 hel hG
    go_wp2
    clear hcv
    go_loopw [15] (fun a wr => ∃ k : Nat, k ≤ k5 ∧ a = .int .i64 k ∧ Hid (VAt wr G (rs (vrow n (el s) ps L k))) ∧ Hid (G < wr.heap.size) ∧ Hid (Below w2.heap.size w2 wr)) (fun a _ => k5 - (intOf a).toNat)
    case atStart => exact ⟨0, Nat.zero_le _, rfl, hatr, hg6, hb6⟩
    case round =>
     clear hatr hg6 hb6
     obtain ⟨k, hk, rfl, hat, hgl, hb⟩ := hrel
     by_cases hke : k < k5
     ·have hbw := hb3.out.trans (hb.out.mono hb3.out.size)
      obtain ⟨b2, o2, rfl, hc2⟩ := hps.out wr hbw k hke
      have hZn := hpl.out k hke
      obtain ⟨b3, o3, rfl, hbl3, hc3⟩ := (hLs.out.below hb.out).read k (by rw [hLeh.out]; exact hke)
      obtain ⟨Z, hZ⟩ : ∃ Z, ps.getD k 0 = Z := ⟨_, rfl⟩
      rw [hZ] at hc2 hZn
      have hst := vrow_step (el s) ps L hZ hZn
      have hvl : (vrow n (el s) ps L k).length = n := tab_len _ _
      obtain ⟨hn1, hf1⟩ := VAt.readR hat.out (k := Z) (by rw [hvl]; exact hZn)
      obtain ⟨X, hX⟩ : ∃ X, (vrow n (el s) ps L k).getD Z 0 = X := ⟨_, rfl⟩
      obtain ⟨Y, hY⟩ : ∃ Y, L.getD k 0 = Y := ⟨_, rfl⟩
      rw [hX] at hn1 hst
      rw [hY] at hc3 hst
      have hbx := bxr X Y
      obtain ⟨T, hT⟩ : ∃ T, X ^^^ Y = T := ⟨_, rfl⟩
      rw [hT] at hst hbx
      have hat2 := Lib.hid (show VAt (wr.setCell ⟨G, Z, none⟩ (bv T)).drew G (rs (vrow n (el s) ps L (k + 1))) by
       have := (VAt.setR hat.out (k := Z) (by rw [hvl]; exact hZn) T).drew
       rw [hst] at this
       exact this)
      have hgl2 := Lib.hid (show G < (wr.setCell ⟨G, Z, none⟩ (bv T)).drew.heap.size by simpa using hgl.out)
      have hb4 := Lib.hid ((hb.out.setCell (p := ⟨G, Z, none⟩) (by rw [hGh.out]; exact Nat.le_refl _) (bv T)).drew)
      have d1 : (k : Int) < (k5 : Int) := by omega
      have d2 : decide (k < k5) = true := decide_eq_true hke
      have k0 : (0 : Int) ≤ (k : Int) := by omega
      have z0 : (0 : Int) ≤ (Z : Int) := by omega
      have z1 : (Z : Int) < (n : Int) := by omega
      clear hst hvl hX hY hT hat hgl hb hZ hbw
      go_wp2_with fail
      refine wp_region_still_tail 18 (by kernel_rfl) (by kernel_rfl) ?_
      simp only [List.take_succ_cons, List.take_zero, List.drop_succ_cons, List.drop_zero]
      repeat still_step
      refine wpStill_nil ?_
      change wpList _ _ _ _ _ wr.drew
      go_wp2
      go_roundw
      case rel => exact ⟨k + 1, by omega, by go_num, hat2, hgl2, hb4⟩
      case measure => simp [intOf]; omega
     ·have hkk : k = k5 := by omega
      rw [hkk] at hat
      have d1 : ¬ (k : Int) < (k5 : Int) := by omega
      have d2 : decide (k < k5) = false := decide_eq_false hke
      have hlen : (vrow n (el s) ps L k5).length = n := tab_len _ _
      have hsl2 := sl_at (c := cap) hat.out (by rw [hlen]; exact hcap) hcap2 hgl.out
      have hconv := conv_sl (P := Tryz.prog) (dst := 9) Tryz.underlying53 Tryz.underlying5 Tryz.underlying9 hsl2 hlen
      rw [show (⟨(G6.u8s (vrow n (el s) ps L k5)).toArray⟩ : ByteArray) = str (vrow n (el s) ps L k5) from rfl] at hconv
      obtain ⟨Q, hQ⟩ : ∃ Q, str (vrow n (el s) ps L k5) = Q := ⟨_, rfl⟩
      rw [hQ] at hconv
      have hA := Lib.hid (show true = true → Q.size = n ∧ ∀ i, i < n → i ∉ ps → (el Q).getD i 0 = (el s).getD i 0 from fun _ => ⟨by rw [← hQ, size_str, hlen], fun i hi hni => by rw [← hQ, el_str, vrow_off hNh.out hi hni]⟩)
      have hC := Lib.hid (show ∀ u : Nat → R, (∀ r, r < p → Sy.getD r 0 = mom n u r) → (∀ i, i < n → i ∉ ps → u i = 0) → true = true ∧ Q = str (tab n fun i => (el s).getD i 0 ^^^ u i) from fun u h1 h2 => ⟨rfl, by rw [← hQ, vrow_done hNh.out hdh.out (hval.out u h1 h2) h2]⟩)
      have hBB := Lib.hid (hb3.out.trans (hb.out.mono hb3.out.size))
      clear hsl2 hlen hat hgl hb hkk hQ
      go_wp2
      go_ret2
      exact ⟨Q, true, rfl, hBB.out, fun _ => hA.out trivial, fun u h1 h2 => ⟨rfl, (hC.out u h1 h2).2⟩⟩
end G8
end Go.Proofs.YtiodkllckcpinaaGreatDoor
