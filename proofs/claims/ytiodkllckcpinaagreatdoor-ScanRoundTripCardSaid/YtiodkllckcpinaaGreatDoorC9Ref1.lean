/- The reference of layer 9: mod. -/
import Derived.Test.YtiodkllckcpinaaGreatDoorM14AB
import Derived.Deep.QuietTactic
import Derived.BigQuiet
import Derived.Deep.RegionHeld3
set_option linter.unusedVariables false
set_option linter.unusedSimpArgs false
set_option maxRecDepth 100000
namespace Go.Proofs.YtiodkllckcpinaaGreatDoor
namespace C9
open Go.RowKit Mem

theorem tm_emod (n m : Int) (m0 : 1 ≤ m) : n % m = if n.tmod m < 0 then n.tmod m + m else n.tmod m := by
 have h1 := Int.emod_nonneg n (show m ≠ 0 by omega)
 have h2 := Int.emod_lt_of_pos n (show 0 < m by omega)
 by_cases h0 : 0 ≤ n
 ·rw [Int.tmod_eq_emod_of_nonneg h0, if_neg (by omega)]
 ·have h3 := @Int.tmod_eq_emod n m
  by_cases hd : m ∣ n
  ·rw [if_pos (Or.inr hd)] at h3
   rw [h3, if_neg (by omega)]
   omega
  ·rw [if_neg (by intro hh; rcases hh with hh | hh; exact h0 hh; exact hd hh)] at h3
   rw [h3, if_pos (by omega)]
   omega
set_option maxHeartbeats 2000000 in
theorem mod_any (n m : Int) (w : World) (h0 : -9223372036854775808 ≤ n) (h1 : n ≤ 9223372036854775807) (m0 : 1 ≤ m) (m1 : m ≤ 4) :
  Calls Tryz.prog 142 #[.int .i64 n, .int .i64 m] w fun e w' => e = .returned (.int .i64 (n % m)) ∧ w = w' := by
 go_enter Tryz.func142, Tryz.ntmps142
 have ht := tm_emod n m m0
 have hm0 := Int.emod_nonneg n (show m ≠ 0 by omega)
 have hm1 := Int.emod_lt_of_pos n (show 0 < m by omega)
 replace ht := Lib.hid ht
 by_cases hneg : n.tmod m < 0
 ·have d1 : decide (n.tmod m < 0) = true := decide_eq_true hneg
  have e1 := ht.out
  rw [if_pos hneg] at e1
  have e2 : wrap64 (n.tmod m + m) = n.tmod m + m := IntWalk.wrap64_in _ ⟨by omega, by omega⟩
  go_wp2
  go_ret
  exact ⟨by rw [e1]; rfl, rfl⟩
 ·have d1 : decide (n.tmod m < 0) = false := decide_eq_false hneg
  have e1 := ht.out
  rw [if_neg hneg] at e1
  go_wp2
  go_ret
  exact ⟨rfl, rfl⟩
theorem wr_in {n : Int} (h0 : 0 ≤ n) (h1 : n ≤ 200) : IntKind.i64.wrap n = n ∧ IntKind.u8.wrap n = n := ⟨IntWalk.i64_in n ⟨by omega, by omega⟩, by rw [IntKind.wrap_u8]; omega⟩
set_option maxHeartbeats 8000000 in
theorem rnext_any (s b : Int) (w : World) (h0 : -9223372036854775808 ≤ s) (h1 : s ≤ 9223372036854775807) (h2 : -9223372036854775808 ≤ b) (h3 : b ≤ 9223372036854775807) :
  Calls Tryz.prog 99 #[.int .i64 s, .int .i64 b] w (Nxt s b w) := by
 have c1 := fun W => mod_any s 4 W h0 h1 (by decide) (by decide)
 have c2 := fun W => mod_any b 2 W h2 h3 (by decide) (by decide)
 have e1 : oneB s = decide (2 ≤ s % 4) := rfl
 have e2 : twoB s = decide (s % 4 % 2 = 1) := by unfold twoB; rw [show s % 4 % 2 = s % 2 by omega]
 have e3 : twoB b = decide (b % 2 = 1) := rfl
 have hs0 : 0 ≤ s % 4 := by omega
 have hs4 : s % 4 < 4 := by omega
 have hb0 : 0 ≤ b % 2 := by omega
 have hb2 : b % 2 < 2 := by omega
 unfold Nxt
 rw [e1, e2, e3]
 obtain ⟨S, hS⟩ : ∃ S, s % 4 = S := ⟨_, rfl⟩
 obtain ⟨U, hU⟩ : ∃ U, b % 2 = U := ⟨_, rfl⟩
 rw [hS] at c1 hs0 hs4 ⊢
 rw [hU] at c2 hb0 hb2 ⊢
 clear e1 e2 e3 hS hU h0 h1 h2 h3
 have hS4 : S = 0 ∨ S = 1 ∨ S = 2 ∨ S = 3 := by omega
 have hU2 : U = 0 ∨ U = 1 := by omega
 clear hs0 hs4 hb0 hb2
 replace c1 := Lib.hid c1
 replace c2 := Lib.hid c2
 have hB := Below.refl w.heap.size w
 go_enter Tryz.func99, Tryz.ntmps99
 go_wp2_with fail
 refine (c1.out _).mono ?_
 rintro e w1 ⟨rfl, rfl⟩
 go_wp2_with fail
 refine (c2.out _).mono ?_
 rintro e w1 ⟨rfl, rfl⟩
 clear c1 c2
 rcases hS4 with rfl | rfl | rfl | rfl
 ·rcases hU2 with rfl | rfl
  ·have z0 := (wr_in (n := 0) (by decide) (by decide)).1
   have z1 := (wr_in (n := 1) (by decide) (by decide)).1
   have z2 := (wr_in (n := 2) (by decide) (by decide)).1
   have z3 := (wr_in (n := 3) (by decide) (by decide)).1
   have y0 := (wr_in (n := 0) (by decide) (by decide)).2
   have y1 := (wr_in (n := 1) (by decide) (by decide)).2
   have y2 := (wr_in (n := 48) (by decide) (by decide)).2
   have y3 := (wr_in (n := 49) (by decide) (by decide)).2
   have t0 : (0 : Int).tmod 2 = 0 := by decide
   have t1 : (1 : Int).tmod 2 = 1 := by decide
   have t2 : (2 : Int).tmod 2 = 0 := by decide
   have t3 : (3 : Int).tmod 2 = 1 := by decide
   have cc : ∀ (v W : World), W.cell? ⟨v.heap.size, 0, none⟩ = some (.int .u8 ((48 : UInt8).toNat : Int)) ∧ W.cell? ⟨v.heap.size, 1, none⟩ = some (.int .u8 ((48 : UInt8).toNat : Int)) → (convert 53 9 (.slice (some ⟨v.heap.size, 0, none⟩) 2 2)).run Tryz.prog W = .ok (.string ⟨#[48, 48]⟩) W := fun v W h => conv_two v W rfl rfl Tryz.underlying53 Tryz.underlying5 Tryz.underlying9 h.1 h.2
   have cv1 := cc w (w.alloc (.cells #[.int .u8 ((48 : UInt8).toNat : Int), .int .u8 ((48 : UInt8).toNat : Int)] 5)) (two_new w _ _ _)
   have cv2 := cc w (w.alloc (.cells #[.int .u8 ((48 : UInt8).toNat : Int), .int .u8 ((48 : UInt8).toNat : Int)] 5)).drew (two_new w _ _ _)
   have cv3 := cc w.drew (w.drew.alloc (.cells #[.int .u8 ((48 : UInt8).toNat : Int), .int .u8 ((48 : UInt8).toNat : Int)] 5)) (two_new w.drew _ _ _)
   have cv4 := cc w.drew (w.drew.alloc (.cells #[.int .u8 ((48 : UInt8).toNat : Int), .int .u8 ((48 : UInt8).toNat : Int)] 5)).drew (two_new w.drew _ _ _)
   simp only [show (((48 : UInt8).toNat : Nat) : Int) = 48 from rfl, show (((49 : UInt8).toNat : Nat) : Int) = 49 from rfl] at cv1 cv2 cv3 cv4
   clear cc
   go_wp2_with fail
   go_region_held (fun _ => True) (trivial) (fail)
   go_wp2
   go_ret2
   exact ⟨rfl, chainN (hB.alloc hB.size _) 1⟩
  ·have z0 := (wr_in (n := 0) (by decide) (by decide)).1
   have z1 := (wr_in (n := 1) (by decide) (by decide)).1
   have z2 := (wr_in (n := 2) (by decide) (by decide)).1
   have z3 := (wr_in (n := 3) (by decide) (by decide)).1
   have y0 := (wr_in (n := 0) (by decide) (by decide)).2
   have y1 := (wr_in (n := 1) (by decide) (by decide)).2
   have y2 := (wr_in (n := 48) (by decide) (by decide)).2
   have y3 := (wr_in (n := 49) (by decide) (by decide)).2
   have t0 : (0 : Int).tmod 2 = 0 := by decide
   have t1 : (1 : Int).tmod 2 = 1 := by decide
   have t2 : (2 : Int).tmod 2 = 0 := by decide
   have t3 : (3 : Int).tmod 2 = 1 := by decide
   have cc : ∀ (v W : World), W.cell? ⟨v.heap.size, 0, none⟩ = some (.int .u8 ((49 : UInt8).toNat : Int)) ∧ W.cell? ⟨v.heap.size, 1, none⟩ = some (.int .u8 ((49 : UInt8).toNat : Int)) → (convert 53 9 (.slice (some ⟨v.heap.size, 0, none⟩) 2 2)).run Tryz.prog W = .ok (.string ⟨#[49, 49]⟩) W := fun v W h => conv_two v W rfl rfl Tryz.underlying53 Tryz.underlying5 Tryz.underlying9 h.1 h.2
   have cv1 := cc w (w.alloc (.cells #[.int .u8 ((49 : UInt8).toNat : Int), .int .u8 ((49 : UInt8).toNat : Int)] 5)) (two_new w _ _ _)
   have cv2 := cc w (w.alloc (.cells #[.int .u8 ((49 : UInt8).toNat : Int), .int .u8 ((49 : UInt8).toNat : Int)] 5)).drew (two_new w _ _ _)
   have cv3 := cc w.drew (w.drew.alloc (.cells #[.int .u8 ((49 : UInt8).toNat : Int), .int .u8 ((49 : UInt8).toNat : Int)] 5)) (two_new w.drew _ _ _)
   have cv4 := cc w.drew (w.drew.alloc (.cells #[.int .u8 ((49 : UInt8).toNat : Int), .int .u8 ((49 : UInt8).toNat : Int)] 5)).drew (two_new w.drew _ _ _)
   simp only [show (((48 : UInt8).toNat : Nat) : Int) = 48 from rfl, show (((49 : UInt8).toNat : Nat) : Int) = 49 from rfl] at cv1 cv2 cv3 cv4
   clear cc
   go_wp2_with fail
   go_region_held (fun _ => True) (trivial) (fail)
   go_wp2
   go_ret2
   exact ⟨rfl, chainN (hB.alloc hB.size _) 1⟩
 ·rcases hU2 with rfl | rfl
  ·have z0 := (wr_in (n := 0) (by decide) (by decide)).1
   have z1 := (wr_in (n := 1) (by decide) (by decide)).1
   have z2 := (wr_in (n := 2) (by decide) (by decide)).1
   have z3 := (wr_in (n := 3) (by decide) (by decide)).1
   have y0 := (wr_in (n := 0) (by decide) (by decide)).2
   have y1 := (wr_in (n := 1) (by decide) (by decide)).2
   have y2 := (wr_in (n := 48) (by decide) (by decide)).2
   have y3 := (wr_in (n := 49) (by decide) (by decide)).2
   have t0 : (0 : Int).tmod 2 = 0 := by decide
   have t1 : (1 : Int).tmod 2 = 1 := by decide
   have t2 : (2 : Int).tmod 2 = 0 := by decide
   have t3 : (3 : Int).tmod 2 = 1 := by decide
   have cc : ∀ (v W : World), W.cell? ⟨v.heap.size, 0, none⟩ = some (.int .u8 ((49 : UInt8).toNat : Int)) ∧ W.cell? ⟨v.heap.size, 1, none⟩ = some (.int .u8 ((49 : UInt8).toNat : Int)) → (convert 53 9 (.slice (some ⟨v.heap.size, 0, none⟩) 2 2)).run Tryz.prog W = .ok (.string ⟨#[49, 49]⟩) W := fun v W h => conv_two v W rfl rfl Tryz.underlying53 Tryz.underlying5 Tryz.underlying9 h.1 h.2
   have cv1 := cc w (w.alloc (.cells #[.int .u8 ((49 : UInt8).toNat : Int), .int .u8 ((49 : UInt8).toNat : Int)] 5)) (two_new w _ _ _)
   have cv2 := cc w (w.alloc (.cells #[.int .u8 ((49 : UInt8).toNat : Int), .int .u8 ((49 : UInt8).toNat : Int)] 5)).drew (two_new w _ _ _)
   have cv3 := cc w.drew (w.drew.alloc (.cells #[.int .u8 ((49 : UInt8).toNat : Int), .int .u8 ((49 : UInt8).toNat : Int)] 5)) (two_new w.drew _ _ _)
   have cv4 := cc w.drew (w.drew.alloc (.cells #[.int .u8 ((49 : UInt8).toNat : Int), .int .u8 ((49 : UInt8).toNat : Int)] 5)).drew (two_new w.drew _ _ _)
   simp only [show (((48 : UInt8).toNat : Nat) : Int) = 48 from rfl, show (((49 : UInt8).toNat : Nat) : Int) = 49 from rfl] at cv1 cv2 cv3 cv4
   clear cc
   go_wp2_with fail
   go_region_held (fun _ => True) (trivial) (fail)
   go_wp2
   go_ret2
   exact ⟨rfl, chainN (hB.alloc hB.size _) 1⟩
  ·have z0 := (wr_in (n := 0) (by decide) (by decide)).1
   have z1 := (wr_in (n := 1) (by decide) (by decide)).1
   have z2 := (wr_in (n := 2) (by decide) (by decide)).1
   have z3 := (wr_in (n := 3) (by decide) (by decide)).1
   have y0 := (wr_in (n := 0) (by decide) (by decide)).2
   have y1 := (wr_in (n := 1) (by decide) (by decide)).2
   have y2 := (wr_in (n := 48) (by decide) (by decide)).2
   have y3 := (wr_in (n := 49) (by decide) (by decide)).2
   have t0 : (0 : Int).tmod 2 = 0 := by decide
   have t1 : (1 : Int).tmod 2 = 1 := by decide
   have t2 : (2 : Int).tmod 2 = 0 := by decide
   have t3 : (3 : Int).tmod 2 = 1 := by decide
   have cc : ∀ (v W : World), W.cell? ⟨v.heap.size, 0, none⟩ = some (.int .u8 ((48 : UInt8).toNat : Int)) ∧ W.cell? ⟨v.heap.size, 1, none⟩ = some (.int .u8 ((48 : UInt8).toNat : Int)) → (convert 53 9 (.slice (some ⟨v.heap.size, 0, none⟩) 2 2)).run Tryz.prog W = .ok (.string ⟨#[48, 48]⟩) W := fun v W h => conv_two v W rfl rfl Tryz.underlying53 Tryz.underlying5 Tryz.underlying9 h.1 h.2
   have cv1 := cc w (w.alloc (.cells #[.int .u8 ((48 : UInt8).toNat : Int), .int .u8 ((48 : UInt8).toNat : Int)] 5)) (two_new w _ _ _)
   have cv2 := cc w (w.alloc (.cells #[.int .u8 ((48 : UInt8).toNat : Int), .int .u8 ((48 : UInt8).toNat : Int)] 5)).drew (two_new w _ _ _)
   have cv3 := cc w.drew (w.drew.alloc (.cells #[.int .u8 ((48 : UInt8).toNat : Int), .int .u8 ((48 : UInt8).toNat : Int)] 5)) (two_new w.drew _ _ _)
   have cv4 := cc w.drew (w.drew.alloc (.cells #[.int .u8 ((48 : UInt8).toNat : Int), .int .u8 ((48 : UInt8).toNat : Int)] 5)).drew (two_new w.drew _ _ _)
   simp only [show (((48 : UInt8).toNat : Nat) : Int) = 48 from rfl, show (((49 : UInt8).toNat : Nat) : Int) = 49 from rfl] at cv1 cv2 cv3 cv4
   clear cc
   go_wp2_with fail
   go_region_held (fun _ => True) (trivial) (fail)
   go_wp2
   go_ret2
   exact ⟨rfl, chainN (hB.alloc hB.size _) 1⟩
 ·rcases hU2 with rfl | rfl
  ·have z0 := (wr_in (n := 0) (by decide) (by decide)).1
   have z1 := (wr_in (n := 1) (by decide) (by decide)).1
   have z2 := (wr_in (n := 2) (by decide) (by decide)).1
   have z3 := (wr_in (n := 3) (by decide) (by decide)).1
   have y0 := (wr_in (n := 0) (by decide) (by decide)).2
   have y1 := (wr_in (n := 1) (by decide) (by decide)).2
   have y2 := (wr_in (n := 48) (by decide) (by decide)).2
   have y3 := (wr_in (n := 49) (by decide) (by decide)).2
   have t0 : (0 : Int).tmod 2 = 0 := by decide
   have t1 : (1 : Int).tmod 2 = 1 := by decide
   have t2 : (2 : Int).tmod 2 = 0 := by decide
   have t3 : (3 : Int).tmod 2 = 1 := by decide
   have cc : ∀ (v W : World), W.cell? ⟨v.heap.size, 0, none⟩ = some (.int .u8 ((49 : UInt8).toNat : Int)) ∧ W.cell? ⟨v.heap.size, 1, none⟩ = some (.int .u8 ((48 : UInt8).toNat : Int)) → (convert 53 9 (.slice (some ⟨v.heap.size, 0, none⟩) 2 2)).run Tryz.prog W = .ok (.string ⟨#[49, 48]⟩) W := fun v W h => conv_two v W rfl rfl Tryz.underlying53 Tryz.underlying5 Tryz.underlying9 h.1 h.2
   have cv1 := cc w (w.alloc (.cells #[.int .u8 ((49 : UInt8).toNat : Int), .int .u8 ((48 : UInt8).toNat : Int)] 5)) (two_new w _ _ _)
   have cv2 := cc w (w.alloc (.cells #[.int .u8 ((49 : UInt8).toNat : Int), .int .u8 ((48 : UInt8).toNat : Int)] 5)).drew (two_new w _ _ _)
   have cv3 := cc w.drew (w.drew.alloc (.cells #[.int .u8 ((49 : UInt8).toNat : Int), .int .u8 ((48 : UInt8).toNat : Int)] 5)) (two_new w.drew _ _ _)
   have cv4 := cc w.drew (w.drew.alloc (.cells #[.int .u8 ((49 : UInt8).toNat : Int), .int .u8 ((48 : UInt8).toNat : Int)] 5)).drew (two_new w.drew _ _ _)
   simp only [show (((48 : UInt8).toNat : Nat) : Int) = 48 from rfl, show (((49 : UInt8).toNat : Nat) : Int) = 49 from rfl] at cv1 cv2 cv3 cv4
   clear cc
   go_wp2_with fail
   go_region_held (fun _ => True) (trivial) (fail)
   go_wp2
   go_ret2
   exact ⟨rfl, chainN (hB.alloc hB.size _) 1⟩
  ·have z0 := (wr_in (n := 0) (by decide) (by decide)).1
   have z1 := (wr_in (n := 1) (by decide) (by decide)).1
   have z2 := (wr_in (n := 2) (by decide) (by decide)).1
   have z3 := (wr_in (n := 3) (by decide) (by decide)).1
   have y0 := (wr_in (n := 0) (by decide) (by decide)).2
   have y1 := (wr_in (n := 1) (by decide) (by decide)).2
   have y2 := (wr_in (n := 48) (by decide) (by decide)).2
   have y3 := (wr_in (n := 49) (by decide) (by decide)).2
   have t0 : (0 : Int).tmod 2 = 0 := by decide
   have t1 : (1 : Int).tmod 2 = 1 := by decide
   have t2 : (2 : Int).tmod 2 = 0 := by decide
   have t3 : (3 : Int).tmod 2 = 1 := by decide
   have cc : ∀ (v W : World), W.cell? ⟨v.heap.size, 0, none⟩ = some (.int .u8 ((48 : UInt8).toNat : Int)) ∧ W.cell? ⟨v.heap.size, 1, none⟩ = some (.int .u8 ((49 : UInt8).toNat : Int)) → (convert 53 9 (.slice (some ⟨v.heap.size, 0, none⟩) 2 2)).run Tryz.prog W = .ok (.string ⟨#[48, 49]⟩) W := fun v W h => conv_two v W rfl rfl Tryz.underlying53 Tryz.underlying5 Tryz.underlying9 h.1 h.2
   have cv1 := cc w (w.alloc (.cells #[.int .u8 ((48 : UInt8).toNat : Int), .int .u8 ((49 : UInt8).toNat : Int)] 5)) (two_new w _ _ _)
   have cv2 := cc w (w.alloc (.cells #[.int .u8 ((48 : UInt8).toNat : Int), .int .u8 ((49 : UInt8).toNat : Int)] 5)).drew (two_new w _ _ _)
   have cv3 := cc w.drew (w.drew.alloc (.cells #[.int .u8 ((48 : UInt8).toNat : Int), .int .u8 ((49 : UInt8).toNat : Int)] 5)) (two_new w.drew _ _ _)
   have cv4 := cc w.drew (w.drew.alloc (.cells #[.int .u8 ((48 : UInt8).toNat : Int), .int .u8 ((49 : UInt8).toNat : Int)] 5)).drew (two_new w.drew _ _ _)
   simp only [show (((48 : UInt8).toNat : Nat) : Int) = 48 from rfl, show (((49 : UInt8).toNat : Nat) : Int) = 49 from rfl] at cv1 cv2 cv3 cv4
   clear cc
   go_wp2_with fail
   go_region_held (fun _ => True) (trivial) (fail)
   go_wp2
   go_ret2
   exact ⟨rfl, chainN (hB.alloc hB.size _) 1⟩
 ·rcases hU2 with rfl | rfl
  ·have z0 := (wr_in (n := 0) (by decide) (by decide)).1
   have z1 := (wr_in (n := 1) (by decide) (by decide)).1
   have z2 := (wr_in (n := 2) (by decide) (by decide)).1
   have z3 := (wr_in (n := 3) (by decide) (by decide)).1
   have y0 := (wr_in (n := 0) (by decide) (by decide)).2
   have y1 := (wr_in (n := 1) (by decide) (by decide)).2
   have y2 := (wr_in (n := 48) (by decide) (by decide)).2
   have y3 := (wr_in (n := 49) (by decide) (by decide)).2
   have t0 : (0 : Int).tmod 2 = 0 := by decide
   have t1 : (1 : Int).tmod 2 = 1 := by decide
   have t2 : (2 : Int).tmod 2 = 0 := by decide
   have t3 : (3 : Int).tmod 2 = 1 := by decide
   have cc : ∀ (v W : World), W.cell? ⟨v.heap.size, 0, none⟩ = some (.int .u8 ((48 : UInt8).toNat : Int)) ∧ W.cell? ⟨v.heap.size, 1, none⟩ = some (.int .u8 ((49 : UInt8).toNat : Int)) → (convert 53 9 (.slice (some ⟨v.heap.size, 0, none⟩) 2 2)).run Tryz.prog W = .ok (.string ⟨#[48, 49]⟩) W := fun v W h => conv_two v W rfl rfl Tryz.underlying53 Tryz.underlying5 Tryz.underlying9 h.1 h.2
   have cv1 := cc w (w.alloc (.cells #[.int .u8 ((48 : UInt8).toNat : Int), .int .u8 ((49 : UInt8).toNat : Int)] 5)) (two_new w _ _ _)
   have cv2 := cc w (w.alloc (.cells #[.int .u8 ((48 : UInt8).toNat : Int), .int .u8 ((49 : UInt8).toNat : Int)] 5)).drew (two_new w _ _ _)
   have cv3 := cc w.drew (w.drew.alloc (.cells #[.int .u8 ((48 : UInt8).toNat : Int), .int .u8 ((49 : UInt8).toNat : Int)] 5)) (two_new w.drew _ _ _)
   have cv4 := cc w.drew (w.drew.alloc (.cells #[.int .u8 ((48 : UInt8).toNat : Int), .int .u8 ((49 : UInt8).toNat : Int)] 5)).drew (two_new w.drew _ _ _)
   simp only [show (((48 : UInt8).toNat : Nat) : Int) = 48 from rfl, show (((49 : UInt8).toNat : Nat) : Int) = 49 from rfl] at cv1 cv2 cv3 cv4
   clear cc
   go_wp2_with fail
   go_region_held (fun _ => True) (trivial) (fail)
   go_wp2
   go_ret2
   exact ⟨rfl, chainN (hB.alloc hB.size _) 1⟩
  ·have z0 := (wr_in (n := 0) (by decide) (by decide)).1
   have z1 := (wr_in (n := 1) (by decide) (by decide)).1
   have z2 := (wr_in (n := 2) (by decide) (by decide)).1
   have z3 := (wr_in (n := 3) (by decide) (by decide)).1
   have y0 := (wr_in (n := 0) (by decide) (by decide)).2
   have y1 := (wr_in (n := 1) (by decide) (by decide)).2
   have y2 := (wr_in (n := 48) (by decide) (by decide)).2
   have y3 := (wr_in (n := 49) (by decide) (by decide)).2
   have t0 : (0 : Int).tmod 2 = 0 := by decide
   have t1 : (1 : Int).tmod 2 = 1 := by decide
   have t2 : (2 : Int).tmod 2 = 0 := by decide
   have t3 : (3 : Int).tmod 2 = 1 := by decide
   have cc : ∀ (v W : World), W.cell? ⟨v.heap.size, 0, none⟩ = some (.int .u8 ((49 : UInt8).toNat : Int)) ∧ W.cell? ⟨v.heap.size, 1, none⟩ = some (.int .u8 ((48 : UInt8).toNat : Int)) → (convert 53 9 (.slice (some ⟨v.heap.size, 0, none⟩) 2 2)).run Tryz.prog W = .ok (.string ⟨#[49, 48]⟩) W := fun v W h => conv_two v W rfl rfl Tryz.underlying53 Tryz.underlying5 Tryz.underlying9 h.1 h.2
   have cv1 := cc w (w.alloc (.cells #[.int .u8 ((49 : UInt8).toNat : Int), .int .u8 ((48 : UInt8).toNat : Int)] 5)) (two_new w _ _ _)
   have cv2 := cc w (w.alloc (.cells #[.int .u8 ((49 : UInt8).toNat : Int), .int .u8 ((48 : UInt8).toNat : Int)] 5)).drew (two_new w _ _ _)
   have cv3 := cc w.drew (w.drew.alloc (.cells #[.int .u8 ((49 : UInt8).toNat : Int), .int .u8 ((48 : UInt8).toNat : Int)] 5)) (two_new w.drew _ _ _)
   have cv4 := cc w.drew (w.drew.alloc (.cells #[.int .u8 ((49 : UInt8).toNat : Int), .int .u8 ((48 : UInt8).toNat : Int)] 5)).drew (two_new w.drew _ _ _)
   simp only [show (((48 : UInt8).toNat : Nat) : Int) = 48 from rfl, show (((49 : UInt8).toNat : Nat) : Int) = 49 from rfl] at cv1 cv2 cv3 cv4
   clear cc
   go_wp2_with fail
   go_region_held (fun _ => True) (trivial) (fail)
   go_wp2
   go_ret2
   exact ⟨rfl, chainN (hB.alloc hB.size _) 1⟩
end C9
end Go.Proofs.YtiodkllckcpinaaGreatDoor
