/- The contracts of the reference's Syndromes. -/
import Derived.Test.YtkobcffkgaodbaaG7Ref1
import Derived.Test.YtkobcffkgaodbaaG7Tab
namespace Go.Proofs.Ytkobcffkgaodbaa.G7
open Go.Proofs.Ytkobcffkgaodbaa.G5
open Go.Proofs.Ytkobcffkgaodbaa.G6 (ev rs rs_len rs_get rs_snoc rs_append IsSl conv_sl mb info_byte)
open Go.RowKit Mem
set_option linter.unusedVariables false
set_option linter.unusedSimpArgs false

theorem rs_one' (V : R) : rs [V] = [bv V] := rfl
theorem own_drewN {w : World} {base e size n : Nat} {v : Value} {xs : List Value} (h : w.ownsRow base e size v n xs) (m : Nat) : (w.drewN m).ownsRow base e size v n xs := h
theorem rsyn_out (s : ByteArray) (p : Int) (w : World) (h : p < 1 ∨ 64 < p) : Calls Try.prog 28 #[.string s, .int .i64 p] w (NoSl 2 w) := by
  rcases h with h | h
  · have t1 : decide (p < 1) = true := decide_eq_true h
    go_enter Try.func28, Try.ntmps28
    go_wp2
    go_ret2
    exact ⟨rfl, rfl⟩
  · have t1 : decide (p < 1) = false := decide_eq_false (by omega)
    have t2 : decide (64 < p) = true := decide_eq_true h
    go_enter Try.func28, Try.ntmps28
    go_wp2
    go_ret2
    exact ⟨rfl, rfl⟩
theorem rsyn_short (s : ByteArray) (p : Nat) (w : World) (h1 : 1 ≤ p) (h2 : p ≤ 64) (h : s.size < p) : Calls Try.prog 28 #[.string s, .int .i64 (p : Int)] w (NoSl 4 w) := by
  have t1 : decide ((p : Int) < 1) = false := decide_eq_false (by omega)
  have t2 : decide ((64 : Int) < (p : Int)) = false := decide_eq_false (by omega)
  have t3 : decide (p < 1) = false := decide_eq_false (by omega)
  have t4 : decide (64 < p) = false := decide_eq_false (by omega)
  have t5 : decide (s.size < p) = true := decide_eq_true h
  go_enter Try.func28, Try.ntmps28
  go_wp2
  go_ret2
  exact ⟨rfl, rfl⟩
theorem rsyn_long (s : ByteArray) (p : Nat) (w : World) (h1 : 1 ≤ p) (h2 : p ≤ 64) (h : 255 < s.size) : Calls Try.prog 28 #[.string s, .int .i64 (p : Int)] w (NoSl 6 w) := by
  have t1 : decide ((p : Int) < 1) = false := decide_eq_false (by omega)
  have t2 : decide ((64 : Int) < (p : Int)) = false := decide_eq_false (by omega)
  have t3 : decide (p < 1) = false := decide_eq_false (by omega)
  have t4 : decide (64 < p) = false := decide_eq_false (by omega)
  have t5 : decide (s.size < p) = false := decide_eq_false (by omega)
  have t6 : decide ((255 : Int) < (s.size : Int)) = true := decide_eq_true (by omega)
  have t7 : decide (255 < s.size) = true := decide_eq_true h
  go_enter Try.func28, Try.ntmps28
  go_wp2
  go_ret2
  exact ⟨rfl, rfl⟩
set_option maxHeartbeats 2000000 in
theorem rsyn_any (s : ByteArray) (p : Nat) (w : World) (h1 : 1 ≤ p) (h2 : p ≤ 64) (h3 : p ≤ s.size) (h4 : s.size ≤ 255) : Calls Try.prog 28 #[.string s, .int .i64 (p : Int)] w (Synd p (el s) w) := by
  obtain ⟨i0, hi, hz0, hz1, hz2⟩ := info_parts info_byte
  have t1 : decide ((p : Int) < 1) = false := decide_eq_false (by omega)
  have t2 : decide ((64 : Int) < (p : Int)) = false := decide_eq_false (by omega)
  have t3 : decide (p < 1) = false := decide_eq_false (by omega)
  have t4 : decide (64 < p) = false := decide_eq_false (by omega)
  have t5 : decide (s.size < p) = false := decide_eq_false (by omega)
  have t6 : decide ((255 : Int) < (s.size : Int)) = false := decide_eq_false (by omega)
  have t7 : decide (255 < s.size) = false := decide_eq_false (by omega)
  go_enter Try.func28, Try.ntmps28
  go_wp2
  go_loopw [6, 7] (fun v a wr => ∃ k : Nat, k ≤ p ∧ a = .int .i64 k ∧ wr.ownsRow w.heap.size 5 1 v k (rs (syn k (el s))) ∧ Below w.heap.size w wr) (fun _ a _ => p - (intOf a).toNat)
  case atStart => exact ⟨0, Nat.zero_le _, rfl, empty_at rfl (Nat.le_refl _), (Below.refl _ _).alloc (Nat.le_refl _) _⟩
  case round =>
    obtain ⟨k, hk, rfl, hown, hb⟩ := hrel
    by_cases hlt : k < p
    · have d1 : decide (k < p) = true := decide_eq_true hlt
      have cP := rpower_any k wr (by omega)
      have cV := rvalue_any s (it k 1) wr (by omega)
      have hsy := syn_succ k (el s)
      obtain ⟨X, hX⟩ : ∃ X, it k 1 = X := ⟨_, rfl⟩
      rw [hX] at cP cV hsy
      obtain ⟨V, hV⟩ : ∃ V, vl (el s) X = V := ⟨_, rfl⟩
      rw [hV] at cV hsy
      have hsy := Lib.hid hsy
      have cP := Lib.hid cP
      have cV := Lib.hid cV
      clear hX hV
      go_wp2_with fail
      refine cP.out.mono ?_
      rintro e w1 ⟨rfl, rfl⟩
      go_wp2_with fail
      refine cV.out.mono ?_
      rintro e w1 ⟨rfl, m, rfl⟩
      clear cP cV
      obtain ⟨W, hW⟩ : ∃ W, wr.drewN m = W := ⟨_, rfl⟩
      have hown1 := own_drewN hown m
      have hb1 := chainN hb m
      rw [hW] at hb1 hown1 ⊢
      clear hown hb hW
      go_wp2_with (at_builtin; refine wpList_append_own _ rfl _ _ 28 rfl w.heap.size 5 i0 (.int .u8 0) 1 1 Try.underlying28 hi hz0 hz1 hz2 rfl (by decide) _ _ _ rfl (hown1.alloc _) ⟨W.heap.size, 0, none⟩ 1 1 [bv V] rfl rfl (one_new _ _ _) (one_cell _ _) ?c3 ?c4 ?c5 ?_)
      case c3 => unfold maxLen; omega
      case c4 => omega
      case c5 => have := hb1.size; simp; omega
      intro v' w2 hown2 hgr _
      rw [← rs_one' V, ← rs_append, ← hsy.out] at hown2
      have hb2 := (hb1.alloc hb1.size _).grown hgr (by have := hb1.size; simp; omega) (fun j hj => (hown1.lt j hj).1)
      clear hown1 hgr hb1
      go_wp2
      go_roundw
      case rel => exact ⟨k + 1, by omega, by go_num, hown2, hb2⟩
      case measure => simp [intOf]; omega
    · obtain rfl : k = p := by omega
      have d1 : decide (k < k) = false := decide_eq_false (by omega)
      obtain ⟨A', c', rfl, _, _⟩ := own_slice hown
      obtain ⟨hsl, hlen⟩ := IsSl.of_own hown
      have hsl := Lib.hid hsl
      clear hown hlen
      go_wp2
      go_ret2
      exact ⟨A', c', rfl, hsl.out, hb⟩
end Go.Proofs.Ytkobcffkgaodbaa.G7
