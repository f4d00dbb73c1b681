/- The reference's Great of layer 17: it answers 0 or 1. -/
import Derived.Test.YtfdlgdgjbfoogaaM17Txt
namespace Go.Proofs.Ytfdlgdgjbfoogaa.M17
set_option maxRecDepth 100000
open Go.RowKit Mem
set_option linter.unusedVariables false
set_option linter.unusedSimpArgs false

set_option maxHeartbeats 4000000 in
theorem great_any {A : Option Addr} {n c : Nat} {ts : List Txt} {w : World} (h : IsTxts w A n c ts) (IA : Option Addr) (m ic : Nat) (steps : Int) :
    Calls Try.prog 9 #[.slice A n c, .slice IA m ic, .int .i64 steps] w fun e w' => (e = .returned (.int .i64 0) ∨ e = .returned (.int .i64 1)) ∧ Below w.heap.size w w' := by
  obtain ⟨Q, hQ⟩ : ∃ Q, (fun (e : Ending) (w' : World) => (e = .returned (.int .i64 0) ∨ e = .returned (.int .i64 1)) ∧ Below w.heap.size w w') = Q := ⟨_, rfl⟩
  have f0 : ∀ w', Below w.heap.size w w' → Q (.returned (.int .i64 0)) w' := fun w' hb => by rw [← hQ]; exact ⟨.inl rfl, hb⟩
  have f1 : ∀ w', Below w.heap.size w w' → Q (.returned (.int .i64 1)) w' := fun w' hb => by rw [← hQ]; exact ⟨.inr rfl, hb⟩
  rw [hQ]
  replace f0 := Lib.hid f0
  replace f1 := Lib.hid f1
  have hlen := Lib.hid h.len
  have hle := h.le
  have hcm := h.capm
  have hn63 : (n : Int) ≤ 9223372036854775807 := by unfold maxLen at hcm; omega
  have hget := Lib.hid (fun (k : Nat) (hk : k < ts.length) => h.get hk)
  clear hQ h
  go_enter Try.func9, Try.ntmps9
  go_wp2
  go_loopw [7, 14] (fun xv iv wr => ∃ (k : Nat) (x : Int), xv = .int .i64 x ∧ iv = .int .i64 (k : Int) ∧ k ≤ n ∧ Hid (Below w.heap.size w wr)) (fun _ iv _ => n - (intOf iv).toNat)
  case atStart => exact ⟨0, _, rfl, rfl, Nat.zero_le _, Lib.hid (Below.refl _ _)⟩
  case round =>
    obtain ⟨k, x, rfl, rfl, hk, hb⟩ := hrel
    by_cases hlt : k < n
    · have dk : decide ((k : Int) < (n : Int)) = true := decide_eq_true (by omega)
      have k0 : (0 : Int) ≤ (k : Int) := by omega
      have k1 : (k : Int) < (n : Int) := by omega
      have k2 : (k : Int) + 1 ≤ 9223372036854775807 := by omega
      have hkl : k < ts.length := by have := hlen.out; omega
      obtain ⟨b, o, rfl, hbl, g0, g1⟩ := hget.out k hkl
      obtain ⟨⟨z, S⟩, hr⟩ : ∃ r, ts[k] = r := ⟨_, rfl⟩
      rw [hr] at g0 g1
      have g0 : wr.cell? ⟨b, o + k * 2, none⟩ = some (.int .i64 z) := (hb.out.cell (p := ⟨b, o + k * 2, none⟩) hbl).trans g0
      have g1 : wr.cell? ⟨b, o + k * 2 + 1, none⟩ = some (.string S) := (hb.out.cell (p := ⟨b, o + k * 2 + 1, none⟩) hbl).trans g1
      have hb2 : Below w.heap.size w (wr.alloc (.cells #[.int .i64 z, .string S] 38)) := hb.out.alloc hb.out.size _
      replace hb2 := Lib.hid hb2
      clear hr hb hbl hkl
      go_wp2
      go_roundw
      case rel => exact ⟨k + 1, _, rfl, by go_num, by omega, hb2⟩
      case measure => simp [intOf]; omega
    · obtain rfl : k = n := by omega
      have dk : decide ((k : Int) < (k : Int)) = false := decide_eq_false (by omega)
      have z0 := Lib.hid (f0.out _ hb.out)
      have z1 := Lib.hid (f1.out _ hb.out)
      by_cases q0 : 3000 < x
      · have u0 : decide (3000 < x) = true := decide_eq_true q0
        go_wp2
        first | go_ret | skip
        exact z1.out
      have u0 : decide (3000 < x) = false := decide_eq_false q0
      by_cases q1 : 20000 < steps
      · have u1 : decide (20000 < steps) = true := decide_eq_true q1
        by_cases q2 : steps ≤ 100000000
        · have u2 : decide (steps ≤ 100000000) = true := decide_eq_true q2
          clear q0 q1 q2
          go_wp2
          first | go_ret | skip
          exact z1.out
        · have u2 : decide (steps ≤ 100000000) = false := decide_eq_false q2
          clear q0 q1 q2
          go_wp2
          first | go_ret | skip
          exact z0.out
      · have u1 : decide (20000 < steps) = false := decide_eq_false q1
        clear q0 q1
        go_wp2
        first | go_ret | skip
        exact z0.out
end Go.Proofs.Ytfdlgdgjbfoogaa.M17
