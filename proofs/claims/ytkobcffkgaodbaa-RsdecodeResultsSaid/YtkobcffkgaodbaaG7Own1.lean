/- The contracts of the landed functions of layer 7: isParity, Generator. -/
import Derived.Test.YtkobcffkgaodbaaG5OwnExp
import Derived.Test.YtkobcffkgaodbaaG6OwnMul
import Derived.Test.YtkobcffkgaodbaaG7Tab
namespace Go.Proofs.Ytkobcffkgaodbaa.G7
open Go.Proofs.Ytkobcffkgaodbaa.G5
open Go.Proofs.Ytkobcffkgaodbaa.G6 (ev rs rs_len rs_get rs_snoc rs_append IsSl Gives conv_sl mb info_byte mulP_own mulL)
open Go.RowKit Mem
set_option linter.unusedVariables false
set_option linter.unusedSimpArgs false

theorem par_yes (n : Int) (w : World) (h1 : 1 ≤ n) (h2 : n ≤ 64) : Calls Try.prog 37 #[.int .i64 n] w fun e w' => e = .returned (.bool true) ∧ w = w' := by
  have t1 : decide (1 ≤ n) = true := decide_eq_true h1
  have t2 : decide (n ≤ 64) = true := decide_eq_true h2
  go_enter Try.func37, Try.ntmps37
  go_wp2
  go_ret
  exact ⟨rfl, rfl⟩
theorem par_no (n : Int) (w : World) (h : n < 1 ∨ 64 < n) : Calls Try.prog 37 #[.int .i64 n] w fun e w' => e = .returned (.bool false) ∧ w = w' := by
  by_cases h1 : 1 ≤ n
  · have t1 : decide (1 ≤ n) = true := decide_eq_true h1
    have t2 : decide (n ≤ 64) = false := decide_eq_false (by omega)
    go_enter Try.func37, Try.ntmps37
    go_wp2
    go_ret
    exact ⟨rfl, rfl⟩
  · have t1 : decide (1 ≤ n) = false := decide_eq_false h1
    go_enter Try.func37, Try.ntmps37
    go_wp2
    go_ret
    exact ⟨rfl, rfl⟩
theorem gen_out (p : Int) (w : World) (h : p < 1 ∨ 64 < p) :
    Calls Try.prog 33 #[.int .i64 p] w (NoSl 2 w) := by
  have cP := Lib.hid (par_no p w h)
  clear h
  go_enter Try.func33, Try.ntmps33
  go_wp2_with fail
  refine cP.out.mono ?_
  rintro e w1 ⟨rfl, rfl⟩
  go_wp2
  go_ret2
  exact ⟨rfl, rfl⟩
set_option maxHeartbeats 2000000 in
theorem gen_own (p : Nat) (w : World) (h1 : 1 ≤ p) (h2 : p ≤ 64) : Calls Try.prog 33 #[.int .i64 (p : Int)] w (Gend p w) := by
  have cP := Lib.hid (par_yes (p : Int) w (by omega) (by omega))
  go_enter Try.func33, Try.ntmps33
  go_wp2_with fail
  refine cP.out.mono ?_
  rintro e w1 ⟨rfl, rfl⟩
  clear cP
  go_wp2
  go_loopw [4, 11] (fun v a wr => ∃ (E : Option Addr) (f i ng : Nat), v = .slice E ng f ∧ a = .int .i64 i ∧ i ≤ p ∧ Hid ((gen i).length = ng) ∧ Hid (IsSl wr E f (gen i)) ∧ Below w.heap.size w wr) (fun _ a _ => p - (intOf a).toNat)
  case atStart => exact ⟨_, 1, 0, 1, rfl, rfl, Nat.zero_le _, Lib.hid rfl, Lib.hid (IsSl.made w 5 [1#8] #[.int .u8 1] _ 1 rfl rfl rfl (by decide)), mb w _⟩
  case round =>
    obtain ⟨E, f, i, ng, rfl, rfl, hi, hni, hg, hb⟩ := hrel
    by_cases hlt : i < p
    · have cE := exp_own (i : Int) wr (by omega) (by omega)
      rw [ex_nat] at cE
      have hgs := Lib.hid (gen_succ i)
      obtain ⟨X, hX⟩ : ∃ X, it i 1 = X := ⟨_, rfl⟩
      rw [hX] at cE
      have hXh := Lib.hid hX
      have cE := Lib.hid cE
      have d1 : (i : Int) < (p : Int) := by omega
      have d2 : decide (i < p) = true := decide_eq_true hlt
      clear hX
      go_wp2_with fail
      refine cE.out.mono ?_
      rintro e w1 ⟨rfl, hb1⟩
      have ob := mb w1 (.cells #[bv X, .int .u8 1] 5)
      have cM := mulP_own ((hg.out.below hb1).below ob) (IsSl.made w1 5 [X, 1#8] #[bv X, .int .u8 1] (w1.heap.size) 2 rfl rfl rfl (by decide)) (by have := gen_len i; simp; omega)
      rw [show mulL (gen i) [X, 1#8] = gen (i + 1) by rw [hgs.out, hXh.out]; rfl, hni.out] at cM
      simp only [List.length_cons, List.length_nil, Nat.reduceAdd] at cM
      have cM := Lib.hid cM
      have hb2 := chain (chain hb hb1) ob
      clear hg hb hb1 ob cE hgs hXh
      go_wp2_with fail
      refine cM.out.mono ?_
      rintro e w2 ⟨E2, f2, rfl, hs2, hb3⟩
      have hs2 := Lib.hid hs2
      have hb4 := chain hb2 hb3
      clear cM hb2 hb3
      go_wp2
      go_roundw
      case rel => exact ⟨E2, f2, i + 1, _, rfl, by go_num, by omega, Lib.hid rfl, hs2, hb4⟩
      case measure => simp [intOf]; omega
    · obtain rfl : i = p := by omega
      have d1 : ¬ (i : Int) < (i : Int) := by omega
      have d2 : decide (i < i) = false := decide_eq_false (by omega)
      go_wp2
      go_ret2
      exact ⟨E, f, by rw [← gen_len i, hni.out]; rfl, hg.out, hb⟩
end Go.Proofs.Ytkobcffkgaodbaa.G7
