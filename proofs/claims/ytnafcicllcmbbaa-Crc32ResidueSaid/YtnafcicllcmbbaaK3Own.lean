/- The contracts of the landed functions of layer 3: Sum, Bytes, zeroBytes, Combine; and the structure of them all. -/
import Derived.Test.YtnafcicllcmbbaaK3Own1
import Derived.Test.YtnafcicllcmbbaaK3Law3
import Derived.Test.YtnafcicllcmbbaaK3Law4
namespace Go.Proofs.Ytnafcicllcmbbaa.K3
open Go.RowKit Mem
set_option linter.unusedVariables false

set_option maxHeartbeats 1000000 in
theorem sum_any (A : Option Addr) (cap : Nat) (l : List (List UInt8)) (w : World) (hl : ∀ x ∈ l, x.length ≤ 1000000) (hn : l.length ≤ 1000000000) (hc : l.length ≤ cap) (hcm : cap ≤ 9223372036854775807) (hr : Rd w A (strVs l)) :
    Calls Try.prog 14 #[.slice A l.length cap] w fun e w' => e = .returned (.int .u32 ((sumL (joinL l)).toNat : Int)) ∧ w = w' := by
  have hrh := Lib.hid hr
  clear hr
  go_enter Try.func14, Try.ntmps14
  go_wp2
  go_loop [3, 8] (fun v i => ∃ k : Nat, k ≤ l.length ∧ i = .int .i64 k ∧ v = .int .u32 ((upd ones (joinL (l.take k))).toNat : Int)) (fun _ i => l.length - (intOf i).toNat)
  case atStart => exact ⟨0, Nat.zero_le _, rfl, rfl⟩
  case round =>
    obtain ⟨k, hk, rfl, rfl⟩ := hrel
    by_cases hlt : k < l.length
    · obtain ⟨b, o, rfl, hb, hcell⟩ := hrh.out k (by rw [strVs_len]; exact hlt)
      rw [strV_get l k hlt] at hcell
      obtain ⟨x, hx⟩ : ∃ x, l[k] = x := ⟨_, rfl⟩
      have hxl := hl _ (List.getElem_mem hlt)
      rw [hx] at hcell hxl
      have hj := upd_join ones l k hlt
      rw [hx] at hj
      obtain ⟨y, hy⟩ : ∃ y, upd ones (joinL (l.take k)) = y := ⟨_, rfl⟩
      have hs := update_any y ⟨x.toArray⟩ w (by rw [str_size]; exact hxl)
      rw [hy] at hj ⊢
      rw [str_list, ← hj] at hs
      have hs := Lib.hid hs
      have hI0 : (0 : Int) ≤ (k : Int) := by omega
      have hI1 : (k : Int) < (l.length : Int) := by omega
      clear hx hj hy
      go_wp2_with fail
      refine hs.out.mono ?_
      rintro e w1 ⟨rfl, rfl⟩
      go_wp2
      go_round
      case rel => exact ⟨k + 1, by omega, by go_num, rfl⟩
      case measure => simp [intOf]; omega
    · have hfin := Lib.hid (show sumL (joinL l) = upd ones (joinL (l.take k)) by rw [List.take_of_length_le (by omega : l.length ≤ k)]; rfl)
      go_wp2
      go_ret
      exact ⟨ret_i (by rw [hfin.out]), rfl⟩

set_option maxHeartbeats 1000000 in
theorem bytes_any (x : R) (w : World) :
    Calls Try.prog 16 #[.int .u32 (x.toNat : Int)] w fun e w' => e = .returned (.string ⟨(byL x).toArray⟩) ∧ Below w.heap.size w w' := by
  have hx := x.isLt
  have hconv := conv_made (P := Try.prog) w (dst := 9) (n := 4) (l := byL x) rfl Try.underlying38 Try.underlying5 Try.underlying9 (byL_cells x)
  go_enter Try.func16, Try.ntmps16
  go_wp2
  go_ret
  exact ⟨rfl, (Below.refl _ _).alloc (Nat.le_refl _) _⟩

theorem i64_and1 (n : Int) : bits .and .i64 n 1 = n % 2 := by
  have h1 : (BitVec.ofInt 64 1).toNat = 2 ^ 1 - 1 := by decide
  have key : (BitVec.ofInt 64 n &&& BitVec.ofInt 64 1).toNat = (n % ((2 ^ 64 : Nat) : Int)).toNat % 2 ^ 1 := by
    rw [BitVec.toNat_and, BitVec.toNat_ofInt, h1, Nat.and_two_pow_sub_one_eq_mod]
  show IntKind.i64.wrap ((BitVec.ofInt 64 n &&& BitVec.ofInt 64 1).toNat : Nat) = n % 2
  rw [key, IntKind.wrap_i64]
  omega

set_option maxHeartbeats 1000000 in
theorem zeroBytes_any (N : Nat) (w : World) (hNle : N ≤ 9223372036854775807) :
    Calls Try.prog 24 #[.int .i64 (N : Int)] w fun e w' => e = .returned (.int .u32 ((it (8 * N) 1).toNat : Int)) ∧ w = w' := by
  go_enter Try.func24, Try.ntmps24
  go_wp2
  go_loop [0, 3, 4] (fun m c p => ∃ i M : Nat, Hid (M = N / 2 ^ i) ∧ M ≤ 9223372036854775807 ∧ m = .int .i64 M ∧ c = .int .u32 ((it (8 * (N % 2 ^ i)) 1).toNat : Int) ∧ p = .int .u32 ((it (8 * 2 ^ i) 1).toNat : Int)) (fun m _ _ => (intOf m).toNat)
  case atStart => exact ⟨0, N, Lib.hid (by simp), hNle, rfl, by rw [Nat.pow_zero, Nat.mod_one]; rfl, congrArg (Value.int .u32) (show (256 : Int) = ((it (8 * 2 ^ 0) 1).toNat : Int) by decide)⟩
  case round =>
    obtain ⟨i, M, hM, hMl, rfl, rfl, rfl⟩ := hrel
    by_cases hpos : 0 < M
    · have hM2 := Lib.hid (show M / 2 = N / 2 ^ (i + 1) by rw [hM.out, half])
      have hsq := multiply_any (it (8 * 2 ^ i) 1) (it (8 * 2 ^ i) 1) w
      rw [pow_twice] at hsq
      have hsq := Lib.hid hsq
      have hposI : (0 : Int) < (M : Int) := by omega
      rcases Nat.mod_two_eq_zero_or_one M with h0 | h0
      · have hk := Lib.hid (pow_skip 1 N i (by rw [← hM.out]; exact h0))
        have ht : (bits .and .i64 (M : Int) 1 == 1) = false := by rw [i64_and1]; exact beq_eq_false_iff_ne.2 (by omega)
        clear h0
        go_wp2_with fail
        refine hsq.out.mono ?_
        rintro e w1 ⟨rfl, rfl⟩
        go_wp2
        go_round
        case rel => exact ⟨i + 1, M / 2, hM2, by omega, by simp, by rw [← hk.out]; rfl, rfl⟩
        case measure => simp [intOf]; omega
      · have hk := multiply_any (it (8 * (N % 2 ^ i)) 1) (it (8 * 2 ^ i) 1) w
        rw [pow_take 1 N i (by rw [← hM.out]; exact h0)] at hk
        have hk := Lib.hid hk
        have ht : (bits .and .i64 (M : Int) 1 == 1) = true := by rw [i64_and1]; exact beq_iff_eq.2 (by omega)
        clear h0
        go_wp2_with fail
        refine hk.out.mono ?_
        rintro e w1 ⟨rfl, rfl⟩
        go_wp2_with fail
        refine hsq.out.mono ?_
        rintro e w1 ⟨rfl, rfl⟩
        go_wp2
        go_round
        case rel => exact ⟨i + 1, M / 2, hM2, by omega, by simp, rfl, rfl⟩
        case measure => simp [intOf]; omega
    · have hM0 : M = 0 := by omega
      subst hM0
      have hNi : N % 2 ^ i = N := Nat.mod_eq_of_lt (by
        have := hM.out
        rcases Nat.lt_or_ge N (2 ^ i) with h | h
        · exact h
        · have := Nat.div_pos h (Nat.pow_pos (by decide)); omega)
      rw [hNi]
      clear hNi
      go_wp2
      go_ret
      exact ⟨rfl, rfl⟩

set_option maxHeartbeats 1000000 in
theorem combine_any (a b : R) (n : Int) (w : World) (h1 : -9223372036854775808 ≤ n) (h2 : n ≤ 9223372036854775807) :
    Calls Try.prog 18 #[.int .u32 (a.toNat : Int), .int .u32 (b.toNat : Int), .int .i64 n] w fun e w' => e = .returned (.int .u32 ((comb a b n).toNat : Int)) ∧ w = w' := by
  by_cases hneg : n < 0
  · have hd : decide (n < 0) = true := decide_eq_true hneg
    have hr := Lib.hid (comb_neg a b hneg)
    go_enter Try.func18, Try.ntmps18
    go_wp2
    go_ret
    exact ⟨ret_i (by rw [hr.out]; rfl), rfl⟩
  · obtain ⟨N, rfl⟩ : ∃ N : Nat, n = (N : Int) := ⟨n.toNat, by omega⟩
    have hd : decide ((N : Int) < 0) = false := decide_eq_false hneg
    have ho := ones_in a
    have hr := comb_nat a b N
    obtain ⟨x, hx⟩ : ∃ x, a ^^^ ones = x := ⟨_, rfl⟩
    rw [hx] at ho hr
    have hNle : N ≤ 9223372036854775807 := by omega
    have hz := Lib.hid (zeroBytes_any N w hNle)
    have hm := multiply_any x (it (8 * N) 1) w
    rw [tms_pow] at hm
    have hm := Lib.hid hm
    have hx2 := bxr b (it (8 * N) x)
    rw [← hr] at hx2
    clear hx hr
    go_enter Try.func18, Try.ntmps18
    go_wp2_with fail
    refine hz.out.mono ?_
    rintro e w1 ⟨rfl, rfl⟩
    go_wp2_with fail
    refine hm.out.mono ?_
    rintro e w1 ⟨rfl, rfl⟩
    go_wp2
    go_ret
    exact ⟨rfl, rfl⟩

theorem dev : Dev (fun _ => True) where
  keep := fun _ _ => trivial
  update := fun x s w hs _ => (update_any x s w hs).mono fun e w' ⟨a, b⟩ => ⟨a, b ▸ Below.refl _ _⟩
  sum := fun A cap l w hl hn hc hcm hr _ => (sum_any A cap l w hl (by omega) hc hcm hr).mono fun e w' ⟨a, b⟩ => ⟨a, b ▸ Below.refl _ _⟩
  bytes := fun x w _ => bytes_any x w
  combine := fun a b n w h1 h2 _ => (combine_any a b n w h1 h2).mono fun e w' ⟨a, b⟩ => ⟨a, b ▸ Below.refl _ _⟩
end Go.Proofs.Ytnafcicllcmbbaa.K3
