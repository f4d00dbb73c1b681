/- The contracts of the reference's times, Combine, Bytes and Sum. -/
import Derived.Test.YtnafcicllcmbbaaK3Ref1
namespace Go.Proofs.Ytnafcicllcmbbaa.K3
open Go.RowKit Mem
set_option linter.unusedVariables false

theorem bit_and (b : R) (m : Nat) : bits .and .u32 ((b.toNat / 2 ^ m : Nat) : Int) 1 = if b.getLsbD m then 1 else 0 := by
  have h := u32_and_nat (b.toNat / 2 ^ m) 1 (Nat.lt_of_le_of_lt (Nat.div_le_self _ _) b.isLt) (by decide)
  refine (show _ = _ from h).trans ?_
  rw [nat_mask1, BitVec.getLsbD, Nat.testBit_eq_decide_div_mod_eq]
  by_cases e : b.toNat / 2 ^ m % 2 = 1
  · rw [e]; rfl
  · have : b.toNat / 2 ^ m % 2 = 0 := by omega
    rw [this]; rfl
theorem bit_test (b : R) (m : Nat) : (bits .and .u32 ((b.toNat : Int) / 2 ^ m) 1 == 1) = b.getLsbD m := by
  have e : ((b.toNat : Int) / 2 ^ m) = ((b.toNat / 2 ^ m : Nat) : Int) := by simp
  rw [e, bit_and]
  cases b.getLsbD m <;> rfl
theorem hor_yes {a b : R} {j m : Nat} (hm : 31 - j = m) (h : b.getLsbD m = true) : hor a b (j + 1) = stp (hor a b j) ^^^ a := by
  conv => lhs; unfold hor
  rw [hm, if_pos h]
theorem hor_no {a b : R} {j m : Nat} (hm : 31 - j = m) (h : b.getLsbD m = false) : hor a b (j + 1) = stp (hor a b j) := by
  conv => lhs; unfold hor
  rw [hm, if_neg (by rw [h]; decide)]

set_option maxHeartbeats 1000000 in
theorem rtimes_any (a b : R) (w : World) :
    Calls Try.prog 25 #[.int .u32 (a.toNat : Int), .int .u32 (b.toNat : Int)] w fun e w' => e = .returned (.int .u32 ((tms a b).toNat : Int)) ∧ w = w' := by
  go_enter Try.func25, Try.ntmps25
  go_wp2
  go_loop [5, 6] (fun c i => ∃ j : Nat, j ≤ 32 ∧ i = .int .i64 (31 - (j : Int)) ∧ c = .int .u32 ((hor a b j).toNat : Int)) (fun _ i => (intOf i + 1).toNat)
  case atStart => exact ⟨0, Nat.zero_le _, rfl, rfl⟩
  case round =>
    obtain ⟨j, hj, rfl, rfl⟩ := hrel
    by_cases hlt : j < 32
    · obtain ⟨m, hm⟩ : ∃ m : Nat, 31 - j = m := ⟨_, rfl⟩
      have hmi : (31 : Int) - (j : Int) = (m : Int) := by omega
      rw [hmi]
      have hs1 := rstep_any (hor a b j) w
      have hb := bit_test b m
      obtain ⟨y, hy⟩ : ∃ y, stp (hor a b j) = y := ⟨_, rfl⟩
      rw [hy] at hs1
      have hs1 := Lib.hid hs1
      have hbl := b.isLt
      have hm31 : m ≤ 31 := by omega
      have hx := bxr y a
      obtain ⟨z, hz⟩ : ∃ z, y ^^^ a = z := ⟨_, rfl⟩
      rw [hz] at hx
      rcases hg : b.getLsbD m with _ | _
      · rw [hg] at hb
        have hn := Lib.hid ((hor_no (a := a) hm hg).trans hy)
        clear hy hz hg hx
        have hmh := Lib.hid hm
        clear hm
        go_wp2_with fail
        refine hs1.out.mono ?_
        rintro e w1 ⟨rfl, rfl⟩
        go_wp2
        go_round
        case rel => exact ⟨j + 1, by omega, by have := hmh.out; go_num, by rw [hn.out]⟩
        case measure => simp [intOf]
      · rw [hg] at hb
        have hn := Lib.hid ((hor_yes (a := a) hm hg).trans (by rw [hy, hz]))
        clear hy hz hg
        have hmh := Lib.hid hm
        clear hm
        go_wp2_with fail
        refine hs1.out.mono ?_
        rintro e w1 ⟨rfl, rfl⟩
        go_wp2
        go_round
        case rel => exact ⟨j + 1, by omega, by have := hmh.out; go_num, by rw [hn.out]⟩
        case measure => simp [intOf]
    · have hj' : j = 32 := by omega
      subst hj'
      go_wp2
      go_ret
      exact ⟨rfl, rfl⟩

theorem ones_in (a : R) : bits .xor .u32 (a.toNat : Int) 4294967295 = ((a ^^^ ones).toNat : Int) := by
  rw [← bxr]
  rfl
theorem comb_neg (a b : R) {n : Int} (h : n < 0) : comb a b n = 0 := by unfold comb; rw [if_pos h]
theorem comb_nat (a b : R) (N : Nat) : comb a b (N : Int) = b ^^^ it (8 * N) (a ^^^ ones) := by
  unfold comb
  rw [if_neg (by omega), Int.toNat_natCast]
theorem half {N i : Nat} : N / 2 ^ i / 2 = N / 2 ^ (i + 1) := by rw [Nat.div_div_eq_div_mul, Nat.pow_succ]

set_option maxHeartbeats 1000000 in
theorem rcombine_any (a b : R) (n : Int) (w : World) (h1 : -9223372036854775808 ≤ n) (h2 : n ≤ 9223372036854775807) :
    Calls Try.prog 19 #[.int .u32 (a.toNat : Int), .int .u32 (b.toNat : Int), .int .i64 n] w fun e w' => e = .returned (.int .u32 ((comb a b n).toNat : Int)) ∧ w = w' := by
  by_cases hneg : n < 0
  · have hd : decide (n < 0) = true := decide_eq_true hneg
    have hr := Lib.hid (comb_neg a b hneg)
    go_enter Try.func19, Try.ntmps19
    go_wp2
    go_ret
    exact ⟨ret_i (by rw [hr.out]; rfl), rfl⟩
  · obtain ⟨N, rfl⟩ : ∃ N : Nat, n = (N : Int) := ⟨n.toNat, by omega⟩
    have hd : decide ((N : Int) < 0) = false := decide_eq_false hneg
    have ho := ones_in a
    have hr := comb_nat a b N
    obtain ⟨x, hx⟩ : ∃ x, a ^^^ ones = x := ⟨_, rfl⟩
    rw [hx] at ho hr
    have hr := Lib.hid hr
    have hNle : N ≤ 9223372036854775807 := by omega
    clear hx
    go_enter Try.func19, Try.ntmps19
    go_wp2
    go_loop [7, 8, 9] (fun c p m => ∃ i M : Nat, Hid (M = N / 2 ^ i) ∧ M ≤ 9223372036854775807 ∧ m = .int .i64 M ∧ c = .int .u32 ((it (8 * (N % 2 ^ i)) x).toNat : Int) ∧ p = .int .u32 ((it (8 * 2 ^ i) 1).toNat : Int)) (fun _ _ m => (intOf m).toNat)
    case atStart => exact ⟨0, N, Lib.hid (by simp), hNle, rfl, by rw [Nat.pow_zero, Nat.mod_one]; rfl, congrArg (Value.int .u32) (show (256 : Int) = ((it (8 * 2 ^ 0) 1).toNat : Int) by decide)⟩
    case round =>
      clear ho
      obtain ⟨i, M, hM, hMl, rfl, rfl, rfl⟩ := hrel
      by_cases hpos : 0 < M
      · have hM2 := Lib.hid (show M / 2 = N / 2 ^ (i + 1) by rw [hM.out, half])
        have hsq := rtimes_any (it (8 * 2 ^ i) 1) (it (8 * 2 ^ i) 1) w
        rw [pow_twice] at hsq
        have hsq := Lib.hid hsq
        have hposI : (0 : Int) < (M : Int) := by omega
        rcases Nat.mod_two_eq_zero_or_one M with h0 | h0
        · have hk := Lib.hid (pow_skip x N i (by rw [← hM.out]; exact h0))
          have ht : ((M : Int) % 2 == 1) = false := beq_eq_false_iff_ne.2 (by omega)
          clear h0
          go_wp2_with fail
          refine hsq.out.mono ?_
          rintro e w1 ⟨rfl, rfl⟩
          go_wp2
          go_round
          case rel => exact ⟨i + 1, M / 2, hM2, by omega, by simp, by rw [hk.out], rfl⟩
          case measure => simp [intOf]; omega
        · have hk := rtimes_any (it (8 * (N % 2 ^ i)) x) (it (8 * 2 ^ i) 1) w
          rw [pow_take x N i (by rw [← hM.out]; exact h0)] at hk
          have hk := Lib.hid hk
          have ht : ((M : Int) % 2 == 1) = true := beq_iff_eq.2 (by omega)
          clear h0
          go_wp2_with fail
          refine hk.out.mono ?_
          rintro e w1 ⟨rfl, rfl⟩
          go_wp2_with fail
          refine hsq.out.mono ?_
          rintro e w1 ⟨rfl, rfl⟩
          go_wp2
          go_round
          case rel => exact ⟨i + 1, M / 2, hM2, by omega, by simp, rfl, rfl⟩
          case measure => simp [intOf]; omega
      · have hM0 : M = 0 := by omega
        subst hM0
        have hNi : N % 2 ^ i = N := Nat.mod_eq_of_lt (by
          have := hM.out
          rcases Nat.lt_or_ge N (2 ^ i) with h | h
          · exact h
          · have := Nat.div_pos h (Nat.pow_pos (by decide)); omega)
        rw [hNi]
        have hx2 := bxr b (it (8 * N) x)
        rw [← hr.out] at hx2
        clear hNi
        go_wp2
        go_ret
        exact ⟨rfl, rfl⟩

/-- All parts joined. -/
def joinL (l : List (List UInt8)) : List UInt8 := l.flatten
theorem upd_join (x : R) (l : List (List UInt8)) (k : Nat) (h : k < l.length) : upd x (joinL (l.take (k + 1))) = upd (upd x (joinL (l.take k))) l[k] := by
  unfold joinL
  rw [List.take_succ_eq_append_getElem h, List.flatten_append, upd_append]
  simp
theorem strV_get (l : List (List UInt8)) (k : Nat) (h : k < l.length) : (strVs l)[k]'(by rw [strVs_len]; exact h) = .string ⟨(l[k]).toArray⟩ := by
  simp [strVs, strV]

set_option maxHeartbeats 1000000 in
theorem rsum_any (A : Option Addr) (cap : Nat) (l : List (List UInt8)) (w : World) (hl : ∀ x ∈ l, x.length ≤ 1000000) (hn : l.length ≤ 1000000000) (hc : l.length ≤ cap) (hcm : cap ≤ 9223372036854775807) (hr : Rd w A (strVs l)) :
    Calls Try.prog 15 #[.slice A l.length cap] w fun e w' => e = .returned (.int .u32 ((sumL (joinL l)).toNat : Int)) ∧ w = w' := by
  have hrh := Lib.hid hr
  clear hr
  go_enter Try.func15, Try.ntmps15
  go_wp2
  go_loop [3, 4] (fun v i => ∃ k : Nat, k ≤ l.length ∧ i = .int .i64 k ∧ v = .int .u32 ((upd ones (joinL (l.take k))).toNat : Int)) (fun _ i => l.length - (intOf i).toNat)
  case atStart => exact ⟨0, Nat.zero_le _, rfl, rfl⟩
  case round =>
    obtain ⟨k, hk, rfl, rfl⟩ := hrel
    by_cases hlt : k < l.length
    · obtain ⟨b, o, rfl, hb, hcell⟩ := hrh.out k (by rw [strVs_len]; exact hlt)
      rw [strV_get l k hlt] at hcell
      obtain ⟨x, hx⟩ : ∃ x, l[k] = x := ⟨_, rfl⟩
      have hxl := hl _ (List.getElem_mem hlt)
      rw [hx] at hcell hxl
      have hj := upd_join ones l k hlt
      rw [hx] at hj
      obtain ⟨y, hy⟩ : ∃ y, upd ones (joinL (l.take k)) = y := ⟨_, rfl⟩
      have hs := rupdate_any y ⟨x.toArray⟩ w (by rw [str_size]; exact hxl)
      rw [hy] at hj ⊢
      rw [str_list, ← hj] at hs
      have hs := Lib.hid hs
      have hI0 : (0 : Int) ≤ (k : Int) := by omega
      have hI1 : (k : Int) < (l.length : Int) := by omega
      clear hx hj hy
      go_wp2_with fail
      refine hs.out.mono ?_
      rintro e w1 ⟨rfl, rfl⟩
      go_wp2
      go_round
      case rel => exact ⟨k + 1, by omega, by go_num, rfl⟩
      case measure => simp [intOf]; omega
    · have hfin := Lib.hid (show sumL (joinL l) = upd ones (joinL (l.take k)) by rw [List.take_of_length_le (by omega : l.length ≤ k)]; rfl)
      go_wp2
      go_ret
      exact ⟨ret_i (by rw [hfin.out]), rfl⟩

/-- 'string(b)' of a row of bytes just made. -/
theorem conv_made {P : Program} (w : World) {src dst e : TypeId} {cs : Array Value} {l : List UInt8} {n : Nat} (hn : l.length = n) (hs : P.underlying src = some (.slice e)) (he : P.underlying e = some (.int .u8)) (hd : P.underlying dst = some .string) (hc : cs.toList = bys l) :
    (convert src dst (.slice (some ⟨w.heap.size, 0, none⟩) n n)).run P (w.alloc (.cells cs e)) = .ok (.string ⟨l.toArray⟩) (w.alloc (.cells cs e)) := by
  subst hn
  refine run_convert_bytes_back _ src dst e ⟨w.heap.size, 0, none⟩ l.length l hs he hd fun j hj => ?_
  have h0 : cs[j]? = some (.int .u8 (l[j].toNat : Int)) := by
    rw [← Array.getElem?_toList, hc]
    exact bys_get l j hj
  rw [add_at]
  rw [World.cell?_alloc_new]
  exact h0
theorem conv_made_drew {P : Program} (w : World) {src dst e : TypeId} {cs : Array Value} {l : List UInt8} {n : Nat} (hn : l.length = n) (hs : P.underlying src = some (.slice e)) (he : P.underlying e = some (.int .u8)) (hd : P.underlying dst = some .string) (hc : cs.toList = bys l) :
    (convert src dst (.slice (some ⟨w.heap.size, 0, none⟩) n n)).run P (w.alloc (.cells cs e)).drew = .ok (.string ⟨l.toArray⟩) (w.alloc (.cells cs e)).drew := by
  subst hn
  refine run_convert_bytes_back _ src dst e ⟨w.heap.size, 0, none⟩ l.length l hs he hd fun j hj => ?_
  have h0 : cs[j]? = some (.int .u8 (l[j].toNat : Int)) := by
    rw [← Array.getElem?_toList, hc]
    exact bys_get l j hj
  rw [add_at]
  show (w.alloc (.cells cs e)).cell? _ = _
  rw [World.cell?_alloc_new]
  exact h0
theorem byL_cells (x : R) : (#[.int .u8 ((x.toNat : Int) / 16777216), .int .u8 ((x.toNat : Int) / 65536 % 256), .int .u8 ((x.toNat : Int) / 256 % 256), .int .u8 ((x.toNat : Int) % 256)] : Array Value).toList = bys (byL x) := by
  have hx := x.isLt
  unfold byL bys
  simp only [List.map_cons, List.map_nil, nb_toNat]
  have h1 : (x.toNat : Int) / 16777216 = ((x.toNat / 2 ^ 24 % 256 : Nat) : Int) := by omega
  have h2 : (x.toNat : Int) / 65536 % 256 = ((x.toNat / 2 ^ 16 % 256 : Nat) : Int) := by omega
  have h3 : (x.toNat : Int) / 256 % 256 = ((x.toNat / 2 ^ 8 % 256 : Nat) : Int) := by omega
  have h4 : (x.toNat : Int) % 256 = ((x.toNat / 2 ^ 0 % 256 : Nat) : Int) := by omega
  rw [h1, h2, h3, h4]

set_option maxHeartbeats 1000000 in
theorem rbytes_any (x : R) (w : World) :
    Calls Try.prog 17 #[.int .u32 (x.toNat : Int)] w fun e w' => e = .returned (.string ⟨(byL x).toArray⟩) ∧ Below w.heap.size w w' := by
  have hx := x.isLt
  have hconv := conv_made (P := Try.prog) w (dst := 9) (n := 4) (l := byL x) rfl Try.underlying38 Try.underlying5 Try.underlying9 (byL_cells x)
  go_enter Try.func17, Try.ntmps17
  go_wp2
  go_ret
  exact ⟨rfl, (Below.refl _ _).alloc (Nat.le_refl _) _⟩
end Go.Proofs.Ytnafcicllcmbbaa.K3
