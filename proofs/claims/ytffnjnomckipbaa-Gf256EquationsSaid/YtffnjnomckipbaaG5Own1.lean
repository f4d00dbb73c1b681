/- The contracts of the landed functions of layer 5: double, Add, Mul, exponent, bitsOf, Log. -/
import Derived.Test.YtffnjnomckipbaaG5Ref3
namespace Go.Proofs.Ytffnjnomckipbaa.G5
open Go.RowKit Mem
set_option linter.unusedVariables false
set_option linter.unusedSimpArgs false

theorem add_own (a b : R) (w : World) : Calls Try.prog 16 #[bv a, bv b] w fun e w' => e = .returned (bv (a ^^^ b)) ∧ w = w' := by
  have h := bxr a b
  obtain ⟨S, hS⟩ : ∃ S, a ^^^ b = S := ⟨_, rfl⟩
  rw [hS] at h ⊢
  have h := Lib.hid h
  go_enter Try.func16, Try.ntmps16
  go_wp2
  go_ret
  exact ⟨rfl, rfl⟩

theorem double_own (x : R) (w : World) : Calls Try.prog 26 #[bv x] w fun e w' => e = .returned (bv (stp x)) ∧ w = w' := by
  have hlt := x.isLt
  have hlo := stp_lo x
  have hhi := stp_hi x
  obtain ⟨S, hS⟩ : ∃ S, (stp x).toNat = S := ⟨_, rfl⟩
  rw [bv, bv, hS]
  rw [hS] at hlo hhi
  obtain ⟨X, hX⟩ : ∃ X, x.toNat = X := ⟨_, rfl⟩
  rw [hX] at hlo hhi hlt ⊢
  clear hS hX
  have hloh := Lib.hid hlo
  have hhih := Lib.hid hhi
  clear hlo hhi
  by_cases h : 128 ≤ X
  · have hd : (X : Int) / 128 = 1 := by omega
    go_enter Try.func26, Try.ntmps26
    go_wp2
    go_ret
    exact ⟨ret_i (by
      rw [hhih.out h]
      exact u8_xor_nat (X * 2 % 256) 29 (by omega) (by decide)), rfl⟩
  · have hd : (X : Int) / 128 = 0 := by omega
    go_enter Try.func26, Try.ntmps26
    go_wp2
    go_ret
    exact ⟨ret_i (by
      rw [hloh.out (by omega)]
      have := u8_xor_nat (X * 2) 0 (by omega) (by decide)
      rw [Nat.xor_zero] at this
      exact (show _ = _ from this)), rfl⟩

theorem hor_one (a b : R) (j m : Nat) (hm : 7 - j = m) (h : b.getLsbD m = true) : hor a b (j + 1) = stp (hor a b j) ^^^ a := by
  subst hm
  show (if _ then _ else _) = _
  rw [h, if_pos rfl]
theorem hor_none (a b : R) (j m : Nat) (hm : 7 - j = m) (h : b.getLsbD m = false) : hor a b (j + 1) = stp (hor a b j) := by
  subst hm
  show (if _ then _ else _) = _
  rw [h, if_neg (by decide)]

set_option maxHeartbeats 1000000 in
theorem mul_own (a b : R) (w : World) : Calls Try.prog 18 #[bv a, bv b] w fun e w' => e = .returned (bv (tms a b)) ∧ w = w' := by
  have ha := a.isLt
  have hb := b.isLt
  go_enter Try.func18, Try.ntmps18
  go_wp2
  go_loop [5, 8] (fun p k => ∃ j : Nat, j ≤ 8 ∧ k = .int .i64 j ∧ p = .int .u8 ((hor a b j).toNat : Int)) (fun _ k => 8 - (intOf k).toNat)
  case atStart => exact ⟨0, Nat.zero_le _, rfl, rfl⟩
  case round =>
    obtain ⟨j, hj, rfl, rfl⟩ := hrel
    by_cases hlt : j < 8
    · obtain ⟨m, hm⟩ : ∃ m, 7 - j = m := ⟨_, rfl⟩
      have hmi : (7 : Int) - (j : Int) = (m : Int) := by omega
      have hmlt : m < 8 := by omega
      have c := double_own (hor a b j) w
      have hv := bit_val b m
      rcases hbit : b.getLsbD m with _ | _
      · rw [hbit, if_neg (by decide)] at hv
        have hn := Lib.hid (hor_none a b j m hm hbit)
        have hx := bxr (stp (hor a b j)) 0#8
        rw [BitVec.xor_zero] at hx
        obtain ⟨G, hG⟩ : ∃ G, stp (hor a b j) = G := ⟨_, rfl⟩
        rw [hG] at c hx
        have hGl := G.isLt
        have hGh := Lib.hid hG
        have c := Lib.hid c
        have hxh := Lib.hid hx
        clear hbit hm hG hx
        go_wp2_with fail
        refine c.out.mono ?_
        rintro e w1 ⟨rfl, rfl⟩
        go_wp2
        go_round
        case rel => exact ⟨j + 1, by omega, by go_num, by rw [hn.out, hGh.out]; exact congrArg _ hxh.out⟩
        case measure => simp [intOf]; omega
      · rw [hbit, if_pos rfl] at hv
        have hn := Lib.hid (hor_one a b j m hm hbit)
        have hx := bxr (stp (hor a b j)) a
        obtain ⟨G, hG⟩ : ∃ G, stp (hor a b j) = G := ⟨_, rfl⟩
        rw [hG] at c hx
        have hGl := G.isLt
        have hGh := Lib.hid hG
        have c := Lib.hid c
        have hxh := Lib.hid hx
        clear hbit hm hG hx
        go_wp2_with fail
        refine c.out.mono ?_
        rintro e w1 ⟨rfl, rfl⟩
        go_wp2
        go_round
        case rel => exact ⟨j + 1, by omega, by go_num, by rw [hn.out, hGh.out]; exact congrArg _ hxh.out⟩
        case measure => simp [intOf]; omega
    · obtain rfl : j = 8 := by omega
      go_wp2
      go_ret
      exact ⟨rfl, rfl⟩

theorem exponent_own (n : Int) (w : World) : Calls Try.prog 29 #[.int .i64 n] w fun e w' => e = .returned (.int .i64 (n % 255)) ∧ w = w' := by
  have hg := go_mod2 n
  have hb : -255 < Int.tmod n 255 ∧ Int.tmod n 255 < 255 := ⟨Int.lt_tmod_of_pos n (by decide), Int.tmod_lt_of_pos n (by decide)⟩
  obtain ⟨K, hK⟩ : ∃ K, Int.tmod n 255 = K := ⟨_, rfl⟩
  rw [hK] at hg hb
  obtain ⟨h1, h2⟩ := hb
  have hgh := Lib.hid hg
  clear hg
  go_enter Try.func29, Try.ntmps29
  go_wp2
  go_ret
  exact ⟨ret_i (by rw [← hgh.out]; first | rfl | (rw [Int.tmod_eq_emod_of_nonneg (by omega)])), rfl⟩

theorem bitsOf_own (n : Int) (w : World) : Calls Try.prog 28 #[.int .i64 n] w fun e w' =>
    e = .returned (.func (.func 30) #[] #[.pointer (some ⟨w.heap.size, 0, none⟩)]) ∧ w' = w.alloc (.cells #[.int .i64 n] 3) := by
  go_enter Try.func28, Try.ntmps28
  go_wp2
  go_ret
  exact ⟨rfl, rfl⟩

set_option maxRecDepth 100000 in
set_option maxHeartbeats 1000000 in
theorem log_own (a : R) (w : World) : Calls Try.prog 20 #[bv a] w fun e w' => e = .returned (.tuple #[.int .i64 (lo a : Int), .bool (!(a == 0))]) ∧ w = w' := by
  go_enter Try.func20, Try.ntmps20
  go_wp2
  go_loop [4, 6] (fun p x => ∃ j : Nat, j ≤ 255 ∧ x = .int .i64 j ∧ p = .int .u8 ((it j 1).toNat : Int) ∧ ∀ i, i < j → it i 1 ≠ a) (fun _ x => 255 - (intOf x).toNat)
  case atStart => exact ⟨0, by decide, rfl, rfl, fun i h2 => by omega⟩
  case round =>
    obtain ⟨j, h2, rfl, rfl, hn⟩ := hrel
    by_cases hlt : j < 255
    · have c := double_own (it j 1) w
      rw [show stp (it j 1) = it (j + 1) 1 from rfl] at c
      have hnh := Lib.hid hn
      clear hn
      obtain ⟨G, hG⟩ : ∃ G, it j 1 = G := ⟨_, rfl⟩
      rw [hG] at c ⊢
      have c := Lib.hid c
      rcases hb : G == a with _ | _
      · have ht : ((G.toNat : Int) == (a.toNat : Int)) = false := by rw [bv_eq1]; exact hb
        have hne : it j 1 ≠ a := by rw [hG]; simpa using hb
        have hneh := Lib.hid hne
        clear hb hne hG
        go_wp2_with fail
        refine c.out.mono ?_
        rintro e w1 ⟨rfl, rfl⟩
        go_wp2
        go_round
        case rel => exact ⟨j + 1, by omega, by go_num, rfl, fun i h4 => by
          by_cases he : i = j
          · subst he
            exact hneh.out
          · exact hnh.out i (by omega)⟩
        case measure => simp [intOf]; omega
      · have ht : ((G.toNat : Int) == (a.toNat : Int)) = true := by rw [bv_eq1]; exact hb
        have he : it j 1 = a := by rw [hG]; simpa using hb
        have hl := Lib.hid (lo_of hlt he)
        have ha0 : (a == 0) = false := by
          rw [beq_eq_false_iff_ne]
          intro e
          exact it_ne j (he.trans e)
        have ha0h := Lib.hid ha0
        clear hb he hG ha0
        go_wp2
        go_ret2
        exact ⟨ret_kb (by rw [hl.out]) (by rw [show (a == 0#8) = false from ha0h.out]; rfl), rfl⟩
    · have h0 := Lib.hid (none_of (a := a) (fun i h4 => hn i (by omega)))
      obtain rfl : j = 255 := by omega
      clear hn
      go_wp2
      go_ret2
      exact ⟨by rw [h0.out]; rfl, rfl⟩
end Go.Proofs.Ytffnjnomckipbaa.G5
