/- The contracts of the reference's functions of layer 5: inverse, quotient, logarithm, power. -/
import Derived.Test.YtffnjnomckipbaaG5Ref2
import Derived.Test.YtffnjnomckipbaaG5Fun
namespace Go.Proofs.Ytffnjnomckipbaa.G5
open Go.RowKit Mem
set_option linter.unusedVariables false
set_option linter.unusedSimpArgs false

theorem ret_kb {k : IntKind} {x x' : Int} {y y' : Bool} (h : x = x') (h' : y = y') : Ending.returned (.tuple #[.int k x, .bool y]) = .returned (.tuple #[.int k x', .bool y']) := by rw [h, h']
theorem bv_eq1 (x y : R) : ((x.toNat : Int) == (y.toNat : Int)) = (x == y) := by
  rcases hb : x == y with _ | _
  · rw [beq_eq_false_iff_ne] at hb ⊢
    exact fun e => hb (BitVec.eq_of_toNat_eq (by omega))
  · rw [beq_iff_eq] at hb ⊢
    rw [hb]

set_option maxRecDepth 100000 in
set_option maxHeartbeats 1000000 in
theorem rinv_any (a : R) (w : World) : Calls Try.prog 13 #[bv a] w fun e w' => e = .returned (.tuple #[bv (iv a), .bool (!(a == 0))]) ∧ w = w' := by
  go_enter Try.func13, Try.ntmps13
  go_wp2
  go_loop [4] (fun x => ∃ j : Nat, 1 ≤ j ∧ j ≤ 256 ∧ x = .int .i64 j ∧ ∀ i, 1 ≤ i → i < j → tms a (BitVec.ofNat 8 i) ≠ 1) (fun x => 256 - (intOf x).toNat)
  case atStart => exact ⟨1, by decide, by decide, rfl, fun i h1 h2 => by omega⟩
  case round =>
    obtain ⟨j, h1, h2, rfl, hn⟩ := hrel
    by_cases hlt : j < 256
    · have hv : ((BitVec.ofNat 8 j).toNat : Int) = (j : Int) := by rw [BitVec.toNat_ofNat]; omega
      have c := rmul_any a (BitVec.ofNat 8 j) w
      rw [bv, bv, hv] at c
      obtain ⟨T, hT⟩ : ∃ T, tms a (BitVec.ofNat 8 j) = T := ⟨_, rfl⟩
      rw [hT] at c
      have c := Lib.hid c
      have hnh := Lib.hid hn
      have hvh := Lib.hid hv
      clear hn hv
      rcases hb : T == 1#8 with _ | _
      · have ht : ((T.toNat : Int) == 1) = false := by rw [← hb, ← bv_eq1]; rfl
        have hne : T ≠ 1 := by simpa using hb
        have hneh := Lib.hid hne
        have hTh := Lib.hid hT
        clear hb hne hT
        go_wp2_with fail
        refine c.out.mono ?_
        rintro e w1 ⟨rfl, rfl⟩
        go_wp2
        go_round
        case rel => exact ⟨j + 1, by omega, by omega, by go_num, fun i h3 h4 => by
          by_cases he : i = j
          · subst he
            rw [hTh.out]
            exact hneh.out
          · exact hnh.out i h3 (by omega)⟩
        case measure => simp [intOf]; omega
      · have ht : ((T.toNat : Int) == 1) = true := by rw [← hb, ← bv_eq1]; rfl
        have he : T = 1 := by simpa using hb
        rw [he] at hT
        have hi := Lib.hid (iv_only hT)
        have ha0 : (a == 0) = false := by
          rw [beq_eq_false_iff_ne]
          intro e
          rw [e, zero_tms] at hT
          exact absurd hT (by decide)
        have ha0 := Lib.hid ha0
        clear hb he hT
        go_wp2_with fail
        refine c.out.mono ?_
        rintro e w1 ⟨rfl, rfl⟩
        go_wp2
        go_ret2
        exact ⟨ret_kb (by rw [← hi.out, hvh.out]) (by rw [ha0.out]; rfl), rfl⟩
    · have h0 := Lib.hid (noinv_of (a := a) (fun i h3 h4 => hn i h3 (by omega)))
      obtain rfl : j = 256 := by omega
      clear hn
      go_wp2
      go_ret2
      exact ⟨by rw [h0.out]; rfl, rfl⟩

set_option maxRecDepth 100000 in
set_option maxHeartbeats 1000000 in
theorem rdiv_any (a b : R) (w : World) : Calls Try.prog 15 #[bv a, bv b] w fun e w' => e = .returned (.tuple #[bv (dv a b), .bool (!(b == 0))]) ∧ w = w' := by
  have c1 := rinv_any b w
  have c2 := rmul_any a (iv b) w
  rw [dv_all] at c2
  rcases hb : b == 0 with _ | _
  · rw [hb] at c1
    have c1 := Lib.hid c1
    have c2 := Lib.hid c2
    clear hb
    go_enter Try.func15, Try.ntmps15
    go_wp2_with fail
    refine c1.out.mono ?_
    rintro e w1 ⟨rfl, rfl⟩
    go_wp2_with fail
    refine c2.out.mono ?_
    rintro e w1 ⟨rfl, rfl⟩
    go_wp2
    go_ret2
    exact ⟨rfl, rfl⟩
  · rw [hb] at c1
    have hd : dv a b = 0 := by
      have : b = 0 := by simpa using hb
      rw [this]
      rfl
    have hd := Lib.hid hd
    have c1 := Lib.hid c1
    clear hb c2
    go_enter Try.func15, Try.ntmps15
    go_wp2_with fail
    refine c1.out.mono ?_
    rintro e w1 ⟨rfl, rfl⟩
    go_wp2
    go_ret2
    exact ⟨by rw [hd.out]; rfl, rfl⟩

set_option maxRecDepth 100000 in
set_option maxHeartbeats 1000000 in
theorem rlog_any (a : R) (w : World) : Calls Try.prog 21 #[bv a] w fun e w' => e = .returned (.tuple #[.int .i64 (lo a : Int), .bool (!(a == 0))]) ∧ w = w' := by
  go_enter Try.func21, Try.ntmps21
  go_wp2
  go_loop [4, 5] (fun p x => ∃ j : Nat, j ≤ 255 ∧ x = .int .i64 j ∧ p = .int .u8 ((it j 1).toNat : Int) ∧ ∀ i, i < j → it i 1 ≠ a) (fun _ x => 255 - (intOf x).toNat)
  case atStart => exact ⟨0, by decide, rfl, rfl, fun i h2 => by omega⟩
  case round =>
    obtain ⟨j, h2, rfl, rfl, hn⟩ := hrel
    by_cases hlt : j < 255
    · have c := rtwo_any j w
      have hnh := Lib.hid hn
      clear hn
      obtain ⟨G, hG⟩ : ∃ G, it j 1 = G := ⟨_, rfl⟩
      rw [hG] at c ⊢
      have c := Lib.hid c
      rcases hb : G == a with _ | _
      · have ht : ((G.toNat : Int) == (a.toNat : Int)) = false := by rw [bv_eq1]; exact hb
        have hne : it j 1 ≠ a := by rw [hG]; simpa using hb
        have hneh := Lib.hid hne
        clear hb hne hG
        go_wp2_with fail
        refine c.out.mono ?_
        rintro e w1 ⟨rfl, rfl⟩
        go_wp2
        go_round
        case rel => exact ⟨j + 1, by omega, by go_num, rfl, fun i h4 => by
          by_cases he : i = j
          · subst he
            exact hneh.out
          · exact hnh.out i (by omega)⟩
        case measure => simp [intOf]; omega
      · have ht : ((G.toNat : Int) == (a.toNat : Int)) = true := by rw [bv_eq1]; exact hb
        have he : it j 1 = a := by rw [hG]; simpa using hb
        have hl := Lib.hid (lo_of hlt he)
        have ha0 : (a == 0) = false := by
          rw [beq_eq_false_iff_ne]
          intro e
          exact it_ne j (he.trans e)
        have ha0h := Lib.hid ha0
        clear hb he hG ha0
        go_wp2
        go_ret2
        exact ⟨ret_kb (by rw [hl.out]) (by rw [show (a == 0#8) = false from ha0h.out]; rfl), rfl⟩
    · have h0 := Lib.hid (none_of (a := a) (fun i h4 => hn i (by omega)))
      obtain rfl : j = 255 := by omega
      clear hn
      go_wp2
      go_ret2
      exact ⟨by rw [h0.out]; rfl, rfl⟩

theorem rstep_any (a : R) (j : Nat) (w : World) : Calls Try.prog 19 #[.int .u8 ((pw a j).toNat : Int), bv a] w fun e w' => e = .returned (.int .u8 ((pw a (j + 1)).toNat : Int)) ∧ w = w' := rmul_any (pw a j) a w

set_option maxRecDepth 100000 in
set_option maxHeartbeats 1000000 in
theorem rpow_any (a : R) (n : Int) (w : World) (h1 : -9223372036854775808 ≤ n) (h2 : n ≤ 9223372036854775807) :
    Calls Try.prog 23 #[bv a, .int .i64 n] w fun e w' => e = .returned (.tuple #[bv (po a n), .bool (pk a n)]) ∧ w = w' := by
  by_cases ha : a = 0
  · subst ha
    by_cases hn : n = 0
    · subst hn
      go_enter Try.func23, Try.ntmps23
      go_wp2
      go_ret2
      exact ⟨rfl, rfl⟩
    · have hd : (n == 0) = false := by rw [beq_eq_false_iff_ne]; exact hn
      have hp : po 0 n = 0 := by unfold po; rw [if_pos rfl, if_neg hn]
      have hk : pk 0 n = decide (0 < n) := by
        unfold pk
        rw [show (!((0 : R) == 0)) = false by decide, Bool.false_or]
        by_cases h : 0 < n
        · rw [decide_eq_true h, decide_eq_true (by omega)]
        · rw [decide_eq_false h, decide_eq_false (by omega)]
      have hp := Lib.hid hp
      have hk := Lib.hid hk
      obtain ⟨B, hB⟩ : ∃ B, decide (0 < n) = B := ⟨_, rfl⟩
      have hBh := Lib.hid hB
      clear hn
      go_enter Try.func23, Try.ntmps23
      go_wp2
      go_ret2
      exact ⟨by rw [hp.out, hk.out]; first | rfl | (rw [hBh.out]; rfl), rfl⟩
  · have hd : ((a.toNat : Int) == 0) = false := by
      rw [show ((a.toNat : Int) == 0) = (a == 0) from bv_eq1 a 0, beq_eq_false_iff_ne]
      exact ha
    have hp := Lib.hid (po_of ha n)
    have hk : pk a n = true := by
      unfold pk
      rw [show (a == 0) = false by rw [beq_eq_false_iff_ne]; exact ha]
      rfl
    have hkh := Lib.hid hk
    clear hk
    have hg := go_mod n
    obtain ⟨M, hM, hMl⟩ : ∃ M : Nat, n % 255 = (M : Int) ∧ M < 255 := ⟨(n % 255).toNat, by omega, by omega⟩
    rw [hM] at hg
    have hM := Lib.hid (show (n % 255).toNat = M by omega)
    obtain ⟨K, hK⟩ : ∃ K, Int.tmod n 255 = K := ⟨_, rfl⟩
    rw [hK] at hg
    clear ha
    by_cases hn : K < 0
    · rw [if_pos hn] at hg
      have hd : decide (K < 0) = true := decide_eq_true hn
      clear hn
      go_enter Try.func23, Try.ntmps23
      go_wp2
      go_loop [7, 8] (fun p i => ∃ j : Nat, j ≤ M ∧ i = .int .i64 j ∧ p = .int .u8 ((pw a j).toNat : Int)) (fun _ i => M - (intOf i).toNat)
      case atStart => exact ⟨0, Nat.zero_le _, rfl, rfl⟩
      case round =>
        obtain ⟨j, hj, rfl, rfl⟩ := hrel
        by_cases hlt : j < M
        · have c := Lib.hid (rstep_any a j w)
          go_wp2_with fail
          refine c.out.mono ?_
          rintro e w1 ⟨rfl, rfl⟩
          go_wp2
          go_round
          case rel => exact ⟨j + 1, by omega, by go_num, rfl⟩
          case measure => simp [intOf]; omega
        · obtain rfl : j = M := by omega
          go_wp2
          go_ret2
          exact ⟨by rw [hp.out, hkh.out, hM.out]; rfl, rfl⟩
    · rw [if_neg hn] at hg
      have hd : decide (K < 0) = false := decide_eq_false hn
      clear hn
      subst hg
      go_enter Try.func23, Try.ntmps23
      go_wp2
      go_loop [7, 8] (fun p i => ∃ j : Nat, j ≤ M ∧ i = .int .i64 j ∧ p = .int .u8 ((pw a j).toNat : Int)) (fun _ i => M - (intOf i).toNat)
      case atStart => exact ⟨0, Nat.zero_le _, rfl, rfl⟩
      case round =>
        obtain ⟨j, hj, rfl, rfl⟩ := hrel
        by_cases hlt : j < M
        · have c := Lib.hid (rstep_any a j w)
          go_wp2_with fail
          refine c.out.mono ?_
          rintro e w1 ⟨rfl, rfl⟩
          go_wp2
          go_round
          case rel => exact ⟨j + 1, by omega, by go_num, rfl⟩
          case measure => simp [intOf]; omega
        · obtain rfl : j = M := by omega
          go_wp2
          go_ret2
          exact ⟨by rw [hp.out, hkh.out, hM.out]; rfl, rfl⟩
end Go.Proofs.Ytffnjnomckipbaa.G5
