/- The walk of the law ConvcodeSteps, under the package's contracts. -/
import Derived.Test.YthbhjbbgghpiaaaC9Law4
import Derived.Test.YthbhjbbgghpiaaaC9Ref1
namespace Go.Proofs.Ythbhjbbgghpiaaa.C9
open Go.RowKit Mem
set_option linter.unusedVariables false
set_option linter.unusedSimpArgs false

theorem step_at (D : Dev) (s1 s2 u : Bool) (w : World) : Calls Try.prog 18 #[.int .i64 (stN s1 s2 : Int), .int .i64 (bn u : Int)] w fun e w' =>
    e = .returned (.tuple #[.int .i64 (stN u s1 : Int), .string (sb (out2 s1 s2 u))]) ∧ Below w.heap.size w w' := by
  have h := D.next (stN s1 s2 : Int) (bn u : Int) w (by cases s1 <;> cases s2 <;> decide) (by cases s1 <;> cases s2 <;> decide) (by cases u <;> decide) (by cases u <;> decide)
  unfold Nxt at h
  rw [show oneB (stN s1 s2 : Int) = s1 by cases s1 <;> cases s2 <;> decide, show twoB (stN s1 s2 : Int) = s2 by cases s1 <;> cases s2 <;> decide, show twoB (bn u : Int) = u by cases u <;> decide] at h
  exact h
theorem run_snoc7 (l : List Bool) (u : Bool) : run false false (l ++ [u]) = run false false l ++ out2 (fin false false l).1 (fin false false l).2 u := by
  rw [run_app]
  show _ ++ (out2 _ _ u ++ []) = _
  rw [List.append_nil]
theorem two_false : ∀ (q : Nat) (h : q < 2), ([false, false] : List Bool)[q]'h = false
  | 0, _ => rfl
  | 1, _ => rfl
theorem sb_byte7 (l : List Bool) (k : Nat) (h : k < (sb l).size) (h' : k < l.length) : (((sb l)[k]).toNat : Int) = 48 + (bn l[k] : Int) := by
  have e : (sb l)[k] = cell l[k] := by
    show (cs l).toArray[k]'_ = _
    simp [cs]
  rw [e]
  cases l[k] <;> rfl
set_option maxRecDepth 100000 in
set_option maxHeartbeats 8000000 in
theorem walk_steps (D : Dev) (s : ByteArray) (i1 i2 : Int) (w : World) (hs : s.size ≤ 140737488351232) (h1 : (Lit.int .i64 i1).wf = true) (h2 : (Lit.int .i64 i2).wf = true) :
    Calls Try.prog 5 #[.string s, .int .i64 i1, .int .i64 i2] w fun e w' => e = .returned (.bool true) ∧ Below w.heap.size w w' := by
  obtain ⟨g1, g2⟩ : -9223372036854775808 ≤ i1 ∧ i1 ≤ 9223372036854775807 := (Lit.wf_int_iff .i64 _).1 h1
  obtain ⟨g3, g4⟩ : -9223372036854775808 ≤ i2 ∧ i2 ≤ 9223372036854775807 := (Lit.wf_int_iff .i64 _).1 h2
  have cA := Lib.hid (alive_any D w)
  have c1 := fun W => D.next i1 i2 W g1 g2 g3 g4
  have c2 := fun W => rnext_any i1 i2 W g1 g2 g3 g4
  unfold Nxt at c1 c2
  obtain ⟨Z, hZ⟩ : ∃ z, stN (twoB i2) (oneB i1) = z := ⟨_, rfl⟩
  obtain ⟨P, hP⟩ : ∃ z, sb (out2 (oneB i1) (twoB i1) (twoB i2)) = z := ⟨_, rfl⟩
  rw [hZ, hP] at c1 c2
  have c3 := Lib.hid (fun W => D.encode s W (by omega))
  have cn := Lib.hid (fun s1 s2 u W => step_at D s1 s2 u W)
  replace c1 := Lib.hid c1
  replace c2 := Lib.hid c2
  clear h1 h2 g1 g2 g3 g4 hZ hP
  go_enter Try.func5, Try.ntmps5
  go_wp2_with fail
  refine cA.out.mono ?_
  rintro e w1 ⟨rfl, hB⟩
  go_wp2_with fail
  refine (c1.out _).mono ?_
  rintro e w2 ⟨rfl, hb⟩
  replace hB := chain hB hb
  clear hb
  go_wp2_with fail
  refine (c2.out _).mono ?_
  rintro e w3 ⟨rfl, hb⟩
  replace hB := chain hB hb
  clear hb
  go_wp2_with fail
  refine (c3.out _).mono ?_
  rintro e w4 ⟨X, k1, hq1, rfl, hb⟩
  replace hB := chain hB hb
  clear hb cA c1 c2 c3
  replace hq1 := Lib.hid hq1
  by_cases h1 : s.size ≤ 1000
  · have d1 : decide (1000 < s.size) = false := decide_eq_false (by omega)
    have d1' : decide ((1000 : Int) < (s.size : Int)) = false := decide_eq_false (by omega)
    by_cases h3 : k1 = 0
    · have d3 : (k1 != 0) = false := by rw [h3]; rfl
      obtain ⟨s1, b1, e1⟩ := hq1.out.ok h3
      obtain ⟨l, hl⟩ : ∃ l, tb s = l := ⟨_, rfl⟩
      have hal : sb l = s := by rw [← hl]; exact sb_tb b1
      have hll : l.length = s.size := by rw [← hl, tb_len]
      rw [hl] at e1
      obtain ⟨N, hN⟩ : ∃ N, l ++ [false, false] = N := ⟨_, rfl⟩
      have hNl : N.length = s.size + 2 := by rw [← hN, List.length_append, hll]; rfl
      have hX : X = sb (run false false N) := by rw [e1, ← hN]; rfl
      have hend : fin false false N = (false, false) := by rw [← hN]; exact fin_end l
      have hget : ∀ (k : Nat) (h : k < s.size) (h' : k < N.length), ((s[k]).toNat : Int) = 48 + (bn N[k] : Int) := fun k h h' => by
        subst hal
        have hk : k < l.length := by rw [← sb_size]; exact h
        rw [sb_byte7 l k h hk]
        subst hN
        rw [List.getElem_append_left hk]
      have hzero : ∀ (k : Nat) (h : s.size ≤ k) (h' : k < N.length), N[k] = false := fun k h h' => by
        subst hN
        rw [List.getElem_append_right (by omega)]
        exact two_false _ (by omega)
      obtain ⟨z, hz⟩ : ∃ z, s.size = z := ⟨_, rfl⟩
      have hz6 : z ≤ 1000 := by omega
      rw [hz] at hNl
      replace hNl := Lib.hid hNl
      replace hX := Lib.hid hX
      replace hend := Lib.hid hend
      replace hget := Lib.hid hget
      replace hzero := Lib.hid hzero
      rw [hz] at d1 d1'
      clear h3 s1 b1 hl hal hll e1 hN hq1 h1
      go_wp2
      clear d1 d1' d3
      go_loopw [13, 14, 15] (fun a o i wr => ∃ j : Nat, j ≤ z + 2 ∧ a = .int .i64 (stN (fin false false (N.take j)).1 (fin false false (N.take j)).2 : Int) ∧ o = .string (sb (run false false (N.take j))) ∧ i = .int .i64 (j : Int) ∧ Below w.heap.size w wr) (fun _ _ i _ => z + 2 - (intOf i).toNat)
      case atStart => exact ⟨0, Nat.zero_le _, rfl, rfl, rfl, hB⟩
      case round =>
        obtain ⟨j, hj, rfl, rfl, rfl, hb⟩ := hrel
        clear hB
        by_cases hlt : j < z + 2
        · have hjN : j < N.length := by rw [hNl.out]; exact hlt
          have hts := List.take_succ_eq_append_getElem hjN
          have hsn := run_snoc7 (N.take j) N[j]
          have hfs := fin_snoc (N.take j) N[j] false false
          rw [← hts] at hsn hfs
          have hrl : (run false false (N.take j)).length = 2 * j := by rw [run_len, List.length_take]; omega
          obtain ⟨u, hu⟩ : ∃ u, N[j] = u := ⟨_, rfl⟩
          rw [hu] at hsn hfs
          obtain ⟨s1, hs1⟩ : ∃ x, (fin false false (N.take j)).1 = x := ⟨_, rfl⟩
          obtain ⟨s2, hs2⟩ : ∃ x, (fin false false (N.take j)).2 = x := ⟨_, rfl⟩
          rw [hs1, hs2] at hsn
          rw [hs1] at hfs
          have c := fun W => cn.out s1 s2 u W
          rw [hs1, hs2]
          have hst3 : stN s1 s2 ≤ 3 := by cases s1 <;> cases s2 <;> decide
          obtain ⟨st, hst⟩ : ∃ x, stN s1 s2 = x := ⟨_, rfl⟩
          obtain ⟨t, ht⟩ : ∃ x, stN u s1 = x := ⟨_, rfl⟩
          obtain ⟨O, hO⟩ : ∃ x, sb (out2 s1 s2 u) = x := ⟨_, rfl⟩
          obtain ⟨S, hS⟩ : ∃ x, sb (run false false (N.take j)) = x := ⟨_, rfl⟩
          obtain ⟨S2, hS2⟩ : ∃ x, sb (run false false (N.take (j + 1))) = x := ⟨_, rfl⟩
          have hSs : S.size = 2 * j := by rw [← hS, sb_size, hrl]
          have hOs : O.size = 2 := by rw [← hO, sb_size]; rfl
          have r1 : ∀ W, (Op.stringOp .add S O).run Try.prog W = .ok (.string S2) W := fun W => by
            rw [Go.run_string_add_sum _ _ _ (by omega), ← hS2, hsn, ← sb_app, hS, hO]
          have hf' : stN (fin false false (N.take (j + 1))).1 (fin false false (N.take (j + 1))).2 = t := by rw [hfs]; exact ht
          rw [hst, ht, hO] at c
          rw [hst] at hst3 ⊢
          rw [hS]
          have dl : decide ((j : Int) < (z : Int) + 2) = true := decide_eq_true (by omega)
          have dl' : decide (j < z + 2) = true := decide_eq_true hlt
          replace hf' := Lib.hid hf'
          replace hS2 := Lib.hid hS2
          by_cases hin : j < z
          · have hg := hget.out j (by omega) hjN
            rw [hu] at hg
            have l0 := bn_le u
            obtain ⟨d, hd⟩ : ∃ d, bn u = d := ⟨_, rfl⟩
            rw [hd] at hg c l0
            have di : decide ((j : Int) < (z : Int)) = true := decide_eq_true (by omega)
            have di' : decide (j < z) = true := decide_eq_true hin
            have k0 : (0 : Int) ≤ (j : Int) := by omega
            have k1 : (j : Int) < (z : Int) := by omega
            have b0 : 48 + (d : Int) - 48 = (d : Int) := by omega
            replace c := Lib.hid c
            clear hts hsn hfs hrl hu hs1 hs2 hst ht hO hS hSs hOs hd hlt
            go_wp2_with fail
            refine (c.out _).mono ?_
            rintro e w5 ⟨rfl, hb5⟩
            replace hb := chain hb hb5
            go_wp2
            go_roundw
            case rel => exact ⟨j + 1, by omega, by rw [hf'.out], by rw [hS2.out], by go_num, hb⟩
            case measure => simp [intOf]; omega
          · have hu0 : u = false := by rw [← hu]; exact hzero.out j (by omega) hjN
            rw [hu0, show (bn false : Int) = 0 from rfl] at c
            have di : decide ((j : Int) < (z : Int)) = false := decide_eq_false (by omega)
            have di' : decide (j < z) = false := decide_eq_false hin
            replace c := Lib.hid c
            have hlt2 := Lib.hid hlt
            clear hts hsn hfs hrl hu hs1 hs2 hst ht hO hS hSs hOs hlt hu0
            go_wp2_with fail
            refine (c.out _).mono ?_
            rintro e w5 ⟨rfl, hb5⟩
            replace hb := chain hb hb5
            go_wp2
            go_roundw
            case rel => exact ⟨j + 1, by have := hlt2.out; omega, by rw [hf'.out], by rw [hS2.out], by go_num, hb⟩
            case measure => have := hlt2.out; simp [intOf]; omega
        · obtain rfl : j = z + 2 := by omega
          have hall : N.take (z + 2) = N := List.take_of_length_le (by rw [hNl.out]; exact Nat.le_refl _)
          rw [hall, hend.out, ← hX.out, show (stN (false, false).1 (false, false).2 : Int) = 0 from rfl]
          have dl : decide (((z + 2 : Nat) : Int) < (z : Int) + 2) = false := decide_eq_false (by omega)
          have dl' : decide (z + 2 < z + 2) = false := decide_eq_false hlt
          clear hall hlt
          go_wp2
          go_ret
          exact ⟨rfl, hb⟩
    · have d3 : (k1 != 0) = true := by simpa using h3
      go_wp2
      go_ret
      exact ⟨rfl, hB⟩
  · have d1 : decide (1000 < s.size) = true := decide_eq_true (by omega)
    have d1' : decide ((1000 : Int) < (s.size : Int)) = true := decide_eq_true (by omega)
    go_wp2
    go_ret
    exact ⟨rfl, hB⟩
end Go.Proofs.Ythbhjbbgghpiaaa.C9
