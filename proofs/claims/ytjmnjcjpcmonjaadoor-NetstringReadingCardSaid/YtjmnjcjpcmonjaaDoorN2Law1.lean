/- The walks of the laws NetstringReading, NetstringList, NetstringNumberRoundTrip and NetstringStringRoundTrip, under the package's contracts. -/
import Derived.Test.YtjmnjcjpcmonjaaDoorN2Dev
namespace Go.Proofs.YtjmnjcjpcmonjaaDoor.N2
open Go.RowKit Mem
set_option linter.unusedVariables false

set_option maxHeartbeats 1000000 in
theorem walk_reading (D : Dev) (s : ByteArray) (a : Int) (w : World) (hL0 : Laid w) (hs : s.size ≤ 140737488351232) (ha : (Lit.int .i64 a).wf = true) :
    Calls Tryd.prog 4 #[.string s, .int .i64 a] w fun e w' => e = .returned (.bool true) ∧ Below w.heap.size w w' := by
  have hL := hL0
  have hb : -9223372036854775808 ≤ a ∧ a ≤ 9223372036854775807 := (Lit.wf_int_iff .i64 _).1 ha
  obtain ⟨ha1, ha2⟩ := hb
  by_cases h : s.size ≤ 1000
  · have c1 := Lib.hid (fun W (hL : Laid W) => D.readNumber s a W (by omega) ha1 ha2 hL)
    have c2 := Lib.hid (fun W => rreadNumber_any s a W (by omega) ha1 ha2)
    have c3 := Lib.hid (fun W (hL : Laid W) => D.readString s a W (by omega) ha1 ha2 hL)
    have c4 := Lib.hid (fun W => rreadString_any s a W (by omega) ha1 ha2)
    obtain ⟨n, i, e, hN⟩ : ∃ n i e, rdN s.data.toList a = (n, i, e) := ⟨_, _, _, rfl⟩
    obtain ⟨x, j, g, hS⟩ : ∃ x j g, rdS s.data.toList a = (x, j, g) := ⟨_, _, _, rfl⟩
    unfold RnB at c1
    unfold RnPost at c2
    unfold RsB at c3
    unfold RsPost at c4
    rw [hN] at c1 c2
    rw [hS] at c3 c4
    clear hN hS
    go_enter Tryd.func4, Tryd.ntmps4
    go_wp2_with fail
    refine (c1.out _ (by first | exact hL | exact hL.drewN _)).mono ?_
    rintro e w1 ⟨rfl, hb1⟩
    have hL := Laid.below (by exact hL) hb1
    go_wp2_with fail
    refine (c2.out _).mono ?_
    rintro e w2 ⟨rfl, rfl⟩
    go_wp2_with fail
    refine (c3.out _ (by first | exact hL | exact hL.drewN _)).mono ?_
    rintro e w3 ⟨rfl, hb3⟩
    have hL := Laid.below (by exact hL) hb3
    go_wp2_with fail
    refine (c4.out _).mono ?_
    rintro e w4 ⟨rfl, rfl⟩
    go_wp2_with fail
    refine (awake_any D _ (by first | exact hL | exact hL.drewN _)).mono ?_
    rintro e w5 ⟨rfl, hb5⟩
    have hL := Laid.below (by exact hL) hb5
    go_wp2
    go_ret
    exact ⟨rfl, chain (chain hb1 hb3) hb5⟩
  · have hgt : (1000 : Int) < (s.size : Int) := by omega
    go_enter Tryd.func4, Tryd.ntmps4
    go_wp2_with fail
    refine (awake_any D _ (by first | exact hL | exact hL.drewN _)).mono ?_
    rintro e w5 ⟨rfl, hb5⟩
    have hL := Laid.below (by exact hL) hb5
    go_wp2
    go_ret
    exact ⟨rfl, hb5⟩

set_option maxHeartbeats 1000000 in
theorem walk_list (D : Dev) (s : ByteArray) (w : World) (hL0 : Laid w) (hs : s.size ≤ 140737488351232) :
    Calls Tryd.prog 5 #[.string s] w fun e w' => e = .returned (.bool true) ∧ Below w.heap.size w w' := by
  have hL := hL0
  by_cases h : s.size ≤ 1000
  · have c1 := Lib.hid (fun W (hL : Laid W) => D.readStrings s W (by omega) hL)
    have c2 := Lib.hid (fun W => rreadStrings_any s W (by omega))
    obtain ⟨l, e, hL⟩ : ∃ l e, rdL s.data.toList = (l, e) := ⟨_, _, rfl⟩
    unfold RlPost at c1 c2
    rw [hL] at c1 c2
    have hle : l.length ≤ 1000 := by
      have := rdL_len s.data.toList
      rw [hL] at this
      exact Nat.le_trans this h
    clear hL
    go_enter Tryd.func5, Tryd.ntmps5
    go_wp2_with fail
    refine (c1.out _ (by first | exact hL | exact hL.drewN _)).mono ?_
    rintro e w1 ⟨v, rfl, hv, hb1⟩
    have hL := Laid.below (by exact hL) hb1
    obtain ⟨A, ca, rfl, hca, hcam⟩ := own_slice hv
    go_wp2_with fail
    refine (c2.out _).mono ?_
    rintro e w2 ⟨u, rfl, hu, hb2⟩
    have hL := Laid.below (by exact hL) hb2
    obtain ⟨B, cb, rfl, hcb, hcbm⟩ := own_slice hu
    unfold maxLen at hcam hcbm
    have hA := (Rd.of_own hv).below hb2
    have hB := Rd.of_own hu
    have hSame := Lib.hid (rsame_any A B ca cb l l w2 (by omega) (by omega) hca hcam hcb hcbm hA hB)
    have hc12 := chain hb1 hb2
    clear hv hu hA hB hb1 hb2
    go_wp2_with fail
    refine hSame.out.mono ?_
    rintro e w3 ⟨rfl, m, rfl⟩
    have hL := hL.drewN m
    go_wp2_with fail
    refine (awake_any D _ (by first | exact hL | exact hL.drewN _)).mono ?_
    rintro e w5 ⟨rfl, hb5⟩
    have hL := Laid.below (by exact hL) hb5
    go_wp2
    go_ret
    exact ⟨rfl, chain (chainN hc12 m) hb5⟩
  · have hgt : (1000 : Int) < (s.size : Int) := by omega
    go_enter Tryd.func5, Tryd.ntmps5
    go_wp2_with fail
    refine (awake_any D _ (by first | exact hL | exact hL.drewN _)).mono ?_
    rintro e w5 ⟨rfl, hb5⟩
    have hL := Laid.below (by exact hL) hb5
    go_wp2
    go_ret
    exact ⟨rfl, hb5⟩

theorem cat3 (f : ByteArray) (x : List UInt8) (r : ByteArray) : (f ++ ⟨x.toArray⟩ ++ r).data.toList = f.data.toList ++ (x ++ r.data.toList) := by simp
theorem cat3_size (f : ByteArray) (x : List UInt8) (r : ByteArray) : (f ++ ⟨x.toArray⟩ ++ r).size = f.size + x.length + r.size := by simp; rfl
theorem numL_len {n : Int} (h1 : -9223372036854775808 ≤ n) (h2 : n ≤ 9223372036854775807) : (numL n).length ≤ 22 := by
  have := decI_len h1 h2
  simp [numL]
  omega

set_option maxHeartbeats 1000000 in
theorem walk_number (D : Dev) (f : ByteArray) (n : Int) (r : ByteArray) (w : World) (hL0 : Laid w) (hf : f.size ≤ 140737488351232) (hn : (Lit.int .i64 n).wf = true) (hr : r.size ≤ 140737488351232) :
    Calls Tryd.prog 6 #[.string f, .int .i64 n, .string r] w fun e w' => e = .returned (.bool true) ∧ Below w.heap.size w w' := by
  have hL := hL0
  obtain ⟨hn1, hn2⟩ : -9223372036854775808 ≤ n ∧ n ≤ 9223372036854775807 := (Lit.wf_int_iff .i64 _).1 hn
  clear hn
  by_cases h : f.size + r.size ≤ 500
  · have hle : (f.size : Int) + (r.size : Int) ≤ 500 := by omega
    have hl := numL_len hn1 hn2
    have c1 := Lib.hid (fun W (hL : Laid W) => D.number n W hn1 hn2 hL)
    obtain ⟨S, hS⟩ : ∃ S, f ++ ⟨(numL n).toArray⟩ ++ r = S := ⟨_, rfl⟩
    have hSs : S.size = f.size + (numL n).length + r.size := by rw [← hS, cat3_size]
    have hSl : S.data.toList = f.data.toList ++ (numL n ++ r.data.toList) := by rw [← hS, cat3]
    have c2 := fun W (hL : Laid W) => D.readNumber S (f.size : Int) W (by omega) (by omega) (by omega) hL
    unfold RnB at c2
    rw [hSl, show ((f.size : Nat) : Int) = ((f.data.toList.length : Nat) : Int) from rfl, rdN_num] at c2
    have hSI : (S.size : Int) = (f.size : Int) + ((numL n).length : Int) + (r.size : Int) := by omega
    have hSle : S.size ≤ 600 := by omega
    by_cases hg : n < -2147483648 ∨ 2147483647 < n
    · rw [if_pos hg] at c2
      have c2 := Lib.hid c2
      have hgd : (n < -2147483648) ∨ (decide (n < -2147483648) = false ∧ decide (2147483647 < n) = true) := by
        by_cases h1 : n < -2147483648
        · exact .inl h1
        · exact .inr ⟨decide_eq_false h1, decide_eq_true (by omega)⟩
      have hSIh := Lib.hid hSI
      have hSsh := Lib.hid hSs
      clear hSs hSl hSI
      rcases hgd with hgd | ⟨hgd, hgd2⟩
      · have hgd2 : decide (n < -2147483648) = true := decide_eq_true hgd
        go_enter Tryd.func6, Tryd.ntmps6
        go_wp2_with fail
        refine (c1.out _ (by first | exact hL | exact hL.drewN _)).mono ?_
        rintro e w1 ⟨rfl, hb1⟩
        have hL := Laid.below (by exact hL) hb1
        go_wp2_with fail
        refine (c2.out _ (by first | exact hL | exact hL.drewN _)).mono ?_
        rintro e w2 ⟨rfl, hb2⟩
        have hL := Laid.below (by exact hL) hb2
        go_wp2_with fail
        refine (awake_any D _ (by first | exact hL | exact hL.drewN _)).mono ?_
        rintro e w5 ⟨rfl, hb5⟩
        have hL := Laid.below (by exact hL) hb5
        go_wp2
        go_ret
        exact ⟨rfl, chain (chain hb1 hb2) hb5⟩
      · go_enter Tryd.func6, Tryd.ntmps6
        go_wp2_with fail
        refine (c1.out _ (by first | exact hL | exact hL.drewN _)).mono ?_
        rintro e w1 ⟨rfl, hb1⟩
        have hL := Laid.below (by exact hL) hb1
        go_wp2_with fail
        refine (c2.out _ (by first | exact hL | exact hL.drewN _)).mono ?_
        rintro e w2 ⟨rfl, hb2⟩
        have hL := Laid.below (by exact hL) hb2
        go_wp2_with fail
        refine (awake_any D _ (by first | exact hL | exact hL.drewN _)).mono ?_
        rintro e w5 ⟨rfl, hb5⟩
        have hL := Laid.below (by exact hL) hb5
        go_wp2
        go_ret
        exact ⟨rfl, chain (chain hb1 hb2) hb5⟩
    · rw [if_neg hg] at c2
      have c2 := Lib.hid c2
      have hgd : decide (n < -2147483648) = false := decide_eq_false (by omega)
      have hgd2 : decide (2147483647 < n) = false := decide_eq_false (by omega)
      have hq : (((f.size : Int) + ((numL n).length : Int)) == (S.size : Int) - (r.size : Int)) = true := beq_iff_eq.2 (by omega)
      have hSIh := Lib.hid hSI
      have hSsh := Lib.hid hSs
      clear hSs hSl hSI
      go_enter Tryd.func6, Tryd.ntmps6
      go_wp2_with fail
      refine (c1.out _ (by first | exact hL | exact hL.drewN _)).mono ?_
      rintro e w1 ⟨rfl, hb1⟩
      have hL := Laid.below (by exact hL) hb1
      go_wp2_with fail
      refine (c2.out _ (by first | exact hL | exact hL.drewN _)).mono ?_
      rintro e w2 ⟨rfl, hb2⟩
      have hL := Laid.below (by exact hL) hb2
      go_wp2_with fail
      refine (awake_any D _ (by first | exact hL | exact hL.drewN _)).mono ?_
      rintro e w5 ⟨rfl, hb5⟩
      have hL := Laid.below (by exact hL) hb5
      go_wp2
      go_ret
      exact ⟨rfl, chain (chain hb1 hb2) hb5⟩
  · have hgt : (500 : Int) < (f.size : Int) + (r.size : Int) := by omega
    go_enter Tryd.func6, Tryd.ntmps6
    go_wp2_with fail
    refine (awake_any D _ (by first | exact hL | exact hL.drewN _)).mono ?_
    rintro e w5 ⟨rfl, hb5⟩
    have hL := Laid.below (by exact hL) hb5
    go_wp2
    go_ret
    exact ⟨rfl, hb5⟩

set_option maxHeartbeats 1000000 in
theorem walk_string (D : Dev) (f s r : ByteArray) (w : World) (hL0 : Laid w) (hf : f.size ≤ 140737488351232) (hs : s.size ≤ 140737488351232) (hr : r.size ≤ 140737488351232) :
    Calls Tryd.prog 7 #[.string f, .string s, .string r] w fun e w' => e = .returned (.bool true) ∧ Below w.heap.size w w' := by
  have hL := hL0
  by_cases h : f.size + s.size + r.size ≤ 500
  · have hle : (f.size : Int) + (s.size : Int) + (r.size : Int) ≤ 500 := by omega
    have hl : (strL s.data.toList).length ≤ 600 := by
      have h1 : s.data.toList.length ≤ 500 := by show s.size ≤ 500; omega
      have := strL_len s.data.toList (by omega)
      omega
    have c1 := Lib.hid (fun W (hL : Laid W) => D.string s W (by omega) hL)
    obtain ⟨X, hX⟩ : ∃ X, strL s.data.toList = X := ⟨_, rfl⟩
    rw [hX] at c1 hl
    obtain ⟨S, hS⟩ : ∃ S, f ++ ⟨X.toArray⟩ ++ r = S := ⟨_, rfl⟩
    have hSs : S.size = f.size + X.length + r.size := by rw [← hS, cat3_size]
    have hSl : S.data.toList = f.data.toList ++ (X ++ r.data.toList) := by rw [← hS, cat3]
    have c2 := fun W (hL : Laid W) => D.readString S (f.size : Int) W (by omega) (by omega) (by omega) hL
    unfold RsB at c2
    rw [hSl, ← hX, show ((f.size : Nat) : Int) = ((f.data.toList.length : Nat) : Int) from rfl, rdS_str _ _ _ (by show s.size ≤ top; unfold top; omega), hX] at c2
    have c2 := Lib.hid c2
    have hq : (((f.size : Int) + (X.length : Int)) == (S.size : Int) - (r.size : Int)) = true := beq_iff_eq.2 (by omega)
    have hSle : S.size ≤ 2000 := by omega
    have hSsh := Lib.hid hSs
    clear hSs hSl hX
    go_enter Tryd.func7, Tryd.ntmps7
    go_wp2_with fail
    refine (c1.out _ (by first | exact hL | exact hL.drewN _)).mono ?_
    rintro e w1 ⟨rfl, hb1⟩
    have hL := Laid.below (by exact hL) hb1
    go_wp2_with fail
    refine (c2.out _ (by first | exact hL | exact hL.drewN _)).mono ?_
    rintro e w2 ⟨rfl, hb2⟩
    have hL := Laid.below (by exact hL) hb2
    go_wp2_with fail
    refine (awake_any D _ (by first | exact hL | exact hL.drewN _)).mono ?_
    rintro e w5 ⟨rfl, hb5⟩
    have hL := Laid.below (by exact hL) hb5
    go_wp2
    go_ret
    exact ⟨rfl, chain (chain hb1 hb2) hb5⟩
  · have hgt : (500 : Int) < (f.size : Int) + (s.size : Int) + (r.size : Int) := by omega
    go_enter Tryd.func7, Tryd.ntmps7
    go_wp2_with fail
    refine (awake_any D _ (by first | exact hL | exact hL.drewN _)).mono ?_
    rintro e w5 ⟨rfl, hb5⟩
    have hL := Laid.below (by exact hL) hb5
    go_wp2
    go_ret
    exact ⟨rfl, hb5⟩
end Go.Proofs.YtjmnjcjpcmonjaaDoor.N2
