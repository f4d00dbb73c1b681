/- The contracts of the package's Number, String, ReadNumber and ReadString. -/
import Derived.Test.YtjmnjcjpcmonjaaDoorN2Own1
import Derived.Test.YtjmnjcjpcmonjaaDoorN2Dev
namespace Go.Proofs.YtjmnjcjpcmonjaaDoor.N2
open Go.RowKit Mem
set_option linter.unusedVariables false

set_option maxHeartbeats 400000 in
theorem number_any (n : Int) (w : World) (h1 : -9223372036854775808 ≤ n) (h2 : n ≤ 9223372036854775807) (hL : Laid w) :
    Calls Tryd.prog 16 #[.int .i64 n] w fun e w' => e = .returned (.string ⟨(numL n).toArray⟩) ∧ Below w.heap.size w w' := by
  have hl := decI_len h1 h2
  have c1 := Lib.hid (itoa_any n w h1 h2 hL)
  go_enter Tryd.func16, Tryd.ntmps16
  go_wp2_with fail
  refine c1.out.mono ?_
  rintro e w1 ⟨rfl, hb1⟩
  go_wp2
  go_ret
  exact ⟨ret_str2 (b := [32]) rfl, hb1⟩

set_option maxHeartbeats 400000 in
theorem string_any (s : ByteArray) (w : World) (hs : s.size ≤ 1000000) (hL : Laid w) :
    Calls Tryd.prog 14 #[.string s] w fun e w' => e = .returned (.string ⟨(strL s.data.toList).toArray⟩) ∧ Below w.heap.size w w' := by
  have hd := itoa_any (s.size : Int) w (by omega) (by omega) hL
  have hl := two64 s.size (by omega)
  rw [decI_nat] at hd
  have hd := Lib.hid hd
  go_enter Tryd.func14, Tryd.ntmps14
  go_wp2_with fail
  refine hd.out.mono ?_
  rintro e w1 ⟨rfl, hb1⟩
  go_wp2
  go_ret
  exact ⟨ret_str3 (b := [58]) (c := s.data.toList) (d := [44]) rfl, hb1⟩

theorem fld_cases (l : List UInt8) (a : Int) (c : UInt8) : ((a < 0 ∨ (l.length : Int) < a) ∧ fld l a c = ([], 0, 1)) ∨ (∃ k : Nat, a = (k : Int) ∧ k ≤ l.length ∧ posI l k c = -1 ∧ fld l a c = ([], 0, 4)) ∨
    ∃ k j : Nat, a = (k : Int) ∧ k ≤ l.length ∧ k + j < l.length ∧ posI l k c = ((k + j : Nat) : Int) ∧ fld l a c = ((l.drop k).take j, ((k + j : Nat) : Int) + 1, 0) := by
  by_cases h : a < 0 ∨ (l.length : Int) < a
  · exact .inl ⟨h, fld_arg h⟩
  · obtain ⟨k, rfl⟩ : ∃ k : Nat, a = (k : Int) := ⟨a.toNat, by omega⟩
    have hk : k ≤ l.length := by omega
    rcases posI_cases l k c with hp | ⟨i, hp, h1, h2, _⟩
    · exact .inr (.inl ⟨k, rfl, hk, hp, fld_short hk hp⟩)
    · have hi : i = k + (i - k) := by omega
      rw [hi] at hp
      exact .inr (.inr ⟨k, i - k, rfl, hk, by omega, hp, fld_at hk hp⟩)

theorem intok_no {w : List UInt8} (h : intok w = false) : dcok (if w.head? = some 45 then w.tail else w) = false ∨ (w.head? = some 45 ∧ dcv (if w.head? = some 45 then w.tail else w) = 0) := by
  unfold intok at h
  simp only [Bool.and_eq_false_iff, Bool.not_eq_false', Bool.and_eq_true, decide_eq_true_eq] at h
  rcases h with h | ⟨h1, h2⟩
  · exact .inl h
  · refine .inr ⟨h1, ?_⟩
    rw [h2]
    rfl
theorem intok_yes {w : List UInt8} (h : intok w = true) : dcok (if w.head? = some 45 then w.tail else w) = true ∧ ¬ (w.head? = some 45 ∧ dcv (if w.head? = some 45 then w.tail else w) = 0) := by
  unfold intok at h
  simp only [Bool.and_eq_true, Bool.not_eq_true', Bool.and_eq_false_iff, decide_eq_false_iff_not] at h
  obtain ⟨h1, h2⟩ := h
  refine ⟨h1, ?_⟩
  rintro ⟨h3, h4⟩
  rw [dcv_zero h1] at h4
  rcases h2 with h2 | h2
  · exact h2 h3
  · exact h2 h4
theorem head_cons {w : List UInt8} (h : w.head? = some 45) : w = 45 :: w.tail := by
  cases w with
  | nil => cases h
  | cons c r => simp at h; subst h; rfl

/-- What the text before the space makes of ReadNumber. -/
theorem rdN_parse {l : List UInt8} {k j : Nat} (hk : k ≤ l.length) (hp : posI l k 32 = ((k + j : Nat) : Int)) : (intok ((l.drop k).take j) = false ∧ rdN l (k : Int) = (0, 0, 3)) ∨
    (intok ((l.drop k).take j) = true ∧ ∃ v : Int, Lib.parseIntB 32 ((l.drop k).take j) = .ok v ∧ rdN l (k : Int) = (v, ((k + j : Nat) : Int) + 1, 0)) ∨
    (intok ((l.drop k).take j) = true ∧ Lib.parseIntB 32 ((l.drop k).take j) = .range ∧ rdN l (k : Int) = (0, 0, 2)) := by
  obtain ⟨w, hw⟩ : ∃ w, (l.drop k).take j = w := ⟨_, rfl⟩
  have hat := rdN_at hk hp (w := w) (by rw [Nat.add_sub_cancel_left, hw])
  rw [hw]
  rcases hi : intok w with _ | _
  · exact .inl ⟨rfl, by rw [hat, if_pos (intok_no hi)]⟩
  · obtain ⟨h1, h2⟩ := intok_yes hi
    have hno : ¬ (dcok (if w.head? = some 45 then w.tail else w) = false ∨ (w.head? = some 45 ∧ dcv (if w.head? = some 45 then w.tail else w) = 0)) := by
      rintro (h | h)
      · rw [h1] at h; cases h
      · exact h2 h
    rw [if_neg hno] at hat
    clear hno h2 hi
    right
    by_cases hh : w.head? = some 45
    · simp only [hh, if_true] at hat h1
      have hv := dcv_dval w.tail
      rw [head_cons hh]
      rcases pint_neg h1 with ⟨hpv, hb⟩ | ⟨hpv, hb⟩
      · refine .inl ⟨rfl, _, hpv, ?_⟩
        have e : dcv w.tail = dval w.tail := by rw [hv]; unfold top; omega
        rw [hat, e, if_neg (by omega)]
      · refine .inr ⟨rfl, hpv, ?_⟩
        have e : 2147483648 < dcv w.tail := by rw [hv]; unfold top; omega
        rw [hat, if_pos (by omega)]
    · simp only [hh, if_false] at hat h1
      have hv := dcv_dval w
      rcases pint_nat h1 with ⟨hpv, hb⟩ | ⟨hpv, hb⟩
      · refine .inl ⟨rfl, _, hpv, ?_⟩
        have e : dcv w = dval w := by rw [hv]; unfold top; omega
        rw [hat, e, if_neg (by omega)]
      · refine .inr ⟨rfl, hpv, ?_⟩
        have e : 2147483648 ≤ dcv w := by rw [hv]; unfold top; omega
        rw [hat, if_pos (by omega)]

theorem rnb_of {l : List UInt8} {a : Int} {w w' : World} {x y z : Int} (h : rdN l a = (x, y, z)) (hb : Below w.heap.size w w') : RnB l a w (.returned (.tuple #[.int .i64 x, .int .i64 y, .int .i64 z])) w' := by
  refine ⟨?_, hb⟩
  rw [h]
theorem rsb_of {l x : List UInt8} {a : Int} {w w' : World} {S : ByteArray} {y y' z : Int} (h : rdS l a = (x, y, z)) (hx : S = ⟨x.toArray⟩) (hy : y' = y) (hb : Below w.heap.size w w') : RsB l a w (.returned (.tuple #[.string S, .int .i64 y', .int .i64 z])) w' := by
  refine ⟨?_, hb⟩
  rw [h, hx, hy]

set_option maxHeartbeats 2000000 in
theorem readNumber_any (s : ByteArray) (a : Int) (w : World) (hs : s.size ≤ 1000000) (h1 : -9223372036854775808 ≤ a) (h2 : a ≤ 9223372036854775807) (hL : Laid w) :
    Calls Tryd.prog 20 #[.string s, .int .i64 a] w (RnB s.data.toList a w) := by
  have hlen : s.data.toList.length = s.size := rfl
  have c1 := field_any s a 32 w hs h1 h2
  unfold FdPost at c1
  rcases fld_cases s.data.toList a 32 with ⟨ha, hf⟩ | ⟨k, rfl, hk, hp, hf⟩ | ⟨k, j, rfl, hk, hkj, hp, hf⟩
  · have hr := Lib.hid (rdN_arg (l := s.data.toList) ha)
    rw [hf] at c1
    have c1 := Lib.hid c1
    clear hf ha hlen
    go_enter Tryd.func20, Tryd.ntmps20
    go_wp2_with fail
    refine c1.out.mono ?_
    rintro e w1 ⟨rfl, rfl⟩
    go_wp2
    go_ret3
    exact rnb_of hr.out (Below.refl _ _)
  · have hr := Lib.hid (rdN_short (l := s.data.toList) (a := (k : Int)) (by omega) (by rw [Int.toNat_natCast, hp]; decide))
    rw [hf] at c1
    have c1 := Lib.hid c1
    clear hf hp hlen
    go_enter Tryd.func20, Tryd.ntmps20
    go_wp2_with fail
    refine c1.out.mono ?_
    rintro e w1 ⟨rfl, rfl⟩
    go_wp2
    go_ret3
    exact rnb_of hr.out (Below.refl _ _)
  · have hr := rdN_parse hk hp
    obtain ⟨X, hX⟩ : ∃ X, (s.data.toList.drop k).take j = X := ⟨_, rfl⟩
    have hXs : X.length ≤ s.size := by
      rw [← hX]
      exact Nat.le_trans (List.length_take_le' _ _) (by simp)
    rw [hf, hX] at c1
    rw [hX] at hr
    obtain ⟨p, hpp⟩ : ∃ p, k + j = p := ⟨_, rfl⟩
    rw [hpp] at c1 hr hkj
    have hps : p < s.size := hkj
    have c2 := integer_any ⟨X.toArray⟩ w (by rw [str_size]; omega)
    rw [str_list] at c2
    have c1 := Lib.hid c1
    clear hf hp hX hpp hlen hkj
    rcases hr with ⟨hi, hr⟩ | ⟨hi, v, hv, hr⟩ | ⟨hi, hv, hr⟩
    · rw [hi] at c2
      have c2 := Lib.hid c2
      have hr := Lib.hid hr
      clear hi
      go_enter Tryd.func20, Tryd.ntmps20
      go_wp2_with fail
      refine c1.out.mono ?_
      rintro e w1 ⟨rfl, rfl⟩
      go_wp2_with fail
      refine c2.out.mono ?_
      rintro e w1 ⟨rfl, rfl⟩
      go_wp2
      go_ret3
      exact rnb_of hr.out (Below.refl _ _)
    · rw [hi] at c2
      have c2 := Lib.hid c2
      have hr := Lib.hid hr
      have c3 := Lib.hid (pint_ok ⟨X.toArray⟩ v w (by rw [str_size]; omega) hv)
      clear hi hv
      go_enter Tryd.func20, Tryd.ntmps20
      go_wp2_with fail
      refine c1.out.mono ?_
      rintro e w1 ⟨rfl, rfl⟩
      go_wp2_with fail
      refine c2.out.mono ?_
      rintro e w1 ⟨rfl, rfl⟩
      go_wp2_with fail
      refine c3.out.mono ?_
      rintro e w1 ⟨rfl, hb⟩
      go_wp2
      go_ret3
      exact rnb_of hr.out hb
    · rw [hi] at c2
      have c2 := Lib.hid c2
      have hr := Lib.hid hr
      have c3 := Lib.hid (pint_range ⟨X.toArray⟩ w (by rw [str_size]; omega) hv hL)
      clear hi hv
      go_enter Tryd.func20, Tryd.ntmps20
      go_wp2_with fail
      refine c1.out.mono ?_
      rintro e w1 ⟨rfl, rfl⟩
      go_wp2_with fail
      refine c2.out.mono ?_
      rintro e w1 ⟨rfl, rfl⟩
      go_wp2_with fail
      refine c3.out.mono ?_
      rintro e w1 ⟨⟨n, T, q, rfl⟩, hb⟩
      go_wp2
      go_ret3
      exact rnb_of hr.out hb

set_option maxHeartbeats 2000000 in
theorem readString_any (s : ByteArray) (a : Int) (w : World) (hs : s.size ≤ 1000000) (h1 : -9223372036854775808 ≤ a) (h2 : a ≤ 9223372036854775807) (hL : Laid w) :
    Calls Tryd.prog 22 #[.string s, .int .i64 a] w (RsB s.data.toList a w) := by
  have hlen : s.data.toList.length = s.size := rfl
  have c1 := field_any s a 58 w hs h1 h2
  unfold FdPost at c1
  rcases fld_cases s.data.toList a 58 with ⟨ha, hf⟩ | ⟨k, rfl, hk, hp, hf⟩ | ⟨k, j, rfl, hk, hkj, hp, hf⟩
  · have hr := Lib.hid (rdS_arg (l := s.data.toList) ha)
    rw [hf] at c1
    have c1 := Lib.hid c1
    clear hf ha hlen
    go_enter Tryd.func22, Tryd.ntmps22
    go_wp2_with fail
    refine c1.out.mono ?_
    rintro e w1 ⟨rfl, rfl⟩
    go_wp2
    go_ret3
    exact rsb_of hr.out rfl rfl (Below.refl _ _)
  · have hr := Lib.hid (rdS_short (l := s.data.toList) hk hp)
    rw [hf] at c1
    have c1 := Lib.hid c1
    clear hf hp hlen
    go_enter Tryd.func22, Tryd.ntmps22
    go_wp2_with fail
    refine c1.out.mono ?_
    rintro e w1 ⟨rfl, rfl⟩
    go_wp2
    go_ret3
    exact rsb_of hr.out rfl rfl (Below.refl _ _)
  · obtain ⟨X, hX⟩ : ∃ X, (s.data.toList.drop k).take j = X := ⟨_, rfl⟩
    have hr := rdS_at hk hp (w := X) (by rw [Nat.add_sub_cancel_left, hX])
    have hXs : X.length ≤ s.size := by
      rw [← hX]
      exact Nat.le_trans (List.length_take_le' _ _) (by simp)
    rw [hf, hX] at c1
    obtain ⟨p, hpp⟩ : ∃ p, k + j = p := ⟨_, rfl⟩
    rw [hpp] at c1 hr hkj
    rw [hlen] at hr
    have hps : p < s.size := hkj
    have c2 := natural_any ⟨X.toArray⟩ w (by rw [str_size]; omega)
    rw [str_list] at c2
    have c1 := Lib.hid c1
    clear hf hp hX hpp hlen hkj
    rcases hi : dcok X with _ | _
    · rw [hi] at c2
      have c2 := Lib.hid c2
      have hr := Lib.hid (hr.trans (if_pos hi))
      clear hi
      go_enter Tryd.func22, Tryd.ntmps22
      go_wp2_with fail
      refine c1.out.mono ?_
      rintro e w1 ⟨rfl, rfl⟩
      go_wp2_with fail
      refine c2.out.mono ?_
      rintro e w1 ⟨rfl, rfl⟩
      go_wp2
      go_ret3
      exact rsb_of hr.out rfl rfl (Below.refl _ _)
    · rw [hi] at c2
      have c2 := Lib.hid c2
      have hr := hr.trans (if_neg (by rw [hi]; decide))
      have c3 := atoi_any ⟨X.toArray⟩ w (by rw [str_size]; omega) hi hL
      rw [str_list] at c3
      have hv := dcv_dval X
      unfold top at hv
      clear hi
      obtain ⟨N, hN⟩ : ∃ N, dval X = N := ⟨_, rfl⟩
      rw [hN] at c3 hv
      have c3 := Lib.hid c3
      clear hN
      by_cases hbig : 9223372036854775808 ≤ N
      · have hr := Lib.hid (hr.trans (if_pos (by omega)))
        clear hv
        go_enter Tryd.func22, Tryd.ntmps22
        go_wp2_with fail
        refine c1.out.mono ?_
        rintro e w1 ⟨rfl, rfl⟩
        go_wp2_with fail
        refine c2.out.mono ?_
        rintro e w1 ⟨rfl, rfl⟩
        go_wp2_with fail
        refine c3.out.mono ?_
        rintro e w1 ⟨⟨rfl, hlt⟩ | ⟨n, T, q, rfl, _⟩, hb⟩
        · exact absurd hlt (by omega)
        go_wp2
        go_ret3
        exact rsb_of hr.out rfl rfl hb
      · by_cases hg : (s.size : Int) - ((p : Int) + 1) ≤ (N : Int)
        · have hr := Lib.hid (hr.trans (if_pos (by omega)))
          have hNI : (N : Int) ≤ 9223372036854775807 := by omega
          have hgd : decide ((s.size : Int) - ((p : Int) + 1) ≤ (N : Int)) = true := decide_eq_true hg
          clear hv
          go_enter Tryd.func22, Tryd.ntmps22
          go_wp2_with fail
          refine c1.out.mono ?_
          rintro e w1 ⟨rfl, rfl⟩
          go_wp2_with fail
          refine c2.out.mono ?_
          rintro e w1 ⟨rfl, rfl⟩
          go_wp2_with fail
          refine c3.out.mono ?_
          rintro e w1 ⟨⟨rfl, hlt⟩ | ⟨n, T, q, rfl, hlt⟩, hb⟩
          · go_wp2
            go_ret3
            exact rsb_of hr.out rfl rfl hb
          · exact absurd hlt (by omega)
        · have hin : p + 1 + N < s.size := by omega
          have hd : dcv X = N := by omega
          rw [hd] at hr
          have hr := hr.trans (if_neg (by omega))
          have hgd : decide ((s.size : Int) - ((p : Int) + 1) ≤ (N : Int)) = false := decide_eq_false hg
          clear hv hd
          rcases hc : (((s[p + 1 + N]).toNat : Int) == 44) with _ | _
          · have hr := Lib.hid (hr.trans (if_pos (at_other (c := 44) hin hc)))
            have hc' := ne_no hc
            go_enter Tryd.func22, Tryd.ntmps22
            go_wp2_with fail
            refine c1.out.mono ?_
            rintro e w1 ⟨rfl, rfl⟩
            go_wp2_with fail
            refine c2.out.mono ?_
            rintro e w1 ⟨rfl, rfl⟩
            go_wp2_with fail
            refine c3.out.mono ?_
            rintro e w1 ⟨⟨rfl, hlt⟩ | ⟨n, T, q, rfl, hlt⟩, hb⟩
            · go_wp2
              go_ret3
              exact rsb_of hr.out rfl rfl hb
            · exact absurd hlt (by omega)
          · have hr := Lib.hid (hr.trans (if_neg (not_not_intro (at_some (c := 44) hin hc))))
            have hc' := ne_yes hc
            have hcut := cut_str s (p + 1) (p + 1 + N)
            rw [show p + 1 + N - (p + 1) = N by omega] at hcut
            have hcut := Lib.hid hcut
            go_enter Tryd.func22, Tryd.ntmps22
            go_wp2_with fail
            refine c1.out.mono ?_
            rintro e w1 ⟨rfl, rfl⟩
            go_wp2_with fail
            refine c2.out.mono ?_
            rintro e w1 ⟨rfl, rfl⟩
            go_wp2_with fail
            refine c3.out.mono ?_
            rintro e w1 ⟨⟨rfl, hlt⟩ | ⟨n, T, q, rfl, hlt⟩, hb⟩
            · go_wp2
              go_ret3
              exact rsb_of hr.out hcut.out (by omega) hb
            · exact absurd hlt (by omega)
end Go.Proofs.YtjmnjcjpcmonjaaDoor.N2
