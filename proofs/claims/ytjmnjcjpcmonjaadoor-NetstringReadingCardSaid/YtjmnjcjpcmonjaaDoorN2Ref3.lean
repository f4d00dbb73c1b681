/- The contracts of the reference's ReadNumber and ReadString. -/
import Derived.Test.YtjmnjcjpcmonjaaDoorN2Ref2
namespace Go.Proofs.YtjmnjcjpcmonjaaDoor.N2
open Go.RowKit Mem
set_option linter.unusedVariables false

theorem cut_list (s : ByteArray) (a b : Nat) : (s.extract a b).data.toList = (s.data.toList.drop a).take (b - a) := Lib.extract_data s a b
theorem tail_list (s : ByteArray) : (s.extract 1 s.size).data.toList = s.data.toList.tail := by
  rw [cut_list, List.drop_one]
  exact List.take_of_length_le (by simp)
theorem head_no (s : ByteArray) (h : s.size = 0) : s.data.toList.head? ≠ some 45 := by
  have : s.data.toList = [] := List.eq_nil_of_length_eq_zero h
  rw [this]
  simp
theorem i45 {c : UInt8} (h : ((c.toNat : Int) == 45) = true) : c = 45 := by
  apply UInt8.toNat_inj.1
  have : ((c.toNat : Int)) = 45 := by simpa using h
  show c.toNat = 45
  omega
theorem n45 {c : UInt8} (h : ((c.toNat : Int) == 45) = false) : c ≠ 45 := by
  rintro rfl
  simp at h
theorem trip {a b c a' b' c' : Int} (h : ((a, b, c) : Int × Int × Int) = (a', b', c')) : Ending.returned (.tuple #[.int .i64 a, .int .i64 b, .int .i64 c]) = .returned (.tuple #[.int .i64 a', .int .i64 b', .int .i64 c']) := by
  injection h with h1 h2
  injection h2 with h2 h3
  rw [h1, h2, h3]
/-- What a call of ReadNumber leaves. -/
def RnPost (l : List UInt8) (a : Int) (w : World) (e : Ending) (w' : World) : Prop := e = .returned (.tuple #[.int .i64 (rdN l a).1, .int .i64 (rdN l a).2.1, .int .i64 (rdN l a).2.2]) ∧ w = w'
theorem rn_of {l : List UInt8} {a : Int} {w : World} {x y z : Int} (h : rdN l a = (x, y, z)) : RnPost l a w (.returned (.tuple #[.int .i64 x, .int .i64 y, .int .i64 z])) w := by
  refine ⟨?_, rfl⟩
  rw [h]

set_option maxHeartbeats 2000000 in
theorem rreadNumber_any (s : ByteArray) (a : Int) (w : World) (hs : s.size ≤ 1000000) (h1 : -9223372036854775808 ≤ a) (h2 : a ≤ 9223372036854775807) :
    Calls Tryd.prog 21 #[.string s, .int .i64 a] w (RnPost s.data.toList a w) := by
  have hlen : s.data.toList.length = s.size := rfl
  by_cases ha : a < 0
  · have hr := Lib.hid (rdN_arg (l := s.data.toList) (.inl ha))
    have hd : decide (a < 0) = true := by simpa using ha
    clear hlen
    go_enter Tryd.func21, Tryd.ntmps21
    go_wp2
    go_ret3
    exact rn_of hr.out
  · by_cases hb : (s.size : Int) < a
    · have hr := Lib.hid (rdN_arg (l := s.data.toList) (a := a) (.inr hb))
      have hd : decide (a < 0) = false := by simpa using ha
      have hd2 : decide ((s.size : Int) < a) = true := by simpa using hb
      clear hlen
      go_enter Tryd.func21, Tryd.ntmps21
      go_wp2
      go_ret3
      exact rn_of hr.out
    · obtain ⟨k, rfl⟩ : ∃ k : Nat, a = (k : Int) := ⟨a.toNat, by omega⟩
      have hk : k ≤ s.size := by omega
      have hd : decide ((k : Int) < 0) = false := by simp
      have hd2 : decide ((s.size : Int) < (k : Int)) = false := decide_eq_false (by omega)
      rcases posI_cases s.data.toList k 32 with hp | ⟨p, hp, hkp, hps, _, _⟩
      · have hr := Lib.hid (rdN_short (l := s.data.toList) (a := (k : Int)) (by omega) (by rw [Int.toNat_natCast, hp]; decide))
        have hi := rindex_any s k 32 w hs hk
        rw [hp] at hi
        have hi := Lib.hid hi
        clear hp hlen
        go_enter Tryd.func21, Tryd.ntmps21
        go_wp2_with fail
        refine hi.out.mono ?_
        rintro e w1 ⟨rfl, rfl⟩
        go_wp2
        go_ret3
        exact rn_of hr.out
      · obtain ⟨W, hW⟩ : ∃ W, s.extract k p = W := ⟨_, rfl⟩
        have hWl : W.data.toList = (s.data.toList.drop k).take (p - k) := by rw [← hW, cut_list]
        have hWs : W.size ≤ s.size := by rw [← hW]; simp; omega
        have hps : p < s.size := hps
        have hi := rindex_any s k 32 w hs hk
        rw [hp] at hi
        have hi := Lib.hid hi
        have hneg := Lib.hid (fun v => rdN_neg (v := v) hk hp)
        have hnat := Lib.hid (rdN_nat hk hp hWl.symm)
        have hWh := Lib.hid hWl
        clear hp hWl hlen
        by_cases hc : 0 < W.size ∧ W.data.toList.head? = some 45
        · obtain ⟨hW0, hW45⟩ := hc
          have hne : W.data.toList ≠ [] := by
            intro e
            rw [e] at hW45
            cases hW45
          have hE : W.toList.isEmpty = false := by rw [str_toList]; simpa using hne
          have hE2 : ¬ W.toList = [] := by rw [str_toList]; exact hne
          have hc45 : (((W[0]).toNat : Int) == 45) = true := by
            rw [head_of W hW0] at hW45
            injection hW45 with h
            rw [h]
            rfl
          obtain ⟨V, hV⟩ : ∃ V, W.extract 1 W.size = V := ⟨_, rfl⟩
          have hVl : V.data.toList = W.data.toList.tail := by rw [← hV, tail_list]
          have hVs : V.size ≤ W.size := by rw [← hV]; simp
          have hcons : (s.data.toList.drop k).take (p - k) = 45 :: V.data.toList := by
            rw [← hWh.out, hVl]
            rw [head_of W hW0] at hW45
            cases hw : W.data.toList with
            | nil => exact absurd hw hne
            | cons x xs =>
              have hx := head_of W hW0
              rw [hw] at hx
              injection hx with hx
              injection hW45 with h
              rw [hx, h]
              rfl
          have hr := hneg.out _ hcons
          have hd3 := rdecimal_any V w (by omega)
          clear hVl hcons hne hW45 hneg hnat
          have hI1 : (1 : Int) ≤ (W.size : Int) := by omega
          rcases hq : dcok V.data.toList with _ | _
          · rw [hq, dcn_no hq] at hd3
            rw [if_pos (.inl hq)] at hr
            have hd3 := Lib.hid hd3
            have hr := Lib.hid hr
            clear hq
            go_enter Tryd.func21, Tryd.ntmps21
            go_wp2_with fail
            refine hi.out.mono ?_
            rintro e w1 ⟨rfl, rfl⟩
            go_wp2_with fail
            refine hd3.out.mono ?_
            rintro e w1 ⟨rfl, rfl⟩
            go_wp2
            go_ret3
            exact rn_of hr.out
          · rw [hq, dcn_yes hq] at hd3
            have hN := dcv_le V.data.toList
            unfold top at hN
            obtain ⟨N, hNe⟩ : ∃ N, dcv V.data.toList = N := ⟨_, rfl⟩
            rw [hNe] at hd3 hN hr
            rw [hq] at hr
            have hd3 := Lib.hid hd3
            clear hq hNe
            by_cases hz : N = 0
            · have hr := Lib.hid (hr.trans (if_pos (.inr hz)))
              have hzz : ((N : Int) == 0) = true := by simpa using hz
              clear hz
              go_enter Tryd.func21, Tryd.ntmps21
              go_wp2_with fail
              refine hi.out.mono ?_
              rintro e w1 ⟨rfl, rfl⟩
              go_wp2_with fail
              refine hd3.out.mono ?_
              rintro e w1 ⟨rfl, rfl⟩
              go_wp2
              go_ret3
              exact rn_of hr.out
            · have hzz : ((N : Int) == 0) = false := by simpa using hz
              have hr := hr.trans (if_neg (by rintro (h | h); exact absurd h (by decide); exact hz h))
              by_cases hg : (2147483648 : Int) < (N : Int)
              · have hr := Lib.hid (hr.trans (if_pos hg))
                have hgd : decide (-(N : Int) < -2147483648) = true := decide_eq_true (by omega)
                have hgI : -(N : Int) < -2147483648 := by omega
                go_enter Tryd.func21, Tryd.ntmps21
                go_wp2_with fail
                refine hi.out.mono ?_
                rintro e w1 ⟨rfl, rfl⟩
                go_wp2_with fail
                refine hd3.out.mono ?_
                rintro e w1 ⟨rfl, rfl⟩
                go_wp2
                go_ret3
                exact rn_of hr.out
              · have hr := Lib.hid (hr.trans (if_neg hg))
                have hgd : decide (-(N : Int) < -2147483648) = false := decide_eq_false (by omega)
                have hgd2 : decide ((2147483647 : Int) < -(N : Int)) = false := decide_eq_false (by omega)
                have hgI : ¬ -(N : Int) < -2147483648 := by omega
                go_enter Tryd.func21, Tryd.ntmps21
                go_wp2_with fail
                refine hi.out.mono ?_
                rintro e w1 ⟨rfl, rfl⟩
                go_wp2_with fail
                refine hd3.out.mono ?_
                rintro e w1 ⟨rfl, rfl⟩
                go_wp2
                go_ret3
                exact rn_of hr.out
        · have hh : W.data.toList.head? ≠ some 45 := by
            intro h
            by_cases h0 : 0 < W.size
            · exact hc ⟨h0, h⟩
            · exact head_no W (by omega) h
          have hr := hnat.out hh
          have hd3 := rdecimal_any W w (by omega)
          have hW45 : (W.toList.isEmpty = true ∧ W.toList = []) ∨ (W.toList.isEmpty = false ∧ (¬ W.toList = []) ∧ ∃ h : 0 < W.size, (((W[0]).toNat : Int) == 45) = false) := by
            by_cases h0 : 0 < W.size
            · right
              have hne : W.data.toList ≠ [] := by
                intro e
                have : W.data.toList.length = W.size := rfl
                rw [e] at this
                simp at this
                omega
              refine ⟨by rw [str_toList]; simpa using hne, by rw [str_toList]; exact hne, h0, ?_⟩
              rcases h : (((W[0]).toNat : Int) == 45) with _ | _
              · rfl
              · exact absurd (by rw [head_of W h0, i45 h]) hh
            · left
              have : W.data.toList = [] := List.eq_nil_of_length_eq_zero (show W.size = 0 by omega)
              rw [str_toList, this]
              exact ⟨rfl, rfl⟩
          clear hh hc hneg hnat
          rcases hW45 with ⟨hE, hE2⟩ | ⟨hE, hE2, hW0, hc45⟩
          all_goals
            rcases hq : dcok W.data.toList with _ | _
            · rw [hq, dcn_no hq] at hd3
              rw [if_pos hq] at hr
              have hd3 := Lib.hid hd3
              have hr := Lib.hid hr
              clear hq
              go_enter Tryd.func21, Tryd.ntmps21
              go_wp2_with fail
              refine hi.out.mono ?_
              rintro e w1 ⟨rfl, rfl⟩
              go_wp2_with fail
              refine hd3.out.mono ?_
              rintro e w1 ⟨rfl, rfl⟩
              go_wp2
              go_ret3
              exact rn_of hr.out
            · rw [hq, dcn_yes hq] at hd3
              have hN := dcv_le W.data.toList
              unfold top at hN
              obtain ⟨N, hNe⟩ : ∃ N, dcv W.data.toList = N := ⟨_, rfl⟩
              rw [hNe] at hd3 hN hr
              rw [hq] at hr
              have hr := hr.trans (if_neg (by decide))
              have hd3 := Lib.hid hd3
              clear hq hNe
              by_cases hg : (2147483647 : Int) < (N : Int)
              · have hr := Lib.hid (hr.trans (if_pos hg))
                have hgd : decide ((2147483647 : Int) < (N : Int)) = true := decide_eq_true (by omega)
                have hgd2 : decide ((N : Int) < -2147483648) = false := decide_eq_false (by omega)
                go_enter Tryd.func21, Tryd.ntmps21
                go_wp2_with fail
                refine hi.out.mono ?_
                rintro e w1 ⟨rfl, rfl⟩
                go_wp2_with fail
                refine hd3.out.mono ?_
                rintro e w1 ⟨rfl, rfl⟩
                go_wp2
                go_ret3
                exact rn_of hr.out
              · have hr := Lib.hid (hr.trans (if_neg hg))
                have hgd : decide ((2147483647 : Int) < (N : Int)) = false := decide_eq_false (by omega)
                have hgd2 : decide ((N : Int) < -2147483648) = false := decide_eq_false (by omega)
                go_enter Tryd.func21, Tryd.ntmps21
                go_wp2_with fail
                refine hi.out.mono ?_
                rintro e w1 ⟨rfl, rfl⟩
                go_wp2_with fail
                refine hd3.out.mono ?_
                rintro e w1 ⟨rfl, rfl⟩
                go_wp2
                go_ret3
                exact rn_of hr.out
end Go.Proofs.YtjmnjcjpcmonjaaDoor.N2
