/- The contract of the reference's ReadString. -/
import Derived.Test.YtjmnjcjpcmonjaaDoorN2Ref3
namespace Go.Proofs.YtjmnjcjpcmonjaaDoor.N2
open Go.RowKit Mem
set_option linter.unusedVariables false

/-- What a call of ReadString leaves. -/
def RsPost (l : List UInt8) (a : Int) (w : World) (e : Ending) (w' : World) : Prop := e = .returned (.tuple #[.string ⟨(rdS l a).1.toArray⟩, .int .i64 (rdS l a).2.1, .int .i64 (rdS l a).2.2]) ∧ w = w'
theorem rs_of {l x : List UInt8} {a : Int} {w : World} {y z : Int} (h : rdS l a = (x, y, z)) : RsPost l a w (.returned (.tuple #[.string ⟨x.toArray⟩, .int .i64 y, .int .i64 z])) w := by
  refine ⟨?_, rfl⟩
  rw [h]
theorem cut_str (s : ByteArray) (a b : Nat) : s.extract a b = ⟨((s.data.toList.drop a).take (b - a)).toArray⟩ := by
  apply ByteArray.ext
  rw [← cut_list]
theorem at_some {s : ByteArray} {i : Nat} {c : UInt8} (h : i < s.size) (hc : (((s[i]).toNat : Int) == (c.toNat : Int)) = true) : s.data.toList[i]? = some c := by
  rw [List.getElem?_eq_getElem (by simpa using h)]
  have h2 : ((s[i]).toNat : Int) = (c.toNat : Int) := by simpa using hc
  have h3 : s[i] = c := UInt8.toNat_inj.1 (by omega)
  exact congrArg some h3
theorem at_other {s : ByteArray} {i : Nat} {c : UInt8} (h : i < s.size) (hc : (((s[i]).toNat : Int) == (c.toNat : Int)) = false) : s.data.toList[i]? ≠ some c := by
  rw [List.getElem?_eq_getElem (by simpa using h)]
  intro e
  injection e with e
  have e : s[i] = c := e
  rw [e] at hc
  simp at hc
theorem ne_yes {c n : Int} (h : (c == n) = true) : (c != n) = false := by simp [bne, h]
theorem ne_no {c n : Int} (h : (c == n) = false) : (c != n) = true := by simp [bne, h]

set_option maxHeartbeats 2000000 in
theorem rreadString_any (s : ByteArray) (a : Int) (w : World) (hs : s.size ≤ 1000000) (h1 : -9223372036854775808 ≤ a) (h2 : a ≤ 9223372036854775807) :
    Calls Tryd.prog 23 #[.string s, .int .i64 a] w (RsPost s.data.toList a w) := by
  have hlen : s.data.toList.length = s.size := rfl
  by_cases ha : a < 0
  · have hr := Lib.hid (rdS_arg (l := s.data.toList) (.inl ha))
    have hd : decide (a < 0) = true := by simpa using ha
    clear hlen
    go_enter Tryd.func23, Tryd.ntmps23
    go_wp2
    go_ret3
    exact rs_of hr.out
  · by_cases hb : (s.size : Int) < a
    · have hr := Lib.hid (rdS_arg (l := s.data.toList) (a := a) (.inr hb))
      have hd : decide (a < 0) = false := by simpa using ha
      have hd2 : decide ((s.size : Int) < a) = true := by simpa using hb
      clear hlen
      go_enter Tryd.func23, Tryd.ntmps23
      go_wp2
      go_ret3
      exact rs_of hr.out
    · obtain ⟨k, rfl⟩ : ∃ k : Nat, a = (k : Int) := ⟨a.toNat, by omega⟩
      have hk : k ≤ s.size := by omega
      have hd : decide ((k : Int) < 0) = false := by simp
      have hd2 : decide ((s.size : Int) < (k : Int)) = false := by simp; omega
      rcases posI_cases s.data.toList k 58 with hp | ⟨p, hp, hkp, hps, _, _⟩
      · have hr := Lib.hid (rdS_short (l := s.data.toList) (a := k) hk hp)
        have hi := rindex_any s k 58 w hs hk
        rw [hp] at hi
        have hi := Lib.hid hi
        clear hp hlen
        go_enter Tryd.func23, Tryd.ntmps23
        go_wp2_with fail
        refine hi.out.mono ?_
        rintro e w1 ⟨rfl, rfl⟩
        go_wp2
        go_ret3
        exact rs_of hr.out
      · obtain ⟨W, hW⟩ : ∃ W, s.extract k p = W := ⟨_, rfl⟩
        have hWl : W.data.toList = (s.data.toList.drop k).take (p - k) := by rw [← hW, cut_list]
        have hWs : W.size ≤ s.size := by rw [← hW]; simp; omega
        have hps : p < s.size := hps
        have hi := rindex_any s k 58 w hs hk
        rw [hp] at hi
        have hi := Lib.hid hi
        have hr := rdS_at hk hp hWl.symm
        have hd3 := rdecimal_any W w (by omega)
        clear hp hWl
        rcases hq : dcok W.data.toList with _ | _
        · rw [hq, dcn_no hq] at hd3
          have hr := Lib.hid (hr.trans (if_pos hq))
          have hd3 := Lib.hid hd3
          clear hq hlen
          go_enter Tryd.func23, Tryd.ntmps23
          go_wp2_with fail
          refine hi.out.mono ?_
          rintro e w1 ⟨rfl, rfl⟩
          go_wp2_with fail
          refine hd3.out.mono ?_
          rintro e w1 ⟨rfl, rfl⟩
          go_wp2
          go_ret3
          exact rs_of hr.out
        · rw [hq, dcn_yes hq] at hd3
          have hN := dcv_le W.data.toList
          unfold top at hN
          have hr := hr.trans (if_neg (by rw [hq]; decide))
          obtain ⟨N, hNe⟩ : ∃ N, dcv W.data.toList = N := ⟨_, rfl⟩
          rw [hNe] at hd3 hN hr
          have hd3 := Lib.hid hd3
          clear hq hNe
          by_cases hg : (s.size : Int) - (p : Int) - 1 ≤ (N : Int)
          · have hr := Lib.hid (hr.trans (if_pos hg))
            clear hlen
            go_enter Tryd.func23, Tryd.ntmps23
            go_wp2_with fail
            refine hi.out.mono ?_
            rintro e w1 ⟨rfl, rfl⟩
            go_wp2_with fail
            refine hd3.out.mono ?_
            rintro e w1 ⟨rfl, rfl⟩
            go_wp2
            go_ret3
            exact rs_of hr.out
          · have hr := hr.trans (if_neg hg)
            have hin : p + 1 + N < s.size := by omega
            have hg' : (N : Int) < (s.size : Int) - (p : Int) - 1 := by omega
            clear hlen
            rcases hc : (((s[p + 1 + N]).toNat : Int) == 44) with _ | _
            · have hr := Lib.hid (hr.trans (if_pos (at_other (c := 44) hin hc)))
              have hc' := ne_no hc
              go_enter Tryd.func23, Tryd.ntmps23
              go_wp2_with fail
              refine hi.out.mono ?_
              rintro e w1 ⟨rfl, rfl⟩
              go_wp2_with fail
              refine hd3.out.mono ?_
              rintro e w1 ⟨rfl, rfl⟩
              go_wp2
              go_ret3
              exact rs_of hr.out
            · have hr := Lib.hid (hr.trans (if_neg (not_not_intro (at_some (c := 44) hin hc))))
              have hc' := ne_yes hc
              have hcut := cut_str s (p + 1) (p + 1 + N)
              rw [show p + 1 + N - (p + 1) = N by omega] at hcut
              have hcut := Lib.hid hcut
              go_enter Tryd.func23, Tryd.ntmps23
              go_wp2_with fail
              refine hi.out.mono ?_
              rintro e w1 ⟨rfl, rfl⟩
              go_wp2_with fail
              refine hd3.out.mono ?_
              rintro e w1 ⟨rfl, rfl⟩
              go_wp2
              go_ret3
              have e := rs_of (w := w) hr.out
              rw [← hcut.out] at e
              exact e
end Go.Proofs.YtjmnjcjpcmonjaaDoor.N2
