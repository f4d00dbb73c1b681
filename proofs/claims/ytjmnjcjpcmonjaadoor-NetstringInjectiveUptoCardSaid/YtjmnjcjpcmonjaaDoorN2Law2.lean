/- The walks of the laws NetstringPrefix and NetstringNesting, under the package's contracts. -/
import Derived.Test.YtjmnjcjpcmonjaaDoorN2Law1
import Derived.Deep.RegionWith
namespace Go.Proofs.YtjmnjcjpcmonjaaDoor.N2
open Go.RowKit Mem
set_option linter.unusedVariables false

theorem cut_take (s : ByteArray) (n : Nat) : (s.extract 0 n).data.toList = s.data.toList.take n := by rw [cut_list]; simp
theorem app_list (a b : ByteArray) : (a ++ b).data.toList = a.data.toList ++ b.data.toList := by simp
theorem cut_drop (s : ByteArray) (n : Nat) : (s.extract n s.size).data.toList = s.data.toList.drop n := by
  rw [cut_list]
  exact List.take_of_length_le (by simp)
theorem cut_join (s : ByteArray) (n : Nat) (h : n ≤ s.size) : (s.extract 0 n ++ s.extract n s.size).data.toList = s.data.toList := by
  rw [app_list, cut_take, cut_drop, List.take_append_drop]

set_option maxHeartbeats 1000000 in
theorem walk_prefix (D : Dev) (s : ByteArray) (k : Int) (w : World) (hL0 : Laid w) (hs : s.size ≤ 140737488351232) (hk : (Lit.int .u16 k).wf = true) :
    Calls Tryd.prog 9 #[.string s, .int .u16 k] w fun e w' => e = .returned (.bool true) ∧ Below w.heap.size w w' := by
  have hL := hL0
  obtain ⟨hk1, hk2⟩ : 0 ≤ k ∧ k ≤ 65535 := (Lit.wf_int_iff .u16 _).1 hk
  by_cases h : s.size ≤ 300
  · have hsl : s.data.toList.length = s.size := rfl
    have hl : (strL s.data.toList).length ≤ 400 := by
      have := strL_len s.data.toList (by omega)
      omega
    have hp := strL_pos s.data.toList
    have c1 := Lib.hid (fun W (hL : Laid W) => D.string s W (by omega) hL)
    obtain ⟨T, hT⟩ : ∃ T : ByteArray, ⟨(strL s.data.toList).toArray⟩ = T := ⟨_, rfl⟩
    have hTl : T.data.toList = strL s.data.toList := by rw [← hT]
    have hTs : T.size = (strL s.data.toList).length := by rw [← hT]; rfl
    rw [hT] at c1
    have hTp : 0 < T.size := by omega
    have hTne : T.data.toList ≠ [] := by
      intro e
      have : T.data.toList.length = T.size := rfl
      rw [e] at this
      simp at this
      omega
    have hE : T.toList.isEmpty = false := by rw [str_toList]; simpa using hTne
    have hE2 : ¬ T.toList = [] := by rw [str_toList]; exact hTne
    obtain ⟨n, hn⟩ : ∃ n, k.toNat % T.size = n := ⟨_, rfl⟩
    have hnl : n < T.size := by rw [← hn]; exact Nat.mod_lt _ hTp
    have hni : k % (T.size : Int) = (n : Int) := by
      rw [← hn]
      have : k = ((k.toNat : Nat) : Int) := by omega
      rw [this]
      simp
    obtain ⟨P, hP⟩ : ∃ P, T.extract 0 n = P := ⟨_, rfl⟩
    obtain ⟨Q, hQ⟩ : ∃ Q, T.extract n T.size = Q := ⟨_, rfl⟩
    have hPl : P.data.toList = (strL s.data.toList).take n := by rw [← hP, cut_take, hTl]
    have hPs : P.size ≤ 400 := by rw [← hP]; simp; omega
    have hQs : Q.size ≤ 400 := by rw [← hQ]; simp; omega
    have hPQ : (P ++ Q).data.toList = strL s.data.toList := by rw [← hP, ← hQ, cut_join T n (by omega), hTl]
    have c2 := fun W (hL : Laid W) => D.readString P 0 W (by omega) (by decide) (by decide) hL
    unfold RsB at c2
    rw [hPl, rdS_prefix _ _ (by rw [hsl]; unfold top; omega) (by omega)] at c2
    have c3 := fun W (hL : Laid W) => D.readString (P ++ Q) 0 W (by simp; omega) (by decide) (by decide) hL
    unfold RsB at c3
    have hr := rdS_str [] s.data.toList [] (by rw [hsl]; unfold top; omega)
    rw [List.append_nil, List.nil_append, show ((([] : List UInt8).length : Nat) : Int) = 0 from rfl] at hr
    rw [hPQ, hr, show ((([] : List UInt8).length + (strL s.data.toList).length : Nat) : Int) = (T.size : Int) by rw [hTs]; simp, str_back] at c3
    have c2 := Lib.hid c2
    have c3 := Lib.hid c3
    have hkT : k ≤ 65535 := hk2
    have hTI : (1 : Int) ≤ (T.size : Int) := by omega
    have hT400 : T.size ≤ 400 := by omega
    clear hTs hT hTl hPl hPQ hr hTne hn hsl hk
    go_enter Tryd.func9, Tryd.ntmps9
    go_wp2_with fail
    refine (c1.out _ (by first | exact hL | exact hL.drewN _)).mono ?_
    rintro e w1 ⟨rfl, hb1⟩
    have hL := Laid.below (by exact hL) hb1
    go_wp2_with fail
    refine (c2.out _ (by first | exact hL | exact hL.drewN _)).mono ?_
    rintro e w2 ⟨rfl, hb2⟩
    have hL := Laid.below (by exact hL) hb2
    go_wp2_with fail
    go_region_with (go_at_call 22; refine (c3.out _ (by first | exact hL | exact hL.drewN _)).mono ?_; rintro e w3 ⟨rfl, hb3⟩)
    all_goals
      have hL := Laid.below (by exact hL) hb3
      go_wp2_with fail
      refine (awake_any D _ (by first | exact hL | exact hL.drewN _)).mono ?_
      rintro e w5 ⟨rfl, hb5⟩
      have hL := Laid.below (by exact hL) hb5
      go_wp2
      go_ret
      exact ⟨rfl, chain (chain (chain hb1 hb2).drew hb3) hb5⟩
  · have hgt : (300 : Int) < (s.size : Int) := by omega
    go_enter Tryd.func9, Tryd.ntmps9
    go_wp2_with fail
    refine (awake_any D _ (by first | exact hL | exact hL.drewN _)).mono ?_
    rintro e w5 ⟨rfl, hb5⟩
    have hL := Laid.below (by exact hL) hb5
    go_wp2
    go_ret
    exact ⟨rfl, hb5⟩

/-- The string, encoded j times. -/
def nest (s : List UInt8) : Nat → List UInt8
  | 0 => s
  | j + 1 => strL (nest s j)
theorem nest_len (s : List UInt8) (h : s.length ≤ 300) : ∀ j, j ≤ 6 → (nest s j).length ≤ 300 + 9 * j
  | 0, _ => by simpa [nest] using h
  | j + 1, hj => by
    have h1 := nest_len s h j (by omega)
    have h2 := strL_len (nest s j) (by omega)
    unfold nest
    omega
theorem strL_numL (x : List UInt8) : (strL x).length = x.length + (numL (x.length : Int)).length + 1 := by
  unfold numL
  rw [decI_nat]
  simp [strL]
  omega
theorem read_nest (x : List UInt8) (h : x.length ≤ top) : rdS (strL x) 0 = (x, ((strL x).length : Int), 0) := by
  have hr := rdS_str [] x [] h
  rw [List.append_nil, List.nil_append] at hr
  simpa using hr

set_option maxHeartbeats 2000000 in
theorem walk_nesting (D : Dev) (s : ByteArray) (k : Int) (w : World) (hL0 : Laid w) (hs : s.size ≤ 140737488351232) (hk : (Lit.int .u8 k).wf = true) :
    Calls Tryd.prog 11 #[.string s, .int .u8 k] w fun e w' => e = .returned (.bool true) ∧ Below w.heap.size w w' := by
  have hL := hL0
  obtain ⟨hk1, hk2⟩ : 0 ≤ k ∧ k ≤ 255 := (Lit.wf_int_iff .u8 _).1 hk
  by_cases h : s.size ≤ 300
  · have hsl : s.data.toList.length ≤ 300 := h
    obtain ⟨n, hn⟩ : ∃ n : Nat, k % 6 = (n : Int) := ⟨(k % 6).toNat, by omega⟩
    have hn5 : n ≤ 5 := by omega
    have hnest := Lib.hid (nest_len s.data.toList hsl)
    clear hk hsl
    go_enter Tryd.func11, Tryd.ntmps11
    go_wp2
    rw [hn]
    clear hn
    go_loopw [6, 20] (fun t i wr => ∃ j : Nat, j ≤ n ∧ i = .int .i64 j ∧ t = .string ⟨(nest s.data.toList j).toArray⟩ ∧ Below w.heap.size w wr) (fun _ i _ => n - (intOf i).toNat)
    case atStart => exact ⟨0, Nat.zero_le _, rfl, rfl, Below.refl _ _⟩
    case round =>
      obtain ⟨j, hj, rfl, rfl, hb⟩ := hrel
      have hL := hL0.below hb
      by_cases hlt : j < n
      · have hl := hnest.out j (by omega)
        have hl' := hnest.out (j + 1) (by omega)
        obtain ⟨X, hX⟩ : ∃ X, nest s.data.toList j = X := ⟨_, rfl⟩
        have hnx : nest s.data.toList (j + 1) = strL X := by rw [← hX]; rfl
        rw [hX] at hl
        rw [hnx] at hl'
        have c1 := Lib.hid (fun W (hL : Laid W) => D.string ⟨X.toArray⟩ W (by rw [str_size]; omega) hL)
        have c2 := Lib.hid (fun W (hL : Laid W) => D.number (X.length : Int) W (by omega) (by omega) hL)
        have hq := strL_numL X
        have hqi : (((strL X).length : Int) != (X.length : Int) + ((numL (X.length : Int)).length : Int) + 1) = false := by
          rw [bne_eq_false_iff_eq]
          omega
        have hnl : (numL (X.length : Int)).length ≤ 22 := numL_len (by omega) (by omega)
        have hqh := Lib.hid hq
        have hnxh := Lib.hid hnx
        have hXh := Lib.hid hX
        rw [hX]
        clear hq hnx hX
        go_wp2_with fail
        refine (c1.out _ (by first | exact hL | exact hL.drewN _)).mono ?_
        rintro e w1 ⟨rfl, hb1⟩
        have hL := Laid.below (by exact hL) hb1
        go_wp2_with fail
        refine (c2.out _ (by first | exact hL | exact hL.drewN _)).mono ?_
        rintro e w2 ⟨rfl, hb2⟩
        have hL := Laid.below (by exact hL) hb2
        go_wp2
        go_roundw
        case rel => exact ⟨j + 1, by omega, by go_num, by rw [hnxh.out], chain (chain hb hb1) hb2⟩
        case measure => simp [intOf]; omega
      · obtain rfl : j = n := by omega
        go_wp2
        go_loopw [6, 38] (fun t i wr => ∃ i' : Nat, i' ≤ j ∧ i = .int .i64 i' ∧ t = .string ⟨(nest s.data.toList (j - i')).toArray⟩ ∧ Below w.heap.size w wr) (fun _ i _ => j - (intOf i).toNat)
        case atStart => exact ⟨0, Nat.zero_le _, rfl, rfl, hb⟩
        case round =>
          clear hb
          obtain ⟨i, hi, rfl, rfl, hb⟩ := hrel
          have hL := hL0.below hb
          by_cases hlt2 : i < j
          · obtain ⟨m, hm⟩ : ∃ m, j - i = m + 1 := ⟨j - i - 1, by omega⟩
            have hm2 : j - (i + 1) = m := by omega
            have hl := hnest.out m (by omega)
            have hl' := hnest.out (m + 1) (by omega)
            obtain ⟨X, hX⟩ : ∃ X, nest s.data.toList m = X := ⟨_, rfl⟩
            have hnx : nest s.data.toList (m + 1) = strL X := by rw [← hX]; rfl
            rw [hX] at hl
            rw [hnx] at hl'
            have c1 := fun W (hL : Laid W) => D.readString ⟨(strL X).toArray⟩ 0 W (by rw [str_size]; omega) (by decide) (by decide) hL
            unfold RsB at c1
            rw [str_list, read_nest X (by unfold top; omega)] at c1
            have c1 := Lib.hid c1
            rw [hm, hnx]
            have hfin := Lib.hid (show nest s.data.toList (j - (i + 1)) = X by rw [hm2, hX])
            clear hX hnx hm hm2
            go_wp2_with fail
            refine (c1.out _ (by first | exact hL | exact hL.drewN _)).mono ?_
            rintro e w1 ⟨rfl, hb1⟩
            have hL := Laid.below (by exact hL) hb1
            go_wp2
            go_roundw
            case rel => exact ⟨i + 1, by omega, by go_num, by rw [hfin.out], chain hb hb1⟩
            case measure => simp [intOf]; omega
          · obtain rfl : i = j := by omega
            rw [Nat.sub_self, show nest s.data.toList 0 = s.data.toList from rfl, str_back]
            go_wp2_with fail
            refine (awake_any D _ (by first | exact hL | exact hL.drewN _)).mono ?_
            rintro e w5 ⟨rfl, hb5⟩
            have hL := Laid.below (by exact hL) hb5
            go_wp2
            go_ret
            exact ⟨rfl, chain hb hb5⟩
  · have hgt : (300 : Int) < (s.size : Int) := by omega
    go_enter Tryd.func11, Tryd.ntmps11
    go_wp2_with fail
    refine (awake_any D _ (by first | exact hL | exact hL.drewN _)).mono ?_
    rintro e w5 ⟨rfl, hb5⟩
    have hL := Laid.below (by exact hL) hb5
    go_wp2
    go_ret
    exact ⟨rfl, hb5⟩
end Go.Proofs.YtjmnjcjpcmonjaaDoor.N2
