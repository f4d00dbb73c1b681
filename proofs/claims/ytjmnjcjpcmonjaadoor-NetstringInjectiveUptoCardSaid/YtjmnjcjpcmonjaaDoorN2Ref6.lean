/- The contracts of the reference's Same, Total and Strings, over lists of strings that lie in memory. -/
import Derived.Test.YtjmnjcjpcmonjaaDoorN2Ref5
namespace Go.Proofs.YtjmnjcjpcmonjaaDoor.N2
open Go.RowKit Mem
set_option linter.unusedVariables false

def tot (l : List (List UInt8)) : Nat := (l.map fun x => 10 + x.length).sum
theorem tot_snoc (l : List (List UInt8)) (x : List UInt8) : tot (l ++ [x]) = tot l + (10 + x.length) := by simp [tot]
theorem tot_take_le (l : List (List UInt8)) (k : Nat) : tot (l.take k) ≤ tot l := by
  have h : tot l = tot (l.take k) + tot (l.drop k) := by
    conv => lhs; rw [← List.take_append_drop k l]
    unfold tot
    rw [List.map_append, List.sum_append]
  omega
theorem tot_len (l : List (List UInt8)) : l.length ≤ tot l := by
  induction l with
  | nil => exact Nat.zero_le _
  | cons x l ih => unfold tot at ih ⊢; simp; omega
theorem tot_get (l : List (List UInt8)) (k : Nat) (h : k < l.length) : (l[k]).length ≤ tot l := by
  have h1 := tot_take_le l (k + 1)
  rw [List.take_succ_eq_append_getElem h, tot_snoc] at h1
  omega
theorem lt_snoc (l : List (List UInt8)) (k : Nat) (h : k < l.length) : l.take (k + 1) = l.take k ++ [l[k]] := List.take_succ_eq_append_getElem h
theorem strV_get (l : List (List UInt8)) (k : Nat) (h : k < l.length) : (strVs l)[k]'(by rw [strVs_len]; exact h) = .string ⟨(l[k]).toArray⟩ := by
  simp [strVs, strV]

set_option maxHeartbeats 1000000 in
theorem rtotal_any (A : Option Addr) (cap : Nat) (l : List (List UInt8)) (w : World) (hl : tot l ≤ 1000000000) (hc : l.length ≤ cap) (hcm : cap ≤ 9223372036854775807) (hr : Rd w A (strVs l)) :
    Calls Tryd.prog 12 #[.slice A l.length cap] w fun e w' => e = .returned (.int .i64 (tot l : Int)) ∧ w = w' := by
  have hrh := Lib.hid hr
  have hlen := tot_len l
  clear hr
  go_enter Tryd.func12, Tryd.ntmps12
  go_wp2
  go_loop [3, 4] (fun n i => ∃ k N : Nat, k ≤ l.length ∧ i = .int .i64 k ∧ N ≤ 1000000000 ∧ n = .int .i64 N ∧ Hid (N = tot (l.take k))) (fun _ i => l.length - (intOf i).toNat)
  case atStart => exact ⟨0, 0, Nat.zero_le _, rfl, by omega, rfl, Lib.hid rfl⟩
  case round =>
    obtain ⟨k, N, hk, rfl, hN, rfl, hNe⟩ := hrel
    by_cases hlt : k < l.length
    · obtain ⟨b, o, rfl, hb, hcell⟩ := hrh.out k (by rw [strVs_len]; exact hlt)
      rw [strV_get l k hlt] at hcell
      obtain ⟨x, hx⟩ : ∃ x, l[k] = x := ⟨_, rfl⟩
      rw [hx] at hcell
      have hN' := Lib.hid (show N + 10 + x.length = tot (l.take (k + 1)) by rw [lt_snoc l k hlt, tot_snoc, ← hNe.out, hx]; omega)
      have hN2 : N + 10 + x.length ≤ 1000000000 := by rw [hN'.out]; exact Nat.le_trans (tot_take_le _ _) hl
      have hI0 : (0 : Int) ≤ (k : Int) := by omega
      have hI1 : (k : Int) < (l.length : Int) := by omega
      clear hx
      go_wp2
      go_round
      case rel => exact ⟨k + 1, N + 10 + x.length, by omega, by go_num, hN2, by go_num, hN'⟩
      case measure => simp [intOf]; omega
    · have hfin := Lib.hid (show (N : Int) = (tot l : Int) by rw [hNe.out, List.take_of_length_le (by omega)])
      go_wp2
      go_ret
      exact ⟨ret_i hfin.out, rfl⟩

theorem strsL_snoc (l : List (List UInt8)) (x : List UInt8) : strsL (l ++ [x]) = strsL l ++ strL x := by simp [strsL]
theorem strL_len (x : List UInt8) (h : x.length ≤ 1000000) : (strL x).length ≤ x.length + 9 := by
  have := dig_len 6 x.length (by simp; omega)
  unfold strL
  simp
  omega
theorem strsL_len (l : List (List UInt8)) (h : tot l ≤ 1000000) : (strsL l).length ≤ tot l := by
  induction l with
  | nil => simp [strsL]
  | cons x l ih =>
    have e : tot (x :: l) = 10 + x.length + tot l := by simp [tot]
    have h1 := ih (by omega)
    have h2 := strL_len x (by omega)
    have e2 : strsL (x :: l) = strL x ++ strsL l := by simp [strsL]
    rw [e2, List.length_append]
    omega

set_option maxHeartbeats 1000000 in
theorem rstrings_any (A : Option Addr) (cap : Nat) (l : List (List UInt8)) (w : World) (hl : tot l ≤ 1000000) (hc : l.length ≤ cap) (hcm : cap ≤ 9223372036854775807) (hr : Rd w A (strVs l)) :
    Calls Tryd.prog 19 #[.slice A l.length cap] w fun e w' => e = .returned (.string ⟨(strsL l).toArray⟩) ∧ w = w' := by
  have hrh := Lib.hid hr
  have hlen := tot_len l
  clear hr
  go_enter Tryd.func19, Tryd.ntmps19
  go_wp2
  go_loop [3, 4] (fun v i => ∃ k : Nat, k ≤ l.length ∧ i = .int .i64 k ∧ v = .string ⟨(strsL (l.take k)).toArray⟩) (fun _ i => l.length - (intOf i).toNat)
  case atStart => exact ⟨0, Nat.zero_le _, rfl, rfl⟩
  case round =>
    obtain ⟨k, hk, rfl, rfl⟩ := hrel
    by_cases hlt : k < l.length
    · obtain ⟨b, o, rfl, hb, hcell⟩ := hrh.out k (by rw [strVs_len]; exact hlt)
      rw [strV_get l k hlt] at hcell
      obtain ⟨x, hx⟩ : ∃ x, l[k] = x := ⟨_, rfl⟩
      have hxl := tot_get l k hlt
      rw [hx] at hcell hxl
      have hs := rstring_any ⟨x.toArray⟩ w (by rw [str_size]; omega)
      rw [str_list] at hs
      have hs := Lib.hid hs
      have hsn := Lib.hid (show strsL (l.take (k + 1)) = strsL (l.take k) ++ strL x by rw [lt_snoc l k hlt, strsL_snoc, hx])
      have h1 := strsL_len (l.take k) (Nat.le_trans (tot_take_le _ _) hl)
      have h2 := tot_take_le l k
      have h3 := strL_len x (by omega)
      have hI0 : (0 : Int) ≤ (k : Int) := by omega
      have hI1 : (k : Int) < (l.length : Int) := by omega
      have hb1 : (strsL (l.take k)).length ≤ 1000000 := by omega
      have hb2 : (strL x).length ≤ 1000009 := by omega
      clear hx
      go_wp2_with fail
      refine hs.out.mono ?_
      rintro e w1 ⟨rfl, rfl⟩
      go_wp2
      go_round
      case rel => exact ⟨k + 1, by omega, by go_num, by rw [hsn.out, ← str_app]⟩
      case measure => simp [intOf]; omega
    · have hfin := Lib.hid (show l.take k = l from List.take_of_length_le (by omega))
      go_wp2
      go_ret
      exact ⟨ret_string (by rw [hfin.out]), rfl⟩

theorem str_inj {x y : List UInt8} : ((⟨x.toArray⟩ : ByteArray).toList == (⟨y.toArray⟩ : ByteArray).toList) = decide (x = y) := by
  rw [str_toList, str_toList, Bool.eq_iff_iff]
  simp
set_option maxHeartbeats 1000000 in
theorem rsame_any (A B : Option Addr) (ca cb : Nat) (l m : List (List UInt8)) (w : World) (hla : l.length ≤ 1000000000) (hlb : m.length ≤ 1000000000) (hca : l.length ≤ ca) (hcam : ca ≤ 9223372036854775807) (hcb : m.length ≤ cb) (hcbm : cb ≤ 9223372036854775807)
    (hA : Rd w A (strVs l)) (hB : Rd w B (strVs m)) :
    Calls Tryd.prog 26 #[.slice A l.length ca, .slice B m.length cb] w fun e w' => e = .returned (.bool (decide (l = m))) ∧ ∃ n, w' = w.drewN n := by
  have hAh := Lib.hid hA
  have hBh := Lib.hid hB
  clear hA hB
  by_cases hlm : l.length = m.length
  · have hd : ((l.length : Int) != (m.length : Int)) = false := by simp [hlm]
    have hlmh := Lib.hid hlm
    have hle : l.length ≤ m.length := by omega
    clear hlm
    go_enter Tryd.func26, Tryd.ntmps26
    go_wp2
    go_loopw [5] (fun i wr => ∃ k : Nat, k ≤ l.length ∧ i = .int .i64 k ∧ Hid (l.take k = m.take k) ∧ ∃ n, wr = w.drewN n) (fun i _ => l.length - (intOf i).toNat)
    case atStart => exact ⟨0, Nat.zero_le _, rfl, Lib.hid rfl, 0, rfl⟩
    case round =>
      obtain ⟨k, hk, rfl, hE, n, rfl⟩ := hrel
      by_cases hlt : k < l.length
      · have hltm : k < m.length := by omega
        obtain ⟨b, o, rfl, hb, hcell⟩ := hAh.out k (by rw [strVs_len]; exact hlt)
        obtain ⟨b', o', rfl, hb', hcell'⟩ := hBh.out k (by rw [strVs_len]; exact hltm)
        rw [strV_get l k hlt] at hcell
        rw [strV_get m k hltm] at hcell'
        have hI0 : (0 : Int) ≤ (k : Int) := by omega
        have hI1 : (k : Int) < (l.length : Int) := by omega
        have hI2 : (k : Int) < (m.length : Int) := by omega
        by_cases hxy : l[k] = m[k]
        · have hE' := Lib.hid (show l.take (k + 1) = m.take (k + 1) by rw [lt_snoc l k hlt, lt_snoc m k hltm, hE.out, hxy])
          rw [hxy] at hcell
          obtain ⟨y, hy⟩ : ∃ y : ByteArray, ⟨(m[k]).toArray⟩ = y := ⟨_, rfl⟩
          rw [hy] at hcell hcell'
          have hyy : (y.toList == y.toList) = true := by simp
          clear hxy hy
          go_wp2
          go_quiet (fail)
          go_wp2
          go_roundw
          case rel => exact ⟨k + 1, by omega, by go_num, hE', _, rfl⟩
          case measure => simp [intOf]; omega
        · have hno := Lib.hid (show decide (l = m) = false by
            rw [decide_eq_false_iff_not]
            intro e
            subst e
            exact hxy rfl)
          have hne : ((⟨(l[k]).toArray⟩ : ByteArray).toList == (⟨(m[k]).toArray⟩ : ByteArray).toList) = false := by rw [str_inj]; simpa using hxy
          obtain ⟨x, hx⟩ : ∃ x : ByteArray, ⟨(l[k]).toArray⟩ = x := ⟨_, rfl⟩
          obtain ⟨y, hy⟩ : ∃ y : ByteArray, ⟨(m[k]).toArray⟩ = y := ⟨_, rfl⟩
          rw [hx] at hcell hne
          rw [hy] at hcell' hne
          clear hxy hx hy
          go_wp2
          go_quiet (fail)
          go_wp2
          go_ret
          exact ⟨ret_bool hno.out.symm, _, World.drewN_drewN _ _ _⟩
      · have hfin := Lib.hid (show decide (l = m) = true by
          have h1 : l.take k = l := List.take_of_length_le (by omega)
          have h2 : m.take k = m := List.take_of_length_le (by have := hlmh.out; omega)
          have := hE.out
          rw [h1, h2] at this
          simpa using this)
        go_wp2
        go_ret
        exact ⟨ret_bool hfin.out.symm, n, rfl⟩
  · have hd : ((l.length : Int) != (m.length : Int)) = true := by simp; omega
    have hno := Lib.hid (show decide (l = m) = false by
      rw [decide_eq_false_iff_not]
      intro e
      exact hlm (by rw [e]))
    clear hlm
    go_enter Tryd.func26, Tryd.ntmps26
    go_wp2
    go_ret
    exact ⟨ret_bool hno.out.symm, 0, rfl⟩
end Go.Proofs.YtjmnjcjpcmonjaaDoor.N2
