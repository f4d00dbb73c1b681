/- The contract of the reference's decimal: a natural number in decimal, or not. -/
import Derived.Test.YtjmnjcjpcmonjaaDoorN2Ref1
namespace Go.Proofs.YtjmnjcjpcmonjaaDoor.N2
open Go.RowKit Mem
set_option linter.unusedVariables false

theorem dcok_empty : dcok [] = false := rfl
theorem dcn_no {l : List UInt8} (h : dcok l = false) : dcn l = 0 := by unfold dcn; rw [if_neg (by rw [h]; decide)]
theorem dcn_yes {l : List UInt8} (h : dcok l = true) : dcn l = (dcv l : Int) := by unfold dcn; rw [if_pos h]
/-- No leading nought that is not alone. -/
def lead (l : List UInt8) : Bool := decide (1 < l.length) && l.head? == some 48
theorem dcok_lead {l : List UInt8} (h : lead l = true) : dcok l = false := by
  unfold lead at h
  unfold dcok
  rw [h]
  simp
theorem dcok_bad {l : List UInt8} {c : UInt8} (h : c ∈ l) (hc : isDg c = false) : dcok l = false := by
  unfold dcok
  have : l.all isDg = false := by
    rw [List.all_eq_false]
    exact ⟨c, h, by rw [hc]; decide⟩
  rw [this]
  simp
theorem dcok_good {l : List UInt8} (h0 : l ≠ []) (h1 : lead l = false) (h2 : l.all isDg = true) : dcok l = true := by
  unfold lead at h1
  unfold dcok
  rw [h1, h2]
  simp [h0]
theorem isDg_lo {c : UInt8} (h : (c.toNat : Int) < 48) : isDg c = false := by unfold isDg; simp; omega
theorem isDg_hi {c : UInt8} (h : (57 : Int) < (c.toNat : Int)) : isDg c = false := by unfold isDg; simp; omega
theorem isDg_in {c : UInt8} (h : ¬ (c.toNat : Int) < 48) (h' : ¬ (57 : Int) < (c.toNat : Int)) : isDg c = true := by unfold isDg; simp; omega
theorem take_snoc (s : ByteArray) (k : Nat) (h : k < s.size) : s.data.toList.take (k + 1) = s.data.toList.take k ++ [s[k]] := by
  rw [List.take_succ_eq_append_getElem (by simpa using h)]; rfl
theorem take_all (s : ByteArray) : s.data.toList.take s.size = s.data.toList := List.take_of_length_le (by simp)
theorem mem_get (s : ByteArray) (k : Nat) (h : k < s.size) : s[k] ∈ s.data.toList := by
  have : s.data.toList[k]'(by simpa using h) = s[k] := rfl
  rw [← this]
  exact List.getElem_mem _
theorem head_of (s : ByteArray) (h : 0 < s.size) : s.data.toList.head? = some s[0] := by
  rw [List.head?_eq_getElem?, List.getElem?_eq_getElem (by simpa using h)]
  rfl
theorem lead_of (s : ByteArray) (h : 1 < s.size) : lead s.data.toList = (((s[0]).toNat : Int) == 48) := by
  unfold lead
  rw [head_of s (by omega), show decide (1 < s.data.toList.length) = true by simpa using h, Bool.true_and, Bool.eq_iff_iff]
  simp [← UInt8.toNat_inj]
  omega
theorem lead_one (s : ByteArray) (h : s.size ≤ 1) : lead s.data.toList = false := by
  unfold lead
  rw [show decide (1 < s.data.toList.length) = false by simp; simpa using h, Bool.false_and]
theorem dcS_top {n : Nat} {c : UInt8} (h : (1099511627776 : Int) < 10 * (n : Int) + ((c.toNat : Int) - 48)) (hc : ¬ (c.toNat : Int) < 48) : dcS n c = top := by unfold dcS top; omega
theorem dcS_low {n : Nat} {c : UInt8} (h : ¬ (1099511627776 : Int) < 10 * (n : Int) + ((c.toNat : Int) - 48)) (hc : ¬ (c.toNat : Int) < 48) : ((dcS n c : Nat) : Int) = 10 * (n : Int) + ((c.toNat : Int) - 48) := by unfold dcS top; omega

set_option maxHeartbeats 2000000 in
theorem rdecimal_any (s : ByteArray) (w : World) (hs : s.size ≤ 1000000) :
    Calls Tryd.prog 35 #[.string s] w fun e w' => e = .returned (.tuple #[.int .i64 (dcn s.data.toList), .bool (dcok s.data.toList)]) ∧ w = w' := by
  by_cases h0 : s.size = 0
  · obtain rfl : s = ByteArray.empty := by
      apply ByteArray.ext
      apply Array.eq_empty_of_size_eq_zero h0
    go_enter Tryd.func35, Tryd.ntmps35
    go_wp2
    go_ret2
    exact ⟨rfl, rfl⟩
  · have hp : 0 < s.size := by omega
    have hne : s.data.toList ≠ [] := by
      intro e
      have : s.data.toList.length = s.size := rfl
      rw [e] at this
      simp at this
      omega
    have hE : s.toList.isEmpty = false := by rw [str_toList]; simpa using hne
    have hE2 : ¬ s.toList = [] := by rw [str_toList]; exact hne
    by_cases hl : lead s.data.toList = true
    · have h1 : 1 < s.size := by
        by_cases h : 1 < s.size
        · exact h
        · rw [lead_one s (by omega)] at hl; cases hl
      have hc : (((s[0]).toNat : Int) == 48) = true := by rw [← lead_of s h1]; exact hl
      have hd := Lib.hid (dcok_lead hl)
      have hI : (1 : Int) < (s.size : Int) := by omega
      have hD : decide ((1 : Int) < (s.size : Int)) = true := by simpa using hI
      clear hl hne h0
      go_enter Tryd.func35, Tryd.ntmps35
      go_wp2
      go_ret2
      exact ⟨ret_ib (dcn_no hd.out).symm hd.out.symm, rfl⟩
    · have hl : lead s.data.toList = false := by simpa using hl
      have hlh := Lib.hid hl
      have hneh := Lib.hid hne
      have hD : (decide ((1 : Int) < (s.size : Int)) = false) ∨ (decide ((1 : Int) < (s.size : Int)) = true ∧ (((s[0]).toNat : Int) == 48) = false) := by
        by_cases h1 : 1 < s.size
        · right
          exact ⟨by simp; omega, by rw [← lead_of s h1]; exact hl⟩
        · left
          simp; omega
      clear hl hne h0
      rcases hD with hD | ⟨hD, hc⟩
      all_goals
        go_enter Tryd.func35, Tryd.ntmps35
        go_wp2
        go_loop [4, 5] (fun n i => ∃ k N : Nat, k ≤ s.size ∧ i = .int .i64 k ∧ N ≤ 1099511627776 ∧ n = .int .i64 N ∧ Hid (N = dcv (s.data.toList.take k)) ∧ Hid ((s.data.toList.take k).all isDg = true)) (fun _ i => s.size - (intOf i).toNat)
        case atStart => exact ⟨0, 0, Nat.zero_le _, rfl, by omega, rfl, Lib.hid rfl, Lib.hid rfl⟩
        case round =>
          obtain ⟨k, N, hk, rfl, hN, rfl, hNe, hall⟩ := hrel
          by_cases hlt : k < s.size
          · have hc255 : ((s[k]).toNat : Int) ≤ 255 := by have := (s[k]).toNat_lt; omega
            by_cases hlo : ((s[k]).toNat : Int) < 48
            · have hb := Lib.hid (dcok_bad (mem_get s k hlt) (isDg_lo hlo))
              have hlod : decide (((s[k]).toNat : Int) < 48) = true := by simpa using hlo
              go_wp2
              go_ret2
              exact ⟨ret_ib (dcn_no hb.out).symm hb.out.symm, rfl⟩
            · have hlod : decide (((s[k]).toNat : Int) < 48) = false := by simpa using hlo
              by_cases hhi : (57 : Int) < ((s[k]).toNat : Int)
              · have hb := Lib.hid (dcok_bad (mem_get s k hlt) (isDg_hi hhi))
                have hhid : decide ((57 : Int) < ((s[k]).toNat : Int)) = true := by simpa using hhi
                go_wp2
                go_ret2
                exact ⟨ret_ib (dcn_no hb.out).symm hb.out.symm, rfl⟩
              · have hhid : decide ((57 : Int) < ((s[k]).toNat : Int)) = false := by simpa using hhi
                have hall' := Lib.hid (show (s.data.toList.take (k + 1)).all isDg = true by rw [take_snoc s k hlt, List.all_append, hall.out]; simp [isDg_in hlo hhi])
                by_cases ht : (1099511627776 : Int) < 10 * (N : Int) + (((s[k]).toNat : Int) - 48)
                · have hN' := Lib.hid (show 1099511627776 = dcv (s.data.toList.take (k + 1)) by rw [take_snoc s k hlt, dcv_snoc, ← hNe.out, dcS_top ht hlo]; rfl)
                  go_wp2
                  go_round
                  case rel => exact ⟨k + 1, 1099511627776, by omega, by go_num, by omega, rfl, hN', hall'⟩
                  case measure => simp [intOf]; omega
                · have hN' := Lib.hid (show dcS N s[k] = dcv (s.data.toList.take (k + 1)) by rw [take_snoc s k hlt, dcv_snoc, ← hNe.out])
                  have hle := dcS_le N s[k]
                  unfold top at hle
                  have hv := Lib.hid (dcS_low ht hlo)
                  go_wp2
                  go_round
                  case rel => exact ⟨k + 1, dcS N s[k], by omega, by go_num, hle, by rw [hv.out], hN', hall'⟩
                  case measure => simp [intOf]; omega
          · have hok := Lib.hid (dcok_good hneh.out hlh.out (by rw [← take_all s, show s.size = k by omega]; exact hall.out))
            have hv := Lib.hid (show dcn s.data.toList = (N : Int) by rw [dcn_yes hok.out, hNe.out, show k = s.size by omega, take_all])
            go_wp2
            go_ret2
            exact ⟨ret_ib hv.out.symm hok.out.symm, rfl⟩
end Go.Proofs.YtjmnjcjpcmonjaaDoor.N2
