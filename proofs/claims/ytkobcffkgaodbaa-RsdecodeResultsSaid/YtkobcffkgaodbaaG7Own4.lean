/- The contracts of slices.Reverse, slices.IndexFunc, slices.ContainsFunc at bytes, as the landed package calls them. -/
import Derived.Test.YtkobcffkgaodbaaG7Own3
namespace Go.Proofs.Ytkobcffkgaodbaa.G7
open Go.Proofs.Ytkobcffkgaodbaa.G5
open Go.Proofs.Ytkobcffkgaodbaa.G6 (ev rs rs_len rs_get IsSl conv_sl mb VAt.setR VAt.readR getD_set)
open Go.RowKit Mem
set_option linter.unusedVariables false
set_option linter.unusedSimpArgs false

/-- Behind k exchanges from both ends. -/
def rv (l : List R) (k : Nat) : List R := tab l.length fun m => if m < k ∨ l.length ≤ m + k then l.getD (l.length - 1 - m) 0 else l.getD m 0
theorem rv_len (l : List R) (k : Nat) : (rv l k).length = l.length := tab_len _ _
theorem rv_zero (l : List R) : rv l 0 = l := (tab_eq rfl fun j hj => by rw [if_neg (by omega)]).symm
theorem rv_at {l : List R} {k J : Nat} (h : k + J + 1 = l.length) (hlt : k < J) : (rv l k).getD k 0 = l.getD k 0 ∧ (rv l k).getD J 0 = l.getD J 0 := by
  constructor
  · rw [rv, tab_get _ _ _ (by omega), if_neg (by omega)]
  · rw [rv, tab_get _ _ _ (by omega), if_neg (by omega)]
theorem rv_step {l : List R} {k J : Nat} (h : k + J + 1 = l.length) (hlt : k < J) : ((rv l k).set k (l.getD J 0)).set J (l.getD k 0) = rv l (k + 1) := by
  unfold rv
  rw [tab_set _ _ _ _ (by omega), tab_set _ _ _ _ (by omega)]
  refine tab_congr fun m hm => ?_
  by_cases e : m = J
  · subst e
    rw [if_pos rfl, if_pos (by omega)]
    congr 1
    omega
  · rw [if_neg e]
    by_cases e2 : m = k
    · subst e2
      rw [if_pos rfl, if_pos (by omega)]
      congr 1
      omega
    · rw [if_neg e2]
      by_cases e3 : m < k ∨ l.length ≤ m + k
      · rw [if_pos e3, if_pos (by omega)]
      · rw [if_neg e3, if_neg (by omega)]
theorem rv_done {l : List R} {k J : Nat} (h : k + J + 1 = l.length) (hlt : ¬ k < J) : rv l k = l.reverse := by
  refine (tab_eq (by simp) fun m hm => ?_).symm
  rw [getD_rev _ _ hm]
  by_cases e : m < k ∨ l.length ≤ m + k
  · rw [if_pos e]
  · rw [if_neg e]
    congr 1
    omega

set_option maxRecDepth 100000 in
set_option maxHeartbeats 2000000 in
theorem rev_own {G n c : Nat} {l : List R} {w : World} (hat : VAt w G (rs l)) (hl : l.length = n) (hn : 1 ≤ n) (hn2 : n ≤ 1000) (hg : G < w.heap.size) {B : Nat} (hB : B ≤ G) :
    Calls Try.prog 38 #[.slice (some ⟨G, 0, none⟩) n c] w fun e w' => e = .returned (.tuple #[]) ∧ VAt w' G (rs l.reverse) ∧ G < w'.heap.size ∧ Below B w w' := by
  obtain ⟨N, hN⟩ : ∃ N, n = N + 1 := ⟨n - 1, by omega⟩
  have e1 : (n : Int) - 1 = (N : Int) := by omega
  have h0 := Lib.hid (show VAt w G (rs (rv l 0)) by rw [rv_zero]; exact hat)
  have hgh := Lib.hid hg
  have hlh := Lib.hid hl
  have hNh := Lib.hid hN
  have hN2 : N ≤ 1000 := by omega
  clear hat hg hl hN
  go_enter Try.func38, Try.ntmps38
  go_wp2
  go_loopw [2, 3] (fun a b wr => ∃ k J : Nat, Hid (k + J + 1 = n) ∧ k ≤ n ∧ J ≤ N ∧ a = .int .i64 k ∧ b = .int .i64 J ∧ Hid (VAt wr G (rs (rv l k))) ∧ Hid (G < wr.heap.size) ∧ Below B w wr) (fun _ b _ => (intOf b).toNat)
  case atStart => exact ⟨0, N, Lib.hid (by have := hNh.out; omega), Nat.zero_le _, Nat.le_refl _, rfl, rfl, h0, hgh, Below.refl _ _⟩
  case round =>
    clear h0 hgh
    obtain ⟨k, J, hkJ, hkn, hJN, rfl, rfl, hat, hgl, hb⟩ := hrel
    have hkl : k + J + 1 = l.length := by rw [hlh.out]; exact hkJ.out
    by_cases hlt : k < J
    · obtain ⟨s1, s2⟩ := rv_at hkl hlt
      have s3 := rv_step hkl hlt
      obtain ⟨hn1, hf1⟩ := VAt.readR hat.out (k := k) (by rw [rv_len]; omega)
      obtain ⟨hn2, hf2⟩ := VAt.readR hat.out (k := J) (by rw [rv_len]; omega)
      rw [s1] at hn1
      rw [s2] at hn2
      obtain ⟨X, hX⟩ : ∃ X, l.getD k 0 = X := ⟨_, rfl⟩
      obtain ⟨Y, hY⟩ : ∃ Y, l.getD J 0 = Y := ⟨_, rfl⟩
      rw [hX] at hn1 s3
      rw [hY] at hn2 s3
      have hat2 := Lib.hid (show VAt ((wr.setCell ⟨G, k, none⟩ (bv Y)).setCell ⟨G, J, none⟩ (bv X)).drew G (rs (rv l (k + 1))) by
        have := (VAt.setR (VAt.setR hat.out (k := k) (by rw [rv_len]; omega) Y) (k := J) (by rw [List.length_set, rv_len]; omega) X).drew
        rw [s3] at this
        exact this)
      have hgl2 := Lib.hid (show G < ((wr.setCell ⟨G, k, none⟩ (bv Y)).setCell ⟨G, J, none⟩ (bv X)).drew.heap.size by simpa using hgl.out)
      have hb2 := ((hb.setCell (p := ⟨G, k, none⟩) hB (bv Y)).setCell (p := ⟨G, J, none⟩) hB (bv X)).drew
      obtain ⟨J', hJ'⟩ : ∃ J', J = J' + 1 := ⟨J - 1, by omega⟩
      have d0 : (k : Int) < (J : Int) := by omega
      have k0 : (0 : Int) ≤ (k : Int) := by omega
      have k1 : (k : Int) < (n : Int) := by rw [hlh.out] at hkl; omega
      have J0 : (0 : Int) ≤ (J : Int) := by omega
      have J1 : (J : Int) < (n : Int) := by rw [hlh.out] at hkl; omega
      have e2 : (J : Int) - 1 = (J' : Int) := by omega
      have hJh := Lib.hid hJ'
      clear hat hgl s1 s2 s3 hX hY hkl hJ' hb
      go_wp2
      go_region
      go_wp2
      go_roundw
      case rel => exact ⟨k + 1, J', Lib.hid (by have := hkJ.out; have := hJh.out; omega), by have := hkJ.out; omega, by have := hJh.out; omega, by go_num, rfl, hat2, hgl2, hb2⟩
      case measure => simp [intOf]; have := hJh.out; omega
    · have d0 : ¬ (k : Int) < (J : Int) := by omega
      have hfin := Lib.hid (rv_done hkl hlt)
      clear hkl
      go_wp2
      go_end0
      exact ⟨rfl, by rw [← hfin.out]; exact hat.out, hgl.out, hb⟩

theorem ne_own (x : R) (w : World) : Calls Try.prog 36 #[bv x] w fun e w' => e = .returned (.bool (!(x == 0#8))) ∧ w = w' := by
  have t1 := G6.nz_el x
  obtain ⟨B, hB⟩ : ∃ B, (!(x == 0#8)) = B := ⟨_, rfl⟩
  rw [hB] at t1 ⊢
  clear hB
  go_enter Try.func36, Try.ntmps36
  go_wp2
  go_ret
  exact ⟨rfl, rfl⟩
/-- The place of the first element that is not zero, or -1. -/
def Fst (l : List R) (w : World) (e : Ending) (w' : World) : Prop := ∃ n : Int, e = .returned (.int .i64 n) ∧ decide (0 ≤ n) = !(l.all (· == 0)) ∧ w = w'
set_option maxHeartbeats 1000000 in
theorem idx_own {A : Option Addr} {n c : Nat} {l : List R} {w : World} (h : IsSl w A c l) (hl : l.length = n) (hn : n ≤ 1000) :
    Calls Try.prog 61 #[.slice A n c, .func (.func 36) #[] #[]] w (Fst l w) := by
  have hsh := Lib.hid h
  have hlh := Lib.hid hl
  clear h hl
  go_enter Try.func61, Try.ntmps61
  go_wp2
  go_loop [8] (fun a => ∃ k : Nat, k ≤ n ∧ a = .int .i64 k ∧ Hid (∀ x ∈ l.take k, x = 0)) (fun a => n - (intOf a).toNat)
  case atStart => exact ⟨0, Nat.zero_le _, rfl, Lib.hid (fun x h => by simp at h)⟩
  case round =>
    obtain ⟨k, hk, rfl, hz⟩ := hrel
    by_cases hlt : k < n
    · obtain ⟨b, o, rfl, hb, hc⟩ := hsh.out.read k (by rw [hlh.out]; exact hlt)
      have hts := G6.take_snoc l k (by rw [hlh.out]; exact hlt)
      have hmem : l.getD k 0 ∈ l := by
        rw [List.getD_eq_getElem?_getD, List.getElem?_eq_getElem (by rw [hlh.out]; exact hlt)]
        exact List.getElem_mem _
      obtain ⟨X, hX⟩ : ∃ X, l.getD k 0 = X := ⟨_, rfl⟩
      rw [hX] at hc hts hmem
      have cN := ne_own X w
      have d0 : (k : Int) < (n : Int) := by omega
      have d1 : decide (k < n) = true := decide_eq_true hlt
      have k0 : (0 : Int) ≤ (k : Int) := by omega
      rcases he : X == 0#8 with _ | _
      · rw [he] at cN
        have hal := Lib.hid (show l.all (· == 0) = false by
          rw [List.all_eq_false]
          exact ⟨X, hmem, by rw [show (X == 0) = false from he]; simp⟩)
        have cN := Lib.hid cN
        clear hX hts he hmem
        go_wp2_with fail
        refine cN.out.mono ?_
        rintro e w1 ⟨rfl, rfl⟩
        go_wp2
        go_ret
        exact ⟨_, rfl, by rw [hal.out]; exact decide_eq_true k0, rfl⟩
      · rw [he] at cN
        have hz2 := Lib.hid (show ∀ x ∈ l.take (k + 1), x = 0 by
          intro x hx
          rw [hts] at hx
          rcases List.mem_append.1 hx with h | h
          · exact hz.out x h
          · rw [List.mem_singleton.1 h]
            simpa using he)
        have cN := Lib.hid cN
        clear hX hts he hmem
        go_wp2_with fail
        refine cN.out.mono ?_
        rintro e w1 ⟨rfl, rfl⟩
        go_wp2
        go_round
        case rel => exact ⟨k + 1, by omega, by go_num, hz2⟩
        case measure => simp [intOf]; omega
    · have hal := Lib.hid (show l.all (· == 0) = true by
        rw [List.all_eq_true]
        intro x hx
        have := hz.out x (by rw [List.take_of_length_le (by rw [hlh.out]; omega)]; exact hx)
        rw [this]
        rfl)
      have d0 : ¬ (k : Int) < (n : Int) := by omega
      have d1 : decide (k < n) = false := decide_eq_false hlt
      go_wp2
      go_ret
      exact ⟨_, rfl, by rw [hal.out]; rfl, rfl⟩
theorem has_own {A : Option Addr} {n c : Nat} {l : List R} {w : World} (h : IsSl w A c l) (hl : l.length = n) (hn : n ≤ 1000) :
    Calls Try.prog 35 #[.slice A n c, .func (.func 36) #[] #[]] w fun e w' => e = .returned (.bool (!(l.all (· == 0)))) ∧ w = w' := by
  have cI := Lib.hid (idx_own h hl hn)
  obtain ⟨B, hB⟩ : ∃ B, (!(l.all (· == 0))) = B := ⟨_, rfl⟩
  have hBh := Lib.hid hB
  rw [hB]
  clear h hl hB
  go_enter Try.func35, Try.ntmps35
  go_wp2_with fail
  refine cI.out.mono ?_
  rintro e w1 ⟨i, rfl, hi, rfl⟩
  rw [hBh.out] at hi
  go_wp2
  go_ret
  exact ⟨rfl, rfl⟩
end Go.Proofs.Ytkobcffkgaodbaa.G7
