/- The contracts of the reference's functions of layer 6: Trim, Add, Eval. -/
import Derived.Test.YtdinngcfjjajeaaG6Mem
namespace Go.Proofs.Ytdinngcfjjajeaa.G6
open Go.Proofs.Ytdinngcfjjajeaa.G5
open Go.RowKit Mem
set_option linter.unusedVariables false
set_option linter.unusedSimpArgs false

set_option maxHeartbeats 1000000 in
theorem rtrim_any {A : Option Addr} {c : Nat} {l : List R} {w : World} (h : IsSl w A c l) (hl : l.length ≤ 1000000) :
    Calls Try.prog 16 #[.slice A l.length c] w (Gives w (trim l)) := by
  obtain ⟨i0, hi, hz0, hz1, hz2⟩ := info_parts info_byte
  have hsh := Lib.hid h
  clear h
  go_enter Try.func16, Try.ntmps16
  go_wp2
  go_loop [3] (fun x => ∃ k : Nat, k ≤ l.length ∧ x = .int .i64 k ∧ Hid (trim (l.take k) = trim l)) (fun x => (intOf x).toNat)
  case atStart => exact ⟨l.length, Nat.le_refl _, rfl, Lib.hid (by rw [List.take_length])⟩
  case round =>
    obtain ⟨k, hk, rfl, ht⟩ := hrel
    cases k with
    | zero =>
      have e0 := Lib.hid (show trim l = [] by rw [← ht.out]; rfl)
      have hown0 : (w.alloc (.cells #[] 5)).ownsRow w.heap.size 5 1 (.slice (some ⟨w.heap.size, 0, none⟩) 0 0) 0 [] := empty_at rfl (Nat.le_refl _)
      have hnil := Lib.hid hsh.out.hnil
      clear ht
      go_wp2_with (at_builtin; refine wpList_append_rd rfl _ _ 22 rfl w.heap.size 5 i0 (.int .u8 0) 1 Try.underlying22 hi hz0 hz1 hz2 rfl _ 0 [] rfl hown0 _ 0 c [] rfl (fun j h => by simp at h) rfl hnil.out (fun u h => by cases h) (by unfold maxLen; omega) (by omega) (by simp) ?_)
      intro v' w1 hown hgrow
      have hb1 : Below w.heap.size w w1 := ((Below.refl _ _).alloc (Nat.le_refl _) _).grown hgrow (by simp) (fun j hj => (hown0.lt j hj).1)
      clear hgrow hown0
      go_wp2
      go_ret
      exact Gives.of_own (n := 0) (by rw [e0.out]; exact hown) hb1
    | succ j =>
      obtain ⟨b, o, rfl, hb, hc⟩ := hsh.out.read j (by omega)
      have hs := Lib.hid (take_snoc l j (by omega))
      obtain ⟨X, hX⟩ : ∃ X, l.getD j 0 = X := ⟨_, rfl⟩
      rw [hX] at hc hs
      clear hX
      have hj : (j : Int) < (l.length : Int) := by omega
      have hjc : (j : Int) + 1 ≤ (c : Int) := by have := hsh.out.hle; omega
      have hc0 : c ≠ 0 := by omega
      rcases hz : ((X.toNat : Int) == 0) with _ | _
      · have hX0 : X ≠ 0 := by
          rw [show ((X.toNat : Int) == 0) = (X == 0#8) from bv_eq1 X 0#8] at hz
          simpa using hz
        have e0 := Lib.hid (show trim l = l.take (j + 1) by rw [← ht.out, hs.out, trim_snoc hX0])
        have hown0 : (w.alloc (.cells #[] 5)).ownsRow w.heap.size 5 1 (.slice (some ⟨w.heap.size, 0, none⟩) 0 0) 0 [] := empty_at rfl (Nat.le_refl _)
        have hrd : Rd (w.alloc (.cells #[] 5)) (some ⟨b, o, none⟩) (rs (l.take (j + 1))) := (rd_take hsh.out.rd (j + 1)).below ((Below.refl _ _).alloc (Nat.le_refl _) _)
        have hlen := Lib.hid (show (rs (l.take (j + 1))).length = j + 1 by rw [rs_len, List.length_take]; omega)
        clear hX0
        go_wp2_with (at_builtin; refine wpList_append_rd rfl _ _ 22 rfl w.heap.size 5 i0 (.int .u8 0) 1 Try.underlying22 hi hz0 hz1 hz2 rfl _ 0 [] rfl hown0 _ (j + 1) c (rs (l.take (j + 1))) rfl hrd hlen.out (fun h => by cases h) (rs_one _) (by unfold maxLen; omega) (by omega) (by simp) ?_)
        intro v' w1 hown hgrow
        have hb1 : Below w.heap.size w w1 := ((Below.refl _ _).alloc (Nat.le_refl _) _).grown hgrow (by simp) (fun j hj => (hown0.lt j hj).1)
        clear hgrow hown0
        go_wp2
        go_ret
        exact Gives.of_own (n := j + 1) (by rw [e0.out]; exact hown) hb1
      · have hX0 : X = 0 := by
          rw [show ((X.toNat : Int) == 0) = (X == 0#8) from bv_eq1 X 0#8] at hz
          simpa using hz
        have ht' : Hid (trim (l.take j) = trim l) := Lib.hid (by rw [← ht.out, hs.out, hX0, trim_snoc0])
        clear hX0
        go_wp2
        go_round
        case rel => exact ⟨j, by omega, by go_num, ht'⟩
        case measure => simp [intOf]

set_option maxHeartbeats 1000000 in
theorem reval_any {A : Option Addr} {c : Nat} {l : List R} {w : World} (h : IsSl w A c l) (hl : l.length ≤ 1000000) (x : R) :
    Calls Try.prog 22 #[.slice A l.length c, bv x] w fun e w' => e = .returned (bv (ev l x)) ∧ w = w' := by
  have hsh := Lib.hid h
  clear h
  go_enter Try.func22, Try.ntmps22
  go_wp2
  go_loop [5, 6, 7] (fun s p i => ∃ k : Nat, k ≤ l.length ∧ i = .int .i64 k ∧ p = .int .u8 ((pw x k).toNat : Int) ∧ s = .int .u8 ((ev (l.take k) x).toNat : Int)) (fun _ _ i => l.length - (intOf i).toNat)
  case atStart => exact ⟨0, Nat.zero_le _, rfl, rfl, rfl⟩
  case round =>
    obtain ⟨k, hk, rfl, rfl, rfl⟩ := hrel
    by_cases hlt : k < l.length
    · obtain ⟨b, o, rfl, hb, hc⟩ := hsh.out.read k hlt
      have he := Lib.hid (ev_step l k hlt x)
      obtain ⟨X, hX⟩ : ∃ X, l.getD k 0 = X := ⟨_, rfl⟩
      rw [hX] at hc he
      obtain ⟨P, hP⟩ : ∃ P, pw x k = P := ⟨_, rfl⟩
      have hp : Hid (pw x (k + 1) = tms P x) := Lib.hid (by rw [← hP]; rfl)
      rw [hP] at he ⊢
      obtain ⟨S, hS⟩ : ∃ S, ev (l.take k) x = S := ⟨_, rfl⟩
      rw [hS] at he ⊢
      have c1 := rmul_any X P w
      have c3 := Lib.hid (rmul_any P x w)
      obtain ⟨T, hT⟩ : ∃ T, tms X P = T := ⟨_, rfl⟩
      rw [hT] at c1 he
      have c1 := Lib.hid c1
      have c2 := Lib.hid (radd_any S T w)
      have hi : (k : Int) < (l.length : Int) := by omega
      clear hX hP hS hT
      go_wp2_with fail
      refine c1.out.mono ?_
      rintro e w1 ⟨rfl, rfl⟩
      go_wp2_with fail
      refine c2.out.mono ?_
      rintro e w1 ⟨rfl, rfl⟩
      go_wp2_with fail
      refine c3.out.mono ?_
      rintro e w1 ⟨rfl, rfl⟩
      go_wp2
      go_round
      case rel => exact ⟨k + 1, by omega, by go_num, by rw [hp.out], by rw [he.out]⟩
      case measure => simp [intOf]; omega
    · have hfin := Lib.hid (show ev l x = ev (l.take k) x by rw [List.take_of_length_le (by omega : l.length ≤ k)])
      have hi : ¬ (k : Int) < (l.length : Int) := by omega
      go_wp2
      go_ret
      exact ⟨by rw [hfin.out]; rfl, rfl⟩

set_option maxHeartbeats 2000000 in
theorem radd_poly {A B : Option Addr} {c d : Nat} {p q : List R} {w : World} (h : IsSl w A c p) (h' : IsSl w B d q) (hp : p.length ≤ 1000) (hq : q.length ≤ 1000) :
    Calls Try.prog 18 #[.slice A p.length c, .slice B q.length d] w (Gives w (addL p q)) := by
  obtain ⟨i0, hi, hz0, hz1, hz2⟩ := info_parts info_byte
  have hph := Lib.hid h
  have hqh := Lib.hid h'
  clear h h'
  have hal := Lib.hid (ad_len p q)
  go_enter Try.func18, Try.ntmps18
  go_wp2
  go_loopw [5, 6] (fun v i wr => ∃ k : Nat, k ≤ 1000 ∧ Hid (k ≤ (ad p q).length) ∧ i = .int .i64 k ∧ wr.ownsRow w.heap.size 5 1 v k (rs ((ad p q).take k)) ∧ Below w.heap.size w wr) (fun _ i _ => 2000 - (intOf i).toNat)
  case atStart => exact ⟨0, Nat.zero_le _, Lib.hid (Nat.zero_le _), rfl, empty_at rfl (Nat.le_refl _), (Below.refl _ _).alloc (Nat.le_refl _) _⟩
  case round =>
    obtain ⟨k, hk, hka, rfl, hown, hb⟩ := hrel
    by_cases hlt : k < (ad p q).length
    · have hts := Lib.hid (take_snoc (ad p q) k hlt)
      have hk1 : k < 1000 := by have := hal.out; omega
      have hkn := Lib.hid (show k + 1 ≤ (ad p q).length from hlt)
      have hor : k < p.length ∨ k < q.length := by have := hal.out; omega
      clear hlt
      rw [ad_get] at hts
      have c1 := coeff_any (hph.out.below hb) k
      have c2 := coeff_any (hqh.out.below hb) k
      obtain ⟨X, hX⟩ : ∃ X, p.getD k 0 = X := ⟨_, rfl⟩
      obtain ⟨Y, hY⟩ : ∃ Y, q.getD k 0 = Y := ⟨_, rfl⟩
      rw [hX] at c1 hts
      rw [hY] at c2 hts
      have c3 := radd_any X Y wr
      obtain ⟨S, hS⟩ : ∃ S, X ^^^ Y = S := ⟨_, rfl⟩
      rw [hS] at c3 hts
      have c1 := Lib.hid c1
      have c2 := Lib.hid c2
      have c3 := Lib.hid c3
      clear hX hY hS
      by_cases hpl : k < p.length
      · have t1 : decide (k < p.length) = true := decide_eq_true (by omega)
        clear hor
        go_wp2_with fail
        refine c1.out.mono ?_
        rintro e w1 ⟨rfl, rfl⟩
        go_wp2_with fail
        refine c2.out.mono ?_
        rintro e w1 ⟨rfl, rfl⟩
        go_wp2_with fail
        refine c3.out.mono ?_
        rintro e w1 ⟨rfl, rfl⟩
        go_wp2_with (at_builtin; refine wpList_append_own _ rfl _ _ 22 rfl w.heap.size 5 i0 (.int .u8 0) 1 1 Try.underlying22 hi hz0 hz1 hz2 rfl (by decide) _ _ _ rfl (hown.alloc _) ⟨wr.heap.size, 0, none⟩ 1 1 [bv S] rfl rfl (one_new _ _ _) (one_cell _ _) (by unfold maxLen; omega) (by omega) (by have := hb.size; simp; omega) ?_)
        intro v' w1 hown1 hgrow1 _
        rw [← rs_snoc, ← hts.out] at hown1
        have hb1 : Below w.heap.size w w1 := (hb.alloc hb.size _).grown hgrow1 (by have := hb.size; simp; omega) (fun j hj => (hown.lt j hj).1)
        clear hown hb hgrow1
        go_wp2
        go_roundw
        case rel => exact ⟨k + 1, by omega, hkn, by go_num, hown1, hb1⟩
        case measure => simp [intOf]; omega
      · have t1 : decide (k < p.length) = false := decide_eq_false (by omega)
        have t2 : decide (k < q.length) = true := decide_eq_true (by omega)
        clear hor hpl
        go_wp2_with fail
        refine c1.out.mono ?_
        rintro e w1 ⟨rfl, rfl⟩
        go_wp2_with fail
        refine c2.out.mono ?_
        rintro e w1 ⟨rfl, rfl⟩
        go_wp2_with fail
        refine c3.out.mono ?_
        rintro e w1 ⟨rfl, rfl⟩
        go_wp2_with (at_builtin; refine wpList_append_own _ rfl _ _ 22 rfl w.heap.size 5 i0 (.int .u8 0) 1 1 Try.underlying22 hi hz0 hz1 hz2 rfl (by decide) _ _ _ rfl (hown.alloc _) ⟨wr.heap.size, 0, none⟩ 1 1 [bv S] rfl rfl (one_new _ _ _) (one_cell _ _) (by unfold maxLen; omega) (by omega) (by have := hb.size; simp; omega) ?_)
        intro v' w1 hown1 hgrow1 _
        rw [← rs_snoc, ← hts.out] at hown1
        have hb1 : Below w.heap.size w w1 := (hb.alloc hb.size _).grown hgrow1 (by have := hb.size; simp; omega) (fun j hj => (hown.lt j hj).1)
        clear hown hb hgrow1
        go_wp2
        go_roundw
        case rel => exact ⟨k + 1, by omega, hkn, by go_num, hown1, hb1⟩
        case measure => simp [intOf]; omega
    · have hke : (ad p q).length = k := by have := hka.out; omega
      rw [List.take_of_length_le (by omega)] at hown
      obtain ⟨A', c', rfl, _, _⟩ := own_slice hown
      obtain ⟨hsl, hlen⟩ := IsSl.of_own hown
      have c1 := rtrim_any hsl (by omega)
      rw [hke] at c1
      have c1 := Lib.hid c1
      have t1 : decide (k < p.length) = false := decide_eq_false (by have := hal.out; omega)
      have t2 : decide (k < q.length) = false := decide_eq_false (by have := hal.out; omega)
      clear hown hsl hlen hke hlt
      go_wp2_with fail
      refine c1.out.mono ?_
      rintro e w1 ⟨A2, d2, rfl, hs2, hb2⟩
      go_wp2
      go_ret
      exact ⟨A2, d2, rfl, hs2, chain hb hb2⟩
end Go.Proofs.Ytdinngcfjjajeaa.G6
