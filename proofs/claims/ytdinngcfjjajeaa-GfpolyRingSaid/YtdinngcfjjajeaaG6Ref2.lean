/- The contracts of the reference's functions of layer 6: Derivative, scale, Mul. -/
import Derived.Test.YtdinngcfjjajeaaG6Ref1
namespace Go.Proofs.Ytdinngcfjjajeaa.G6
open Go.Proofs.Ytdinngcfjjajeaa.G5
open Go.RowKit Mem
set_option linter.unusedVariables false
set_option linter.unusedSimpArgs false

set_option maxHeartbeats 2000000 in
theorem rder_any {A : Option Addr} {c : Nat} {p : List R} {w : World} (h : IsSl w A c p) (hp : p.length ≤ 1000) :
    Calls Try.prog 20 #[.slice A p.length c] w (Gives w (derL p)) := by
  obtain ⟨i0, hi, hz0, hz1, hz2⟩ := info_parts info_byte
  have hph := Lib.hid h
  clear h
  have hdl := Lib.hid (de_len p)
  go_enter Try.func20, Try.ntmps20
  go_wp2
  go_loopw [3, 4] (fun v i wr => ∃ k n : Nat, k ≤ 1000 ∧ Hid (n = k + 1) ∧ Hid (k ≤ (de p).length) ∧ i = .int .i64 n ∧ wr.ownsRow w.heap.size 5 1 v k (rs ((de p).take k)) ∧ Below w.heap.size w wr) (fun _ i _ => 2000 - (intOf i).toNat)
  case atStart => exact ⟨0, 1, Nat.zero_le _, Lib.hid rfl, Lib.hid (Nat.zero_le _), rfl, empty_at rfl (Nat.le_refl _), (Below.refl _ _).alloc (Nat.le_refl _) _⟩
  case round =>
    obtain ⟨k, n, hk, hn, hka, rfl, hown, hb⟩ := hrel
    by_cases hlt : n < p.length
    · have hkl : k < (de p).length := by have := hdl.out; have := hn.out; omega
      have hts := Lib.hid (take_snoc (de p) k hkl)
      have hk1 : k < 999 := by have := hdl.out; omega
      have hkn := Lib.hid (show k + 1 ≤ (de p).length from hkl)
      have hn1 := Lib.hid (show n + 1 = k + 1 + 1 by have := hn.out; omega)
      have hnb : n ≤ 1000 := by omega
      clear hkl
      have hts := hts.out
      rw [de_get, ← hn.out] at hts
      obtain ⟨b, o, rfl, hbl, hc⟩ := (hph.out.below hb).read n hlt
      obtain ⟨X, hX⟩ : ∃ X, p.getD n 0 = X := ⟨_, rfl⟩
      rw [hX] at hc hts
      clear hX
      rcases Nat.mod_two_eq_zero_or_one n with hm | hm
      · rw [if_neg (by omega)] at hts
        have hts : (de p).take n = (de p).take k ++ [0#8] := hts
        have hts := Lib.hid hts
        have t1 : (n : Int) % 2 = 0 := by omega
        clear hm
        go_wp2_with (at_builtin; refine wpList_append_own _ rfl _ _ 22 rfl w.heap.size 5 i0 (.int .u8 0) 1 1 Try.underlying22 hi hz0 hz1 hz2 rfl (by decide) _ _ _ rfl (hown.alloc _) ⟨wr.heap.size, 0, none⟩ 1 1 [bv 0#8] rfl rfl (one_new _ _ _) (one_cell _ _) (by unfold maxLen; omega) (by omega) (by have := hb.size; simp; omega) ?_)
        intro v' w1 hown1 hgrow1 _
        rw [← rs_snoc, ← hts.out] at hown1
        have hb1 : Below w.heap.size w w1 := (hb.alloc hb.size _).grown hgrow1 (by have := hb.size; simp; omega) (fun j hj => (hown.lt j hj).1)
        clear hown hb hgrow1
        go_wp2
        go_roundw
        case rel => exact ⟨k + 1, n + 1, by omega, hn1, hkn, by go_num, by have h := hown1; rw [hn.out] at h; exact h, hb1⟩
        case measure => simp [intOf]; omega
      · rw [if_pos (by omega)] at hts
        have hts := Lib.hid hts
        have t1 : (n : Int) % 2 = 1 := by omega
        clear hm
        go_wp2_with (at_builtin; refine wpList_append_own _ rfl _ _ 22 rfl w.heap.size 5 i0 (.int .u8 0) 1 1 Try.underlying22 hi hz0 hz1 hz2 rfl (by decide) _ _ _ rfl (hown.alloc _) ⟨wr.heap.size, 0, none⟩ 1 1 [bv X] rfl rfl (one_new _ _ _) (one_cell _ _) (by unfold maxLen; omega) (by omega) (by have := hb.size; simp; omega) ?_)
        intro v' w1 hown1 hgrow1 _
        rw [← rs_snoc, ← hts.out] at hown1
        have hb1 : Below w.heap.size w w1 := (hb.alloc hb.size _).grown hgrow1 (by have := hb.size; simp; omega) (fun j hj => (hown.lt j hj).1)
        clear hown hb hgrow1
        go_wp2
        go_roundw
        case rel => exact ⟨k + 1, n + 1, by omega, hn1, hkn, by go_num, by have h := hown1; rw [hn.out] at h; exact h, hb1⟩
        case measure => simp [intOf]; omega
    · have hke : (de p).length = k := by have := hka.out; have := hdl.out; have := hn.out; omega
      rw [List.take_of_length_le (by omega)] at hown
      obtain ⟨A', c', rfl, _, _⟩ := own_slice hown
      obtain ⟨hsl, hlen⟩ := IsSl.of_own hown
      have c1 := rtrim_any hsl (by omega)
      rw [hke] at c1
      have c1 := Lib.hid c1
      clear hown hsl hlen hke
      go_wp2_with fail
      refine c1.out.mono ?_
      rintro e w1 ⟨A2, d2, rfl, hs2, hb2⟩
      go_wp2
      go_ret
      exact ⟨A2, d2, rfl, hs2, chain hb hb2⟩

/-! ### scale -/
def scL (p : List R) (c : R) (k : Nat) : List R := trim (List.replicate k 0#8 ++ sc c p)
theorem scL_tr (p : List R) (c : R) (k : Nat) : Tr (scL p c k) := trim_trim _
theorem scL_len (p : List R) (c : R) (k : Nat) : (scL p c k).length ≤ k + p.length := by
  have := trim_len (List.replicate k 0#8 ++ sc c p)
  rw [List.length_append, List.length_replicate, sc_len] at this
  exact this
theorem ev_scL (p : List R) (c : R) (k : Nat) (x : R) : ev (scL p c k) x = tms (pw x k) (tms c (ev p x)) := by rw [scL, ev_trim, show ev (List.replicate k 0#8 ++ sc c p) x = tms (pw x k) (ev (sc c p) x) from ev_shift k (sc c p) x, ev_sc]
theorem sc_take (c : R) (p : List R) (j : Nat) (h : j < p.length) : sc c (p.take (j + 1)) = sc c (p.take j) ++ [tms c (p.getD j 0)] := by
  rw [take_snoc p j h]
  simp [sc]

set_option maxHeartbeats 2000000 in
theorem rscale_any {A : Option Addr} {d : Nat} {p : List R} {w : World} (h : IsSl w A d p) (hp : p.length ≤ 1000) (c : R) (k : Nat) (hk : k ≤ 1000) :
    Calls Try.prog 37 #[.slice A p.length d, bv c, .int .i64 (k : Int)] w (Gives w (scL p c k)) := by
  obtain ⟨i0, hi, hz0, hz1, hz2⟩ := info_parts info_byte
  have hph := Lib.hid h
  clear h
  have hmk := make_zeros w k (by omega)
  have hoz := own_zeros w k (by omega)
  go_enter Try.func37, Try.ntmps37
  go_wp2
  clear hmk
  go_loopw [7, 8] (fun v i wr => ∃ j n : Nat, j ≤ 1000 ∧ n ≤ 2000 ∧ Hid (n = k + j) ∧ Hid (j ≤ p.length) ∧ i = .int .i64 j ∧ wr.ownsRow w.heap.size 5 1 v n (rs (List.replicate k 0#8 ++ sc c (p.take j))) ∧ Below w.heap.size w wr) (fun _ i _ => 2000 - (intOf i).toNat)
  case atStart => exact ⟨0, k, Nat.zero_le _, by omega, Lib.hid rfl, Lib.hid (Nat.zero_le _), rfl, by simpa [sc] using hoz, (Below.refl _ _).alloc (Nat.le_refl _) _⟩
  case round =>
    obtain ⟨j, n, hj, hn, hnk, hjp, rfl, hown, hb⟩ := hrel
    by_cases hlt : j < p.length
    · have hts : List.replicate k 0#8 ++ sc c (p.take (j + 1)) = (List.replicate k 0#8 ++ sc c (p.take j)) ++ [tms c (p.getD j 0)] := by rw [sc_take c p j hlt, List.append_assoc]
      have hnn := Lib.hid (show n + 1 = k + (j + 1) by have := hnk.out; omega)
      have hn1 : n < 2000 := by have := hnk.out; omega
      have hjn := Lib.hid (show j + 1 ≤ p.length from hlt)
      obtain ⟨b, o, rfl, hbl, hc⟩ := (hph.out.below hb).read j hlt
      obtain ⟨X, hX⟩ : ∃ X, p.getD j 0 = X := ⟨_, rfl⟩
      rw [hX] at hc hts
      have c1 := rmul_any c X wr
      obtain ⟨S, hS⟩ : ∃ S, tms c X = S := ⟨_, rfl⟩
      rw [hS] at c1 hts
      have c1 := Lib.hid c1
      have hts := Lib.hid hts
      clear hX hS
      go_wp2_with fail
      refine c1.out.mono ?_
      rintro e w1 ⟨rfl, rfl⟩
      go_wp2_with (at_builtin; refine wpList_append_own _ rfl _ _ 22 rfl w.heap.size 5 i0 (.int .u8 0) 1 1 Try.underlying22 hi hz0 hz1 hz2 rfl (by decide) _ _ _ rfl (hown.alloc _) ⟨wr.heap.size, 0, none⟩ 1 1 [bv S] rfl rfl (one_new _ _ _) (one_cell _ _) (by unfold maxLen; omega) (by omega) (by have := hb.size; simp; omega) ?_)
      intro v' w1 hown1 hgrow1 _
      rw [← rs_snoc, ← hts.out] at hown1
      have hb1 : Below w.heap.size w w1 := (hb.alloc hb.size _).grown hgrow1 (by have := hb.size; simp; omega) (fun j hj => (hown.lt j hj).1)
      clear hown hb hgrow1
      go_wp2
      go_roundw
      case rel => exact ⟨j + 1, n + 1, by omega, by omega, hnn, hjn, by go_num, hown1, hb1⟩
      case measure => simp [intOf]; omega
    · have hke : (List.replicate k 0#8 ++ sc c p).length = n := by rw [List.length_append, List.length_replicate, sc_len]; have := hnk.out; have := hjp.out; omega
      rw [List.take_of_length_le (by omega)] at hown
      obtain ⟨A', c', rfl, _, _⟩ := own_slice hown
      obtain ⟨hsl, hlen⟩ := IsSl.of_own hown
      have c1 := rtrim_any hsl (by omega)
      rw [hke] at c1
      have c1 := Lib.hid c1
      clear hown hsl hlen hke
      go_wp2_with fail
      refine c1.out.mono ?_
      rintro e w1 ⟨A2, d2, rfl, hs2, hb2⟩
      go_wp2
      go_ret
      exact ⟨A2, d2, rfl, hs2, chain hb hb2⟩

/-! ### Mul -/
set_option maxHeartbeats 2000000 in
theorem rmul_poly {A B : Option Addr} {c d : Nat} {p q : List R} {w : World} (h : IsSl w A c p) (h' : IsSl w B d q) (hp : p.length + q.length ≤ 200) :
    Calls Try.prog 26 #[.slice A p.length c, .slice B q.length d] w (Gives w (mulL p q)) := by
  have hph := Lib.hid h
  have hqh := Lib.hid h'
  clear h h'
  go_enter Try.func26, Try.ntmps26
  go_wp2
  go_loopw [5, 6] (fun v i wr => ∃ (k n : Nat) (m : List R) (E : Option Addr) (f : Nat), k ≤ 200 ∧ Hid (k ≤ p.length) ∧ i = .int .i64 k ∧ v = .slice E n f ∧ Hid (m.length = n) ∧ Hid (n ≤ k + q.length) ∧ Hid (Tr m) ∧ Hid (∀ x, ev m x = tms (ev (p.take k) x) (ev q x)) ∧ Hid (IsSl wr E f m) ∧ Below w.heap.size w wr) (fun _ i _ => 400 - (intOf i).toNat)
  case atStart => exact ⟨0, 0, [], _, 0, Nat.zero_le _, Lib.hid (Nat.zero_le _), rfl, rfl, Lib.hid rfl, Lib.hid (Nat.zero_le _), Lib.hid Tr.nil, Lib.hid (fun x => by rw [List.take_zero, ev_nil, zero_tms]), Lib.hid (IsSl.made w 5 [] #[] _ 0 rfl rfl rfl (by decide)), (Below.refl _ _).alloc (Nat.le_refl _) _⟩
  case round =>
    obtain ⟨k, n, m, E, f, hk, hkp, rfl, rfl, hmn, hnk, htr, hev, hsl, hb⟩ := hrel
    by_cases hlt : k < p.length
    · have hkn := Lib.hid (show k + 1 ≤ p.length from hlt)
      have he := fun x => ev_step p k hlt x
      obtain ⟨b, o, rfl, hbl, hc⟩ := (hph.out.below hb).read k hlt
      obtain ⟨X, hX⟩ : ∃ X, p.getD k 0 = X := ⟨_, rfl⟩
      simp only [hX] at hc he
      have hlen := scL_len q X k
      have c1 := rscale_any (hqh.out.below hb) (by omega) X k (by omega)
      have hadl := addL_len m (scL q X k)
      have hval := Lib.hid (show ∀ x, ev (addL m (scL q X k)) x = tms (ev (p.take (k + 1)) x) (ev q x) from fun x => by
        rw [ev_addL, hev.out x, ev_scL, he x, tms_a, ← tms_assoc, tms_comm X])
      have hn2 : n ≤ 200 := by have := hnk.out; omega
      have c1 := Lib.hid c1
      have hlen := Lib.hid hlen
      have hadl := Lib.hid hadl
      clear hX he
      go_wp2_with fail
      refine c1.out.mono ?_
      rintro e w1 ⟨A2, d2, rfl, hs2, hb2⟩
      have c2 := radd_poly (hsl.out.below hb2) hs2 (by have := hmn.out; omega) (by have := hlen.out; omega)
      rw [hmn.out] at c2
      have c2 := Lib.hid c2
      have hl2 : (scL q X k).length ≤ 400 := by have := hlen.out; omega
      go_wp2_with fail
      refine c2.out.mono ?_
      rintro e w2 ⟨A3, d3, rfl, hs3, hb3⟩
      have hb4 : Below w.heap.size w w2 := chain (chain hb hb2) hb3
      have hs3h := Lib.hid hs3
      have hfl := Lib.hid (show (addL m (scL q X k)).length ≤ k + 1 + q.length by have := hadl.out; have := hlen.out; have := hmn.out; have := hnk.out; omega)
      clear hs3 hs2 hb2 hb3 hb
      go_wp2
      go_roundw
      case rel => exact ⟨k + 1, _, addL m (scL q X k), A3, d3, by omega, hkn, by go_num, rfl, Lib.hid rfl, hfl, Lib.hid (addL_tr _ _), hval, hs3h, hb4⟩
      case measure => simp [intOf]; omega
    · have hfin : m = mulL p q := by
        have h1 := mulL_len p q
        have h2 := hmn.out
        have h3 := hnk.out
        have h4 := hkp.out
        refine eq_ev htr.out (mulL_tr p q) (by omega) (by omega) fun x => ?_
        rw [hev.out x, ev_mulL, List.take_of_length_le (by omega)]
      have hmn' := hmn.out
      rw [hfin] at hmn'
      have hs2 := hsl.out
      rw [hfin] at hs2
      have hs2 := Lib.hid hs2
      have hmn' := Lib.hid hmn'
      clear hfin
      go_wp2
      go_ret
      exact ⟨E, f, by rw [hmn'.out]; rfl, hs2.out, hb⟩
end Go.Proofs.Ytdinngcfjjajeaa.G6
