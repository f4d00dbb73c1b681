/- The walk of the law LayoutConcatenation. -/
import Derived.Test.YtcfoclmkhippoaaL16Open
import Derived.Test.YtcfoclmkhippoaaL16Lp
import Derived.Test.YtcfoclmkhippoaaL16Ref2
import Derived.Test.YtcfoclmkhippoaaApGd
namespace Go.Proofs.Ytcfoclmkhippoaa.L16
set_option maxRecDepth 100000
open Go.RowKit Mem
open Go.Proofs.Ytcfoclmkhippoaa.G5 Go.Proofs.Ytcfoclmkhippoaa.G7 Go.Proofs.Ytcfoclmkhippoaa.E15
set_option linter.unusedVariables false
set_option linter.unusedSimpArgs false

theorem el_app (a b : ByteArray) : el (a ++ b) = el a ++ el b := by
  unfold el
  rw [ByteArray.data_append, Array.toList_append, List.map_append]
theorem sts_cat {n S t : Nat} {X b : ByteArray} (h : 0 < n) (hX : X.size = t * (28 * n)) : sts n S (el (X ++ b)) = sts n S (el X) ++ sts n S (el b) := by
  rw [el_app]
  exact sts_app h (by rw [el_len]; exact hX)
theorem sts_16 {n S : Nat} (x : List R) : ∀ s ∈ sts n S x, s.length = n + S := fun s hs => by
  obtain ⟨t, _, rfl⟩ := List.mem_map.1 hs
  exact stp_len _ _ _ _
theorem guard3 {D S K : Int} {p q : Nat} (hK : ChkQ D S K) (h : ¬ (Lok D S ∧ p ≤ 600 ∧ q ≤ 600)) :
    (K != 0) = true ∨ ((K != 0) = false ∧ decide ((600 : Int) < (p : Int)) = true ∧ decide (600 < p) = true) ∨ ((K != 0) = false ∧ decide ((600 : Int) < (p : Int)) = false ∧ decide (600 < p) = false ∧ decide ((600 : Int) < (q : Int)) = true ∧ decide (600 < q) = true) := by
  rcases hK with ⟨rfl, hL⟩ | ⟨rfl, hL⟩
  · right
    by_cases h1 : 600 < p
    · exact Or.inl ⟨rfl, decide_eq_true (by omega), decide_eq_true h1⟩
    · exact Or.inr ⟨rfl, decide_eq_false (by omega), decide_eq_false h1, decide_eq_true (by have : ¬ q ≤ 600 := fun h' => h ⟨hL, by omega, h'⟩; omega), decide_eq_true (by have : ¬ q ≤ 600 := fun h' => h ⟨hL, by omega, h'⟩; omega)⟩
  · exact Or.inl rfl
set_option maxHeartbeats 8000000 in
theorem walk_concatenation (D S : Int) (a b : ByteArray) (w : World) (ha63 : a.size ≤ 140737488351232) (hb63 : b.size ≤ 140737488351232) :
    Calls Try.prog 9 #[lyV D S, .string a, .string b] w fun e w' => e = .returned (.bool true) ∧ Below w.heap.size w w' := by
  have cA := fun W => alive_any W
  have hP := LB.new w D S 23
  obtain ⟨W0, hW0⟩ : ∃ W0, w.alloc (.cells #[.int .i64 D, .int .i64 S] 23) = W0 := ⟨_, rfl⟩
  rw [hW0] at hP
  obtain ⟨G, hG⟩ : ∃ A, w.heap.size = A := ⟨_, rfl⟩
  rw [hG] at hP
  have hGh := Lib.hid hG
  obtain ⟨K, c5, hK⟩ := chk_one D S
  replace cA := Lib.hid cA
  replace c5 := Lib.hid c5
  replace hP := Lib.hid hP
  unfold lyV
  by_cases hin : Lok D S ∧ a.size ≤ 600 ∧ b.size ≤ 600
  · obtain ⟨hL, ha, hb⟩ := hin
    obtain rfl : K = 0 := by
      rcases hK with h | h
      · exact h.1
      · exact absurd hL h.2
    obtain ⟨n, rfl⟩ := Int.eq_ofNat_of_zero_le (show 0 ≤ D by have := hL.1; omega)
    obtain ⟨m, rfl⟩ := Int.eq_ofNat_of_zero_le hL.2.2.1
    have n1 : 1 ≤ n := by have := hL.1; omega
    have n8 : n ≤ 8 := by have := hL.2.1; omega
    have d1 : decide ((600 : Int) < (a.size : Int)) = false := decide_eq_false (by omega)
    have d2 : decide (600 < a.size) = false := decide_eq_false (by omega)
    have d3 : decide ((600 : Int) < (b.size : Int)) = false := decide_eq_false (by omega)
    have d4 : decide (600 < b.size) = false := decide_eq_false (by omega)
    obtain ⟨z, hz⟩ : ∃ z, 28 * n = z := ⟨_, rfl⟩
    have ez : 28 * (n : Int) = (z : Int) := by omega
    obtain ⟨q, hq⟩ : ∃ q, a.size % z = q := ⟨_, rfl⟩
    have eq1 : (a.size : Int) % (z : Int) = (q : Int) := by rw [← hq]; rfl
    have eq2 : (a.size : Int).tmod (z : Int) = (q : Int) := by rw [← eq1]; exact Int.tmod_eq_emod_of_nonneg (by omega)
    have hqa : q ≤ a.size := by rw [← hq]; exact Nat.mod_le _ _
    obtain ⟨t, ht⟩ : ∃ t, a.size / z = t := ⟨_, rfl⟩
    have hdm := Nat.div_add_mod a.size z
    rw [hq, ht, Nat.mul_comm] at hdm
    obtain ⟨Y, hY⟩ : ∃ Y, a.size - q = Y := ⟨_, rfl⟩
    have eY : (a.size : Int) - (q : Int) = (Y : Int) := by omega
    have Y0 : (0 : Int) ≤ (Y : Int) := by omega
    have Y1 : (Y : Int) ≤ (a.size : Int) := by omega
    have Y2 : Y ≤ a.size := by omega
    have hXs : (a.extract 0 Y).size = t * (28 * n) := by rw [ByteArray.size_extract, hz]; omega
    have hXs2 : (a.extract 0 Y).size ≤ 600 := by rw [ByteArray.size_extract]; omega
    obtain ⟨X, hX⟩ : ∃ X, a.extract 0 Y = X := ⟨_, rfl⟩
    rw [hX] at hXs hXs2
    have hcat := sts_cat (S := m) (b := b) (by omega) hXs
    have nz1 : ¬ (z : Int) = 0 := by omega
    have nz2 : ((z : Int) == 0) = false := beq_eq_false_iff_ne.2 nz1
    have nz3 : ¬ z = 0 := by omega
    have as1 : (a.size : Int) ≤ 600 := by omega
    have bs1 : (b.size : Int) ≤ 600 := by omega
    have xs1 : (X.size : Int) ≤ 600 := by omega
    have z224 : (z : Int) ≤ 224 := by omega
    have q0 : (0 : Int) ≤ (q : Int) := by omega
    have nn8 : (n : Int) ≤ 8 := by omega
    obtain ⟨Z, hZ⟩ : ∃ Z, X ++ b = Z := ⟨_, rfl⟩
    have hZs : Z.size ≤ 1200 := by rw [← hZ, ByteArray.size_append]; omega
    rw [hZ] at hcat
    have s3 : ¬ 9223372036854775807 < X.size + b.size := by omega
    have c1 := fun W => sts_own (n : Int) (m : Int) X (by omega) W
    have c2 := fun W => sts_own (n : Int) (m : Int) b (by omega) W
    have c3 := fun W => sts_own (n : Int) (m : Int) Z (by omega) W
    have l1 : (sts n m (el X)).length ≤ 1200 := by rw [sts_len]; exact Nat.le_trans (cnt_le (by omega)) (by rw [el_len]; omega)
    have l2 : (sts n m (el b)).length ≤ 1200 := by rw [sts_len]; exact Nat.le_trans (cnt_le (by omega)) (by rw [el_len]; omega)
    have l3 : (sts n m (el Z)).length ≤ 2400 := by rw [hcat, List.length_append]; omega
    have hok := fun x k L (h : StsQ (n : Int) (m : Int) x k L) => stsq_ok hL h
    have h16 := fun (x : List R) => show ∀ s ∈ sts n m x, s.length ≤ 1000 from fun s hs => by rw [sts_16 x s hs]; have := hL.2.2.2; omega
    obtain ⟨i0, hi, hi0, hi1, hi2⟩ := info_parts info_strs
    unfold lyV at c1 c2 c3
    replace c1 := Lib.hid c1
    replace c2 := Lib.hid c2
    replace c3 := Lib.hid c3
    replace l1 := Lib.hid l1
    replace l2 := Lib.hid l2
    replace l3 := Lib.hid l3
    replace hok := Lib.hid hok
    replace h16 := Lib.hid h16
    replace hcat := Lib.hid hcat
    clear hK hL ha hb hq ht hdm hY hXs hXs2 hZs hz
    go_enter Try.func9, Try.ntmps9
    go_wp2_with fail
    refine (cA.out _).mono ?_
    rintro e w1 ⟨rfl, hb1⟩
    replace hP := Lib.hid (hP.out.next hb1)
    clear hW0 hb1
    have x0 := hP.out.c0
    have x1 := hP.out.c1
    go_wp2_with fail
    refine (c5.out _).mono ?_
    rintro e w2 ⟨rfl, hb2⟩
    replace hP := Lib.hid (hP.out.next hb2)
    clear x0 x1 hb2 c5
    have x0 := hP.out.c0
    have x1 := hP.out.c1
    go_wp2_with fail
    refine (c1.out _).mono ?_
    rintro e w3 ⟨k1, L1, A1, m1, hq1, rfl, hI1, hb3⟩
    obtain ⟨rfl, rfl⟩ := hok.out _ _ _ hq1
    replace hP := Lib.hid (hP.out.next hb3)
    replace hI1 := Lib.hid hI1
    clear x0 x1 hb3 hq1 c1 hX eq1 eq2 eY Y0 Y1 Y2 hqa
    have x0 := hP.out.c0
    have x1 := hP.out.c1
    go_wp2_with fail
    refine (c2.out _).mono ?_
    rintro e w4 ⟨k2, L2, A2, m2, hq2, rfl, hI2, hb4⟩
    obtain ⟨rfl, rfl⟩ := hok.out _ _ _ hq2
    replace hP := Lib.hid (hP.out.next hb4)
    replace hI1 := Lib.hid (hI1.out.below hb4)
    replace hI2 := Lib.hid hI2
    clear x0 x1 hb4 hq2 c2
    have x0 := hP.out.c0
    have x1 := hP.out.c1
    go_wp2_with fail
    refine (c3.out _).mono ?_
    rintro e w5 ⟨k3, L3, A3, m3, hq3, rfl, hI3, hb5⟩
    obtain ⟨rfl, rfl⟩ := hok.out _ _ _ hq3
    replace hP := Lib.hid (hP.out.next hb5)
    replace hI1 := hI1.out.below hb5
    replace hI2 := hI2.out.below hb5
    obtain ⟨vs1, hv1, hr1⟩ := hI1.rd
    obtain ⟨vs2, hv2, hr2⟩ := hI2.rd
    have hn1 := hI1.nil
    have hn2 := hI2.nil
    obtain ⟨N1, hN1⟩ : ∃ N, (sts n m (el X)).length = N := ⟨_, rfl⟩
    obtain ⟨N2, hN2⟩ : ∃ N, (sts n m (el b)).length = N := ⟨_, rfl⟩
    obtain ⟨N3, hN3⟩ : ∃ N, (sts n m (el Z)).length = N := ⟨_, rfl⟩
    rw [hN1] at l1
    rw [hN2] at l2
    rw [hN3] at l3
    have ll1 := l1.out
    have ll2 := l2.out
    have hl1 : vs1.length = N1 := by rw [hv1.len, hN1]
    have hl2 : vs2.length = N2 := by rw [hv2.len, hN2]
    have ho1 := hv1.one
    have ho2 := hv2.one
    have h31 : N1 ≤ maxLen := by unfold maxLen; omega
    have h32 : N1 + N2 ≤ maxLen := by unfold maxLen; omega
    have h41 : (0 + N1) * 24 ≤ 140737488355328 := by omega
    have h42 : (0 + N1 + N2) * 24 ≤ 140737488355328 := by omega
    have hown0 : (w5.alloc (.cells #[] 39)).ownsRow w5.heap.size 39 1 (.slice (some ⟨w5.heap.size, 0, none⟩) 0 0) 0 [] := empty_at rfl (Nat.le_refl _)
    have hbel0 := boxed w5 (.cells #[] 39)
    have hr1' := hr1.below hbel0
    have hsz0 := hbel0.size
    rw [hN1] at hI1
    rw [hN2] at hI2
    rw [hN3] at hI3
    rw [hN1, hN2, hN3]
    replace hI3 := Lib.hid hI3
    replace hv1 := Lib.hid hv1
    replace hv2 := Lib.hid hv2
    replace hr2 := Lib.hid hr2
    replace hr1' := Lib.hid hr1'
    replace hown0 := Lib.hid hown0
    replace hbel0 := Lib.hid hbel0
    replace ho1 := Lib.hid ho1
    replace ho2 := Lib.hid ho2
    replace hl1 := Lib.hid hl1
    replace hl2 := Lib.hid hl2
    replace hn1 := Lib.hid hn1
    replace hn2 := Lib.hid hn2
    clear x0 x1 hb5 hq3 c3 hI1 hI2 hr1 hN1 hN2 l1 l2
    go_wp2_with (first
      | (at_builtin; refine wpList_append_gd (by rfl) _ _ 34 rfl w5.heap.size 39 i0 (.slice none 0 0) 24 Try.underlying34 hi hi0 hi1 hi2 rfl _ 0 _ rfl hown0.out A1 N1 m1 vs1 rfl hr1'.out hl1.out hn1.out ho1.out (by rw [Nat.zero_add]; exact h31) h41 hsz0 ?_; intro v6 w6 hown6 hgrow6; have hbel6 := hbel0.out.grown hgrow6 hsz0 (fun j hj => (hown0.out.lt j hj).1); have hr2'' := hr2.out.below (chainN hbel6 0))
      | (at_builtin; refine wpList_append_gd (by rfl) _ _ 34 rfl w5.heap.size 39 i0 (.slice none 0 0) 24 Try.underlying34 hi hi0 hi1 hi2 rfl _ (0 + N1) _ rfl hown6 A2 N2 m2 vs2 rfl hr2'' hl2.out hn2.out ho2.out (by rw [Nat.zero_add]; exact h32) h42 hbel6.size ?_; intro v7 w7 hown7 hgrow7; have hbel7 := hbel6.grown hgrow7 hbel6.size (fun j hj => (hown6.lt j hj).1)))
    rw [List.nil_append] at hown7
    have hss := (hv1.out.below hbel7).app (hv2.out.below hbel7)
    obtain ⟨hl7, A7, c7, rfl, hI7⟩ := IsSS.of_own hown7 hss
    have ll3 := l3.out
    have cS := ssame_any (hI3.out.below hbel7) hI7 (by omega) (by omega) (h16.out _)
    have hfin := Lib.hid (hP.out.next hbel7).bel
    replace cS := Lib.hid cS
    clear hown7 hgrow7 hss hl7 hI7 hbel7 hown6 hgrow6 hbel6 hr2'' hP hv1 hv2 hI3 h16 hok
    go_wp2_with fail
    refine (cS.out).mono ?_
    rintro e w8 ⟨⟨r, rfl, hr⟩, q8, rfl⟩
    obtain rfl := hr.2 hcat.out
    have hf2 := Lib.hid (chainN hfin.out q8)
    clear hr cS hfin
    go_wp2
    go_ret
    exact ⟨rfl, hf2.out⟩
  · have hor := guard3 hK hin
    clear hK hin
    rcases hor with t1 | ⟨t1, t2, t3⟩ | ⟨t1, t2, t3, t4, t5⟩
    all_goals
      go_enter Try.func9, Try.ntmps9
      go_wp2_with fail
      refine (cA.out _).mono ?_
      rintro e w1 ⟨rfl, hb1⟩
      replace hP := Lib.hid (hP.out.next hb1)
      clear hW0 hb1
      have x0 := hP.out.c0
      have x1 := hP.out.c1
      go_wp2_with fail
      refine (c5.out _).mono ?_
      rintro e w2 ⟨rfl, hb2⟩
      have hfin := Lib.hid (hP.out.next hb2).bel
      clear x0 x1 hb2 hP
      go_wp2
      go_ret
      exact ⟨rfl, hfin.out⟩
/-- The same at what the reading says. -/
theorem row_concatenation (D S : Int) (a b : ByteArray) (w : World) (hD : (Lit.int .i64 D).wf = true) (hS : (Lit.int .i64 S).wf = true) (ha : a.size ≤ 140737488351232) (hb : b.size ≤ 140737488351232) : Calls Try.prog 9 #[lyV D S, .string a, .string b] w fun e w' => e = .returned (.bool true) ∧ Below w.heap.size w w' := by
  exact walk_concatenation D S a b w ha hb
end Go.Proofs.Ytcfoclmkhippoaa.L16
