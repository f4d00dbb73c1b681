/- The contract of the reference's mix. -/
import Derived.Test.YtkppepdniehoiaaDoorB4Ref1
import Derived.Lib.Builder
import Derived.Laws.Tables
import Derived.StillTailTactics
import Derived.Laws.CopyOwn
namespace Go.Proofs.YtkppepdniehoiaaDoor.B4
open Go.RowKit Mem
set_option linter.unusedVariables false

/-- Block G is an array of words: these. -/
def Arr (t : TypeId) (w : World) (G : Nat) (l : List R) : Prop := w.heap[G]? = some (.cells (wvs l).toArray t (0, 0))
theorem wvs_get? (l : List R) (i : Nat) (h : i < l.length) : (wvs l)[i]? = some (wv (g l i)) := by
  simp [wvs, g, List.getD, h]
theorem wvs_set (l : List R) (i : Nat) (x : R) : (wvs l).set i (wv x) = wvs (l.set i x) := by simp [wvs]
theorem Arr.cell {t : TypeId} {w : World} {G : Nat} {l : List R} (h : Arr t w G l) (i : Nat) (hi : i < l.length) : w.cell? ⟨G, i, none⟩ = some (.int .u32 ((g l i).toNat : Int)) := by
  rw [Lib.cell_of_heap h]
  simp only [List.getElem?_toArray]
  exact wvs_get? l i hi
theorem Arr.froz {t : TypeId} {w : World} {G : Nat} {l : List R} (h : Arr t w G l) (i : Nat) : w.frozen? ⟨G, i, none⟩ = false := Lib.frozen_of_heap h i
theorem Arr.set {t : TypeId} {w : World} {G : Nat} {l : List R} (h : Arr t w G l) (i : Nat) (x : R) : Arr t (w.setCell ⟨G, i, none⟩ (.int .u32 (x.toNat : Int))) G (l.set i x) := by
  have := heap_setCell_same w G i _ t (wv x) h
  unfold Arr
  rw [show (.int .u32 (x.toNat : Int) : Value) = wv x from rfl, this, ← wvs_set]
  simp
theorem Arr.far {t : TypeId} {w : World} {G H i : Nat} {l : List R} (h : Arr t w G l) (hne : G ≠ H) (u : Value) : Arr t (w.setCell ⟨H, i, none⟩ u) G l := by
  unfold Arr
  rw [heap_setCell_other _ _ _ _ hne]
  exact h
theorem Arr.drew {t : TypeId} {w : World} {G : Nat} {l : List R} (h : Arr t w G l) : Arr t w.drew G l := h
theorem Arr.below {t : TypeId} {w w1 : World} {G : Nat} {l : List R} (h : Arr t w G l) (k : Below w.heap.size w w1) : Arr t w1 G l := by
  have hlt : G < w.heap.size := by
    rcases Nat.lt_or_ge G w.heap.size with h' | h'
    · exact h'
    · unfold Arr at h
      simp [Array.getElem?_eq_none h'] at h
  exact (k.block G hlt).trans h
def zeros16 : List R := [0, 0, 0, 0, 0, 0, 0, 0, 0, 0, 0, 0, 0, 0, 0, 0]
theorem arr_new (w : World) (l : List R) (t : TypeId) : Arr t (w.alloc (.cells (wvs l).toArray t)) w.heap.size l := heap_alloc_new w _
theorem arr_old {t : TypeId} {w : World} {G : Nat} {l : List R} (h : Arr t w G l) (o : Obj) : Arr t (w.alloc o) G l := h.below ((Below.refl _ _).alloc (Nat.le_refl _) o)
theorem add_bits (p q r : R) (h : p + q = r) : ((p.toNat : Int) + (q.toNat : Int)) % 4294967296 = (r.toNat : Int) := by
  subst h
  rw [BitVec.toNat_add]
  omega
theorem add3_bits (p q x r : R) (h : p + q + x = r) : ((p.toNat : Int) + (q.toNat : Int) + (x.toNat : Int)) % 4294967296 = (r.toNat : Int) := by
  subst h
  rw [BitVec.toNat_add, BitVec.toNat_add]
  omega

theorem wvs_one (l : List R) : (wvs l).toArray.all (·.oneCell') = true := by
  rw [Array.all_eq_true_iff_forall_mem]
  intro v hv
  simp [wvs] at hv
  obtain ⟨x, _, rfl⟩ := hv
  rfl
theorem mixL_of {v l1 l2 l3 l4 l5 l6 l7 l8 : List R} {a b c d : Nat} {x y : R} (h1 : v.set a (g v a + g v b + x) = l1) (h2 : l1.set d (ror (g l1 d ^^^ g l1 a) 16) = l2) (h3 : l2.set c (g l2 c + g l2 d) = l3) (h4 : l3.set b (ror (g l3 b ^^^ g l3 c) 12) = l4)
    (h5 : l4.set a (g l4 a + g l4 b + y) = l5) (h6 : l5.set d (ror (g l5 d ^^^ g l5 a) 8) = l6) (h7 : l6.set c (g l6 c + g l6 d) = l7) (h8 : l7.set b (ror (g l7 b ^^^ g l7 c) 7) = l8) : mixL v a b c d x y = l8 := by
  subst h1 h2 h3 h4 h5 h6 h7 h8
  rfl

set_option maxHeartbeats 2000000 in
theorem rmix_any (v : List R) (a b c d : Nat) (x y : R) (w : World) (hv : v.length = 16) (ha : a < 16) (hb : b < 16) (hc : c < 16) (hd : d < 16) :
    Calls Tryd.prog 27 #[av v, .int .i64 (a : Int), .int .i64 (b : Int), .int .i64 (c : Int), .int .i64 (d : Int), .int .u32 (x.toNat : Int), .int .u32 (y.toNat : Int)] w
      fun e w' => e = .returned (av (mixL v a b c d x y)) ∧ Below w.heap.size w w' := by
  have hsz : (wvs v).toArray.size = 16 := by simp [wvs_len, hv]
  have hA0 : Arr 48 ((w.alloc (.cells (wvs v).toArray 48)).alloc (.cells (wvs zeros16).toArray 48)) w.heap.size v := arr_old (arr_new w v _) _
  have hR0 : Arr 48 ((w.alloc (.cells (wvs v).toArray 48)).alloc (.cells (wvs zeros16).toArray 48)) (w.heap.size + 1) zeros16 := by
    have := arr_new (w.alloc (.cells (wvs v).toArray 48)) zeros16 48
    simpa using this
  have hb0 : Below w.heap.size w ((w.alloc (.cells (wvs v).toArray 48)).alloc (.cells (wvs zeros16).toArray 48)) := ((Below.refl _ _).alloc (Nat.le_refl _) _).alloc (by simp) _
  have ha0 : (0 : Int) ≤ (a : Int) := by omega
  have ha1 : (a : Int) < 16 := by omega
  have hb_0 : (0 : Int) ≤ (b : Int) := by omega
  have hb_1 : (b : Int) < 16 := by omega
  have hc0 : (0 : Int) ≤ (c : Int) := by omega
  have hc1 : (c : Int) < 16 := by omega
  have hd0 : (0 : Int) ≤ (d : Int) := by omega
  have hd1 : (d : Int) < 16 := by omega
  unfold av
  go_enter Tryd.func27, Tryd.ntmps27
  go_wp2_with fail
  change Code.wp _ _ _ _ ((w.alloc (.cells (wvs v).toArray 48)).alloc (.cells (wvs zeros16).toArray 48))
  generalize ((w.alloc (.cells (wvs v).toArray 48)).alloc (.cells (wvs zeros16).toArray 48)) = w0 at hA0 hR0 hb0 ⊢
  obtain ⟨G, hG⟩ : ∃ G, w.heap.size = G := ⟨_, rfl⟩
  have hGle : w.heap.size ≤ G := by omega
  rw [hG] at hA0 hR0 ⊢
  have e1 := hA0.cell a (by omega)
  have e2 := hA0.cell b (by omega)
  have e3 := hA0.froz a
  obtain ⟨p, hp⟩ : ∃ p, g v a = p := ⟨_, rfl⟩
  obtain ⟨q, hq⟩ : ∃ q, g v b = q := ⟨_, rfl⟩
  rw [hp] at e1
  rw [hq] at e2
  obtain ⟨r, hr⟩ : ∃ r, p + q + x = r := ⟨_, rfl⟩
  have hs := add3_bits p q x r hr
  have hA := (hA0.set a r).drew
  have hR := (hR0.far (by omega : G + 1 ≠ G) (i := a) (.int .u32 (r.toNat : Int))).drew
  have hB := (hb0.setCell (p := ⟨G, a, none⟩) hGle (.int .u32 (r.toNat : Int))).drew
  obtain ⟨l1, hl⟩ : ∃ l, v.set a r = l := ⟨_, rfl⟩
  have hL1 := Lib.hid (show v.set a (g v a + g v b + x) = l1 by rw [hp, hq]; rw [hr]; exact hl)
  have hl1 : l1.length = 16 := by rw [← hl, List.length_set]; exact hv
  rw [hl] at hA
  clear hp hq hr hl hA0 hR0 hb0
  go_region
  clear e1 e2 e3 hs
  obtain ⟨w1, hw⟩ : ∃ w1, (w0.setCell ⟨G, a, none⟩ (.int .u32 (r.toNat : Int))).drew = w1 := ⟨_, rfl⟩
  rw [hw] at hA hR hB ⊢
  clear hw
  have hA1 := hA
  have hR1 := hR
  have hb1 := hB
  clear hA hR hB
  have e1 := hA1.cell d (by omega)
  have e2 := hA1.cell a (by omega)
  have e3 := hA1.froz d
  obtain ⟨p, hp⟩ : ∃ p, g l1 d = p := ⟨_, rfl⟩
  obtain ⟨q, hq⟩ : ∃ q, g l1 a = q := ⟨_, rfl⟩
  rw [hp] at e1
  rw [hq] at e2
  have hs := bxr p q
  obtain ⟨z, hz⟩ : ∃ z, p ^^^ q = z := ⟨_, rfl⟩
  rw [hz] at hs
  obtain ⟨r, hr⟩ : ∃ r, ror z 16 = r := ⟨_, rfl⟩
  have hrot := rrot16 z
  rw [hr] at hrot
  have hrot := Lib.hid hrot
  have hA := (hA1.set d r).drew
  have hR := (hR1.far (by omega : G + 1 ≠ G) (i := d) (.int .u32 (r.toNat : Int))).drew
  have hB := (hb1.setCell (p := ⟨G, d, none⟩) hGle (.int .u32 (r.toNat : Int))).drew
  obtain ⟨l2, hl⟩ : ∃ l, l1.set d r = l := ⟨_, rfl⟩
  have hL2 := Lib.hid (show l1.set d (ror (g l1 d ^^^ g l1 a) 16) = l2 by rw [hp, hq]; rw [hz, hr]; exact hl)
  have hl2 : l2.length = 16 := by rw [← hl, List.length_set]; exact hl1
  rw [hl] at hA
  clear hp hq hr hl hz hA1 hR1 hb1
  go_wp2_with fail
  refine wp_region_still_tail 10 (by kernel_rfl) (by kernel_rfl) ?_
  simp only [List.take_succ_cons, List.take_zero, List.drop_succ_cons, List.drop_zero]
  repeat still_step
  refine wpStill_step (fun K hK => ?_)
  go_simp
  refine ⟨_, (hrot.out _).mono (fun e w' h => ⟨h.1, h.2.symm⟩), hK _ ?_⟩
  clear hK K
  repeat still_step
  refine wpStill_nil ?_
  change wpList _ _ _ _ _ w1.drew
  go_wp2_with fail
  clear e1 e2 e3 hs hrot
  obtain ⟨w2, hw⟩ : ∃ w2, (w1.setCell ⟨G, d, none⟩ (.int .u32 (r.toNat : Int))).drew = w2 := ⟨_, rfl⟩
  rw [hw] at hA hR hB ⊢
  clear hw
  have hA2 := hA
  have hR2 := hR
  have hb2 := hB
  clear hA hR hB
  have e1 := hA2.cell c (by omega)
  have e2 := hA2.cell d (by omega)
  have e3 := hA2.froz c
  obtain ⟨p, hp⟩ : ∃ p, g l2 c = p := ⟨_, rfl⟩
  obtain ⟨q, hq⟩ : ∃ q, g l2 d = q := ⟨_, rfl⟩
  rw [hp] at e1
  rw [hq] at e2
  obtain ⟨r, hr⟩ : ∃ r, p + q = r := ⟨_, rfl⟩
  have hs := add_bits p q r hr
  have hA := (hA2.set c r).drew
  have hR := (hR2.far (by omega : G + 1 ≠ G) (i := c) (.int .u32 (r.toNat : Int))).drew
  have hB := (hb2.setCell (p := ⟨G, c, none⟩) hGle (.int .u32 (r.toNat : Int))).drew
  obtain ⟨l3, hl⟩ : ∃ l, l2.set c r = l := ⟨_, rfl⟩
  have hL3 := Lib.hid (show l2.set c (g l2 c + g l2 d) = l3 by rw [hp, hq]; rw [hr]; exact hl)
  have hl3 : l3.length = 16 := by rw [← hl, List.length_set]; exact hl2
  rw [hl] at hA
  clear hp hq hr hl hA2 hR2 hb2
  go_wp2_with fail
  go_region
  clear e1 e2 e3 hs
  obtain ⟨w3, hw⟩ : ∃ w3, (w2.setCell ⟨G, c, none⟩ (.int .u32 (r.toNat : Int))).drew = w3 := ⟨_, rfl⟩
  rw [hw] at hA hR hB ⊢
  clear hw
  have hA3 := hA
  have hR3 := hR
  have hb3 := hB
  clear hA hR hB
  have e1 := hA3.cell b (by omega)
  have e2 := hA3.cell c (by omega)
  have e3 := hA3.froz b
  obtain ⟨p, hp⟩ : ∃ p, g l3 b = p := ⟨_, rfl⟩
  obtain ⟨q, hq⟩ : ∃ q, g l3 c = q := ⟨_, rfl⟩
  rw [hp] at e1
  rw [hq] at e2
  have hs := bxr p q
  obtain ⟨z, hz⟩ : ∃ z, p ^^^ q = z := ⟨_, rfl⟩
  rw [hz] at hs
  obtain ⟨r, hr⟩ : ∃ r, ror z 12 = r := ⟨_, rfl⟩
  have hrot := rrot12 z
  rw [hr] at hrot
  have hrot := Lib.hid hrot
  have hA := (hA3.set b r).drew
  have hR := (hR3.far (by omega : G + 1 ≠ G) (i := b) (.int .u32 (r.toNat : Int))).drew
  have hB := (hb3.setCell (p := ⟨G, b, none⟩) hGle (.int .u32 (r.toNat : Int))).drew
  obtain ⟨l4, hl⟩ : ∃ l, l3.set b r = l := ⟨_, rfl⟩
  have hL4 := Lib.hid (show l3.set b (ror (g l3 b ^^^ g l3 c) 12) = l4 by rw [hp, hq]; rw [hz, hr]; exact hl)
  have hl4 : l4.length = 16 := by rw [← hl, List.length_set]; exact hl3
  rw [hl] at hA
  clear hp hq hr hl hz hA3 hR3 hb3
  go_wp2_with fail
  refine wp_region_still_tail 10 (by kernel_rfl) (by kernel_rfl) ?_
  simp only [List.take_succ_cons, List.take_zero, List.drop_succ_cons, List.drop_zero]
  repeat still_step
  refine wpStill_step (fun K hK => ?_)
  go_simp
  refine ⟨_, (hrot.out _).mono (fun e w' h => ⟨h.1, h.2.symm⟩), hK _ ?_⟩
  clear hK K
  repeat still_step
  refine wpStill_nil ?_
  change wpList _ _ _ _ _ w3.drew
  go_wp2_with fail
  clear e1 e2 e3 hs hrot
  obtain ⟨w4, hw⟩ : ∃ w4, (w3.setCell ⟨G, b, none⟩ (.int .u32 (r.toNat : Int))).drew = w4 := ⟨_, rfl⟩
  rw [hw] at hA hR hB ⊢
  clear hw
  have hA4 := hA
  have hR4 := hR
  have hb4 := hB
  clear hA hR hB
  have e1 := hA4.cell a (by omega)
  have e2 := hA4.cell b (by omega)
  have e3 := hA4.froz a
  obtain ⟨p, hp⟩ : ∃ p, g l4 a = p := ⟨_, rfl⟩
  obtain ⟨q, hq⟩ : ∃ q, g l4 b = q := ⟨_, rfl⟩
  rw [hp] at e1
  rw [hq] at e2
  obtain ⟨r, hr⟩ : ∃ r, p + q + y = r := ⟨_, rfl⟩
  have hs := add3_bits p q y r hr
  have hA := (hA4.set a r).drew
  have hR := (hR4.far (by omega : G + 1 ≠ G) (i := a) (.int .u32 (r.toNat : Int))).drew
  have hB := (hb4.setCell (p := ⟨G, a, none⟩) hGle (.int .u32 (r.toNat : Int))).drew
  obtain ⟨l5, hl⟩ : ∃ l, l4.set a r = l := ⟨_, rfl⟩
  have hL5 := Lib.hid (show l4.set a (g l4 a + g l4 b + y) = l5 by rw [hp, hq]; rw [hr]; exact hl)
  have hl5 : l5.length = 16 := by rw [← hl, List.length_set]; exact hl4
  rw [hl] at hA
  clear hp hq hr hl hA4 hR4 hb4
  go_wp2_with fail
  go_region
  clear e1 e2 e3 hs
  obtain ⟨w5, hw⟩ : ∃ w5, (w4.setCell ⟨G, a, none⟩ (.int .u32 (r.toNat : Int))).drew = w5 := ⟨_, rfl⟩
  rw [hw] at hA hR hB ⊢
  clear hw
  have hA5 := hA
  have hR5 := hR
  have hb5 := hB
  clear hA hR hB
  have e1 := hA5.cell d (by omega)
  have e2 := hA5.cell a (by omega)
  have e3 := hA5.froz d
  obtain ⟨p, hp⟩ : ∃ p, g l5 d = p := ⟨_, rfl⟩
  obtain ⟨q, hq⟩ : ∃ q, g l5 a = q := ⟨_, rfl⟩
  rw [hp] at e1
  rw [hq] at e2
  have hs := bxr p q
  obtain ⟨z, hz⟩ : ∃ z, p ^^^ q = z := ⟨_, rfl⟩
  rw [hz] at hs
  obtain ⟨r, hr⟩ : ∃ r, ror z 8 = r := ⟨_, rfl⟩
  have hrot := rrot8 z
  rw [hr] at hrot
  have hrot := Lib.hid hrot
  have hA := (hA5.set d r).drew
  have hR := (hR5.far (by omega : G + 1 ≠ G) (i := d) (.int .u32 (r.toNat : Int))).drew
  have hB := (hb5.setCell (p := ⟨G, d, none⟩) hGle (.int .u32 (r.toNat : Int))).drew
  obtain ⟨l6, hl⟩ : ∃ l, l5.set d r = l := ⟨_, rfl⟩
  have hL6 := Lib.hid (show l5.set d (ror (g l5 d ^^^ g l5 a) 8) = l6 by rw [hp, hq]; rw [hz, hr]; exact hl)
  have hl6 : l6.length = 16 := by rw [← hl, List.length_set]; exact hl5
  rw [hl] at hA
  clear hp hq hr hl hz hA5 hR5 hb5
  go_wp2_with fail
  refine wp_region_still_tail 10 (by kernel_rfl) (by kernel_rfl) ?_
  simp only [List.take_succ_cons, List.take_zero, List.drop_succ_cons, List.drop_zero]
  repeat still_step
  refine wpStill_step (fun K hK => ?_)
  go_simp
  refine ⟨_, (hrot.out _).mono (fun e w' h => ⟨h.1, h.2.symm⟩), hK _ ?_⟩
  clear hK K
  repeat still_step
  refine wpStill_nil ?_
  change wpList _ _ _ _ _ w5.drew
  go_wp2_with fail
  clear e1 e2 e3 hs hrot
  obtain ⟨w6, hw⟩ : ∃ w6, (w5.setCell ⟨G, d, none⟩ (.int .u32 (r.toNat : Int))).drew = w6 := ⟨_, rfl⟩
  rw [hw] at hA hR hB ⊢
  clear hw
  have hA6 := hA
  have hR6 := hR
  have hb6 := hB
  clear hA hR hB
  have e1 := hA6.cell c (by omega)
  have e2 := hA6.cell d (by omega)
  have e3 := hA6.froz c
  obtain ⟨p, hp⟩ : ∃ p, g l6 c = p := ⟨_, rfl⟩
  obtain ⟨q, hq⟩ : ∃ q, g l6 d = q := ⟨_, rfl⟩
  rw [hp] at e1
  rw [hq] at e2
  obtain ⟨r, hr⟩ : ∃ r, p + q = r := ⟨_, rfl⟩
  have hs := add_bits p q r hr
  have hA := (hA6.set c r).drew
  have hR := (hR6.far (by omega : G + 1 ≠ G) (i := c) (.int .u32 (r.toNat : Int))).drew
  have hB := (hb6.setCell (p := ⟨G, c, none⟩) hGle (.int .u32 (r.toNat : Int))).drew
  obtain ⟨l7, hl⟩ : ∃ l, l6.set c r = l := ⟨_, rfl⟩
  have hL7 := Lib.hid (show l6.set c (g l6 c + g l6 d) = l7 by rw [hp, hq]; rw [hr]; exact hl)
  have hl7 : l7.length = 16 := by rw [← hl, List.length_set]; exact hl6
  rw [hl] at hA
  clear hp hq hr hl hA6 hR6 hb6
  go_wp2_with fail
  go_region
  clear e1 e2 e3 hs
  obtain ⟨w7, hw⟩ : ∃ w7, (w6.setCell ⟨G, c, none⟩ (.int .u32 (r.toNat : Int))).drew = w7 := ⟨_, rfl⟩
  rw [hw] at hA hR hB ⊢
  clear hw
  have hA7 := hA
  have hR7 := hR
  have hb7 := hB
  clear hA hR hB
  have e1 := hA7.cell b (by omega)
  have e2 := hA7.cell c (by omega)
  have e3 := hA7.froz b
  obtain ⟨p, hp⟩ : ∃ p, g l7 b = p := ⟨_, rfl⟩
  obtain ⟨q, hq⟩ : ∃ q, g l7 c = q := ⟨_, rfl⟩
  rw [hp] at e1
  rw [hq] at e2
  have hs := bxr p q
  obtain ⟨z, hz⟩ : ∃ z, p ^^^ q = z := ⟨_, rfl⟩
  rw [hz] at hs
  obtain ⟨r, hr⟩ : ∃ r, ror z 7 = r := ⟨_, rfl⟩
  have hrot := rrot7 z
  rw [hr] at hrot
  have hrot := Lib.hid hrot
  have hA := (hA7.set b r).drew
  have hR := (hR7.far (by omega : G + 1 ≠ G) (i := b) (.int .u32 (r.toNat : Int))).drew
  have hB := (hb7.setCell (p := ⟨G, b, none⟩) hGle (.int .u32 (r.toNat : Int))).drew
  obtain ⟨l8, hl⟩ : ∃ l, l7.set b r = l := ⟨_, rfl⟩
  have hL8 := Lib.hid (show l7.set b (ror (g l7 b ^^^ g l7 c) 7) = l8 by rw [hp, hq]; rw [hz, hr]; exact hl)
  have hl8 : l8.length = 16 := by rw [← hl, List.length_set]; exact hl7
  rw [hl] at hA
  clear hp hq hr hl hz hA7 hR7 hb7
  go_wp2_with fail
  have hz16 : (Tryd.prog.info? 48 ).map (·.size) = some (wvs l8).toArray.size := by rw [info_16w]; simp [wvs_len, hl8]
  have hold : (wvs zeros16).toArray.size = (wvs l8).toArray.size := by simp [wvs_len, hl8]; rfl
  have hone := wvs_one l8
  have hB9 := below_setRow hB (show w.heap.size ≤ G + 1 by omega) (wvs l8).toArray
  have hR9 := setRow_heap _ (G + 1) _ (wvs l8).toArray _ _ hR
  have hfin := Lib.hid (mixL_of hL1.out hL2.out hL3.out hL4.out hL5.out hL6.out hL7.out hL8.out)
  refine wp_region_still_tail 10 (by kernel_rfl) (by kernel_rfl) ?_
  simp only [List.take_succ_cons, List.take_zero, List.drop_succ_cons, List.drop_zero]
  repeat still_step
  refine wpStill_step (fun K hK => ?_)
  go_simp
  refine ⟨_, (hrot.out _).mono (fun e w' h => ⟨h.1, h.2.symm⟩), hK _ ?_⟩
  clear hK K
  repeat still_step
  refine wpStill_nil ?_
  change wpList _ _ _ _ _ w7.drew
  go_wp2_with (first | (refine wp_region_lit ?_; refine wpList_load_row rfl 48 (.tmp 7) rfl G rfl 48 _ (0, 0) _ hA Tryd.underlying48 rfl hz16 ?_) | refine wpList_load_row rfl 48 (.tmp 7) rfl G rfl 48 _ (0, 0) _ hA Tryd.underlying48 rfl hz16 ?_ | refine wpList_store_row rfl 48 (.tmp 14) (.tmp 95) rfl (G + 1) _ rfl rfl 48 _ hR hz16 hold hone ?_)
  exact bodyPost_ret (results_cell_row rfl _ _ (G + 1) 48 _ (0, 0) _ rfl hR9 Tryd.underlying48 rfl hz16) rfl ⟨by rw [hfin.out], hB9⟩
end Go.Proofs.YtkppepdniehoiaaDoor.B4
