/- Contracts of the landed package's wordsOf, vector, bytesOf. -/
import Derived.Test.YtkppepdniehoiaaDoorB4Own2
import Derived.Test.YtkppepdniehoiaaDoorB4Law3
namespace Go.Proofs.YtkppepdniehoiaaDoor.B4
open Go.RowKit Mem Parts
set_option linter.unusedVariables false
set_option linter.unusedSimpArgs false

/-- Block G is an array of bytes: these. -/
def Aby (t : TypeId) (w : World) (G : Nat) (l : List UInt8) : Prop := w.heap[G]? = some (.cells (bys l).toArray t (0, 0))
theorem Aby.cell {t : TypeId} {w : World} {G : Nat} {l : List UInt8} (h : Aby t w G l) (i : Nat) (hi : i < l.length) : w.cell? ⟨G, i, none⟩ = some (.int .u8 ((l.getD i 0).toNat : Int)) := by
  rw [Lib.cell_of_heap h]
  simp [bys, hi, List.getD]
theorem Aby.far {t : TypeId} {w : World} {G H i : Nat} {l : List UInt8} (h : Aby t w G l) (hne : G ≠ H) (u : Value) : Aby t (w.setCell ⟨H, i, none⟩ u) G l := by
  unfold Aby
  rw [heap_setCell_other _ _ _ _ hne]
  exact h
theorem Aby.below {t : TypeId} {w w1 : World} {G : Nat} {l : List UInt8} (h : Aby t w G l) (k : Below w.heap.size w w1) : Aby t w1 G l := by
  have hlt : G < w.heap.size := by
    rcases Nat.lt_or_ge G w.heap.size with h' | h'
    · exact h'
    · unfold Aby at h
      simp [Array.getElem?_eq_none h'] at h
  exact (k.block G hlt).trans h
theorem Aby.drew {t : TypeId} {w : World} {G : Nat} {l : List UInt8} (h : Aby t w G l) : Aby t w.drew G l := h

theorem or_shift (a b i : Nat) (h : b < 2 ^ i) : b ||| a * 2 ^ i = b + a * 2 ^ i := by
  rw [Nat.or_comm, ← Nat.shiftLeft_eq, ← Nat.shiftLeft_add_eq_or_of_lt h, Nat.add_comm]
theorem or_word (a b c d : Nat) (ha : a < 256) (hb : b < 256) (hc : c < 256) (hd : d < 256) : ((a ||| b * 256) ||| c * 65536) ||| d * 16777216 = a + 256 * b + 65536 * c + 16777216 * d := by
  have h1 := or_shift b a 8 (by omega)
  have h2 := or_shift c (a + b * 256) 16 (by omega)
  have h3 := or_shift d (a + b * 256 + c * 65536) 24 (by omega)
  simp only [Nat.reducePow] at h1 h2 h3
  rw [h1, h2, h3]
  omega
theorem g_big (l : List R) (j : Nat) (h : l.length ≤ j) : g l j = 0 := by
  simp [g, List.getD, List.getElem?_eq_none h]
theorem g_words (b : List UInt8) (j : Nat) : g (wordsL b) j = if j < 16 then word b j else 0 := by
  by_cases h : j < 16
  · simp [g, wordsL, List.getD, h]
  · rw [g_big _ _ (by simp [wordsL]; omega), if_neg h]
theorem words_of {b : List UInt8} {l : List R} (hl : l.length = 16) (h : ∀ j, j < 16 → g l j = word b j) : l = wordsL b :=
  g_ext (by rw [hl]; simp [wordsL]) (fun j => by
    rw [g_words]
    by_cases hj : j < 16
    · rw [if_pos hj, h j hj]
    · rw [if_neg hj, g_big _ _ (by omega)])

set_option maxHeartbeats 4000000 in
theorem owords_any (b : List UInt8) (w : World) (hb : b.length = 64) :
    Calls Tryd.prog 32 #[.agg (bys b).toArray] w fun e w' => e = .returned (av (wordsL b)) ∧ Below w.heap.size w w' := by
  have hsz : (bys b).toArray.size = 64 := by simp [bys_len, hb]
  have hA0 : Aby 44 (((w.alloc (.cells (bys b).toArray 44)).alloc (.cells (wvs zeros16).toArray 48)).alloc (.cells (wvs zeros16).toArray 48)) w.heap.size b :=
    Aby.below (heap_alloc_new w _) (((Below.refl _ _).alloc (Nat.le_refl _) _).alloc (by simp) _)
  have hR0 : Arr 48 (((w.alloc (.cells (bys b).toArray 44)).alloc (.cells (wvs zeros16).toArray 48)).alloc (.cells (wvs zeros16).toArray 48)) (w.heap.size + 1) zeros16 := by
    have := arr_new (w.alloc (.cells (bys b).toArray 44)) zeros16 48
    rw [show (w.alloc (.cells (bys b).toArray 44)).heap.size = w.heap.size + 1 by simp] at this
    exact arr_old this _
  have hM0 : Arr 48 (((w.alloc (.cells (bys b).toArray 44)).alloc (.cells (wvs zeros16).toArray 48)).alloc (.cells (wvs zeros16).toArray 48)) (w.heap.size + 1 + 1) zeros16 := by
    have := arr_new ((w.alloc (.cells (bys b).toArray 44)).alloc (.cells (wvs zeros16).toArray 48)) zeros16 48
    rw [show ((w.alloc (.cells (bys b).toArray 44)).alloc (.cells (wvs zeros16).toArray 48)).heap.size = w.heap.size + 1 + 1 by simp] at this
    exact this
  have hB0 : Below w.heap.size w (((w.alloc (.cells (bys b).toArray 44)).alloc (.cells (wvs zeros16).toArray 48)).alloc (.cells (wvs zeros16).toArray 48)) := (((Below.refl _ _).alloc (Nat.le_refl _) _).alloc (by simp) _).alloc (by simp; omega) _
  go_enter Tryd.func32, Tryd.ntmps32
  go_wp2_with fail
  change Code.wp _ _ _ _ (((w.alloc (.cells (bys b).toArray 44)).alloc (.cells (wvs zeros16).toArray 48)).alloc (.cells (wvs zeros16).toArray 48))
  generalize (((w.alloc (.cells (bys b).toArray 44)).alloc (.cells (wvs zeros16).toArray 48)).alloc (.cells (wvs zeros16).toArray 48)) = w0 at hA0 hM0 hR0 hB0 ⊢
  obtain ⟨G, hG⟩ : ∃ G, w.heap.size = G := ⟨_, rfl⟩
  have hGle : w.heap.size ≤ G := by omega
  rw [hG] at hA0 hM0 hR0 ⊢
  go_loopw [6] (fun i wr => ∃ (k : Nat) (l : List R), k ≤ 16 ∧ i = .int .i64 k ∧ l.length = 16 ∧ Hid (∀ j, j < k → g l j = word b j) ∧ Aby 44 wr G b ∧ Arr 48 wr (G + 1) zeros16 ∧ Arr 48 wr (G + 1 + 1) l ∧ Below w.heap.size w wr) (fun i _ => 16 - (intOf i).toNat)
  case atStart => exact ⟨0, zeros16, by omega, rfl, rfl, Lib.hid (fun j h => by omega), hA0, hR0, hM0, hB0⟩
  case round =>
    clear hA0 hM0 hR0 hB0
    obtain ⟨k, l, hk, rfl, hl, hlv, hA, hR, hM, hB⟩ := hrel
    by_cases hlt : k < 16
    · have d1 : decide ((k : Int) < 16) = true := decide_eq_true (by omega)
      obtain ⟨p0, hp0⟩ : ∃ x, 4 * k = x := ⟨_, rfl⟩
      obtain ⟨p1, hp1⟩ : ∃ x, 4 * k + 1 = x := ⟨_, rfl⟩
      obtain ⟨p2, hp2⟩ : ∃ x, 4 * k + 2 = x := ⟨_, rfl⟩
      obtain ⟨p3, hp3⟩ : ∃ x, 4 * k + 3 = x := ⟨_, rfl⟩
      have hw : word b k = BitVec.ofNat 32 ((b.getD p0 0).toNat + 256 * (b.getD p1 0).toNat + 65536 * (b.getD p2 0).toNat + 16777216 * (b.getD p3 0).toNat) := by subst hp0 hp1 hp2 hp3; rfl
      have e0 := hA.cell p0 (by omega)
      have e1 := hA.cell p1 (by omega)
      have e2 := hA.cell p2 (by omega)
      have e3 := hA.cell p3 (by omega)
      obtain ⟨b0, hb0⟩ : ∃ x, b.getD p0 0 = x := ⟨_, rfl⟩
      obtain ⟨b1, hb1⟩ : ∃ x, b.getD p1 0 = x := ⟨_, rfl⟩
      obtain ⟨b2, hb2⟩ : ∃ x, b.getD p2 0 = x := ⟨_, rfl⟩
      obtain ⟨b3, hb3⟩ : ∃ x, b.getD p3 0 = x := ⟨_, rfl⟩
      rw [hb0] at e0 hw
      rw [hb1] at e1 hw
      rw [hb2] at e2 hw
      rw [hb3] at e3 hw
      have t0 := b0.toNat_lt
      have t1 := b1.toNat_lt
      have t2 := b2.toNat_lt
      have t3 := b3.toNat_lt
      have z0 : (0 : Int) ≤ (p0 : Int) := by omega
      have z1 : (0 : Int) ≤ (p1 : Int) := by omega
      have z2 : (0 : Int) ≤ (p2 : Int) := by omega
      have z3 : (0 : Int) ≤ (p3 : Int) := by omega
      have y0 : (p0 : Int) < 64 := by omega
      have y1 : (p1 : Int) < 64 := by omega
      have y2 : (p2 : Int) < 64 := by omega
      have y3 : (p3 : Int) < 64 := by omega
      have x0 : (0 : Int) ≤ (k : Int) := by omega
      have x1 : (k : Int) < 16 := by omega
      have u0 : (k : Int) * 4 = (p0 : Int) := by omega
      have u1 : IntKind.i64.wrap ((p0 : Int) + 1) = (p1 : Int) := by rw [show (p0 : Int) + 1 = (p1 : Int) by omega]; exact IntWalk.i64_in _ (by omega)
      have u2 : IntKind.i64.wrap ((p0 : Int) + 2) = (p2 : Int) := by rw [show (p0 : Int) + 2 = (p2 : Int) by omega]; exact IntWalk.i64_in _ (by omega)
      have u3 : IntKind.i64.wrap ((p0 : Int) + 3) = (p3 : Int) := by rw [show (p0 : Int) + 3 = (p3 : Int) by omega]; exact IntWalk.i64_in _ (by omega)
      have f0 := hM.froz k
      have e9 := hM.cell k (by omega)
      obtain ⟨old, hold9⟩ : ∃ x, g l k = x := ⟨_, rfl⟩
      rw [hold9] at e9
      clear hold9
      have hG2 : w.heap.size ≤ G + 1 + 1 := by omega
      clear hb0 hb1 hb2 hb3 hp0 hp1 hp2 hp3
      obtain ⟨r0, hr0⟩ : ∃ r : R, BitVec.ofNat 32 b0.toNat = r := ⟨_, rfl⟩
      obtain ⟨r1, hr1⟩ : ∃ r : R, BitVec.ofNat 32 (b1.toNat * 256) = r := ⟨_, rfl⟩
      obtain ⟨r2, hr2⟩ : ∃ r : R, BitVec.ofNat 32 (b2.toNat * 65536) = r := ⟨_, rfl⟩
      obtain ⟨r3, hr3⟩ : ∃ r : R, BitVec.ofNat 32 (b3.toNat * 16777216) = r := ⟨_, rfl⟩
      have n0 : r0.toNat = b0.toNat := by rw [← hr0, BitVec.toNat_ofNat]; omega
      have n1 : r1.toNat = b1.toNat * 256 := by rw [← hr1, BitVec.toNat_ofNat]; omega
      have n2 : r2.toNat = b2.toNat * 65536 := by rw [← hr2, BitVec.toNat_ofNat]; omega
      have n3 : r3.toNat = b3.toNat * 16777216 := by rw [← hr3, BitVec.toNat_ofNat]; omega
      obtain ⟨s1, hs1⟩ : ∃ s : Nat, b1.toNat = s := ⟨_, rfl⟩
      obtain ⟨s2, hs2⟩ : ∃ s : Nat, b2.toNat = s := ⟨_, rfl⟩
      obtain ⟨s3, hs3⟩ : ∃ s : Nat, b3.toNat = s := ⟨_, rfl⟩
      have c0 : IntKind.u32.wrap (b0.toNat : Int) = (r0.toNat : Int) := by rw [n0]; exact IntWalk.u32_in _ (by omega)
      have c1 : IntKind.u32.wrap (b1.toNat : Int) = (s1 : Int) := by rw [hs1]; exact IntWalk.u32_in _ (by omega)
      have c2 : IntKind.u32.wrap (b2.toNat : Int) = (s2 : Int) := by rw [hs2]; exact IntWalk.u32_in _ (by omega)
      have c3 : IntKind.u32.wrap (b3.toNat : Int) = (s3 : Int) := by rw [hs3]; exact IntWalk.u32_in _ (by omega)
      have c4 : IntKind.u32.wrap ((s1 : Int) * 256) = (r1.toNat : Int) := by rw [n1, hs1, show (s1 : Int) * 256 = ((s1 * 256 : Nat) : Int) by omega]; exact IntWalk.u32_in _ (by omega)
      have c5 : IntKind.u32.wrap ((s2 : Int) * 65536) = (r2.toNat : Int) := by rw [n2, hs2, show (s2 : Int) * 65536 = ((s2 * 65536 : Nat) : Int) by omega]; exact IntWalk.u32_in _ (by omega)
      have c6 : IntKind.u32.wrap ((s3 : Int) * 16777216) = (r3.toNat : Int) := by rw [n3, hs3, show (s3 : Int) * 16777216 = ((s3 * 16777216 : Nat) : Int) by omega]; exact IntWalk.u32_in _ (by omega)
      have g1 := bor r0 r1
      have g2 := bor (r0 ||| r1) r2
      have g3 := bor (r0 ||| r1 ||| r2) r3
      have hword : word b k = r0 ||| r1 ||| r2 ||| r3 := by
        apply BitVec.eq_of_toNat_eq
        rw [hw, BitVec.toNat_or, BitVec.toNat_or, BitVec.toNat_or, n0, n1, n2, n3, or_word _ _ _ _ t0 t1 t2 t3, BitVec.toNat_ofNat]
        omega
      obtain ⟨q1, hq1⟩ : ∃ q, r0 ||| r1 = q := ⟨_, rfl⟩
      rw [hq1] at g1 g2 g3 hword
      obtain ⟨q2, hq2⟩ : ∃ q, q1 ||| r2 = q := ⟨_, rfl⟩
      rw [hq2] at g2 g3 hword
      obtain ⟨q3, hq3⟩ : ∃ q, q2 ||| r3 = q := ⟨_, rfl⟩
      rw [hq3] at g3 hword
      have hnew := Lib.hid (show ∀ j, j < k + 1 → g (l.set k q3) j = word b j from fun j hj => by
        rw [g_set l k j q3 (by omega)]
        by_cases hjk : k = j
        · subst hjk; rw [if_pos rfl, hword]
        · rw [if_neg hjk, hlv.out j (by omega)])
      have hl2 : (l.set k q3).length = 16 := by simp [hl]
      have hA2 := (hA.far (by omega : G ≠ G + 1 + 1) (i := k) (.int .u32 (q3.toNat : Int))).drew
      have hR2 := (hR.far (by omega : G + 1 ≠ G + 1 + 1) (i := k) (.int .u32 (q3.toNat : Int))).drew
      have hM2 := (hM.set k q3).drew
      have hB2 := (hB.setCell (p := ⟨G + 1 + 1, k, none⟩) hG2 (.int .u32 (q3.toNat : Int))).drew
      clear hw hword hr0 hr1 hr2 hr3 n0 n1 n2 n3 hs1 hs2 hs3 hq1 hq2 hq3 hA hR hM hB hlv
      go_wp2_with fail
      refine wp_region_still_tail 27 (by kernel_rfl) (by kernel_rfl) ?_
      simp only [List.take_succ_cons, List.take_zero, List.drop_succ_cons, List.drop_zero]
      repeat still_step
      refine wpStill_nil ?_
      change wpList _ _ _ _ _ wr.drew
      go_wp2
      go_roundw
      case rel => exact ⟨k + 1, l.set k q3, by omega, by go_num, hl2, hnew, hA2, hR2, hM2, hB2⟩
      case measure => simp [intOf]; omega
    · have d1 : decide ((k : Int) < 16) = false := decide_eq_false (by omega)
      obtain rfl : k = 16 := by omega
      have hfin := Lib.hid (words_of hl hlv.out)
      have hz16 : (Tryd.prog.info? 48).map (·.size) = some (wvs l).toArray.size := by rw [info_16w]; simp [wvs_len, hl]
      have hold : (wvs zeros16).toArray.size = (wvs l).toArray.size := by simp [wvs_len, hl]; rfl
      have hone := wvs_one l
      have hB9 := below_setRow hB (show w.heap.size ≤ G + 1 by omega) (wvs l).toArray
      have hR9 := setRow_heap _ (G + 1) _ (wvs l).toArray _ _ hR
      go_wp2_with (first | (refine wpList_load_row rfl 48 (.tmp 3) rfl (G + 1 + 1) rfl 48 _ (0, 0) _ hM Tryd.underlying48 rfl hz16 ?_) | refine wpList_store_row rfl 48 (.tmp 2) (.tmp 39) rfl (G + 1) _ rfl rfl 48 _ hR hz16 hold hone ?_)
      exact bodyPost_ret (results_cell_row rfl _ _ (G + 1) 48 _ (0, 0) _ rfl hR9 Tryd.underlying48 rfl hz16) rfl ⟨by rw [hfin.out]; rfl, hB9⟩
end Go.Proofs.YtkppepdniehoiaaDoor.B4
