/- The contract of the reference of layer 10: table. -/
import Derived.Test.YtiodkllckcpinaaGreatDoorV10Ref2
import Derived.Laws.MakeOwn
set_option linter.unusedVariables false
set_option linter.unusedSimpArgs false
set_option maxRecDepth 100000
namespace Go.Proofs.YtiodkllckcpinaaGreatDoor
namespace V10
open Go.RowKit Mem C9

def setRow (l : List Value) (p : Nat) (f : Nat → Entry) : List Value :=
 (((((((l.set p (.int .i64 (f 0).1)).set (p + 1) (.int .i64 ((f 0).2 : Int))).set (p + 2) (.int .i64 (f 1).1)).set (p + 3) (.int .i64 ((f 1).2 : Int))).set (p + 4) (.int .i64 (f 2).1)).set (p + 5) (.int .i64 ((f 2).2 : Int))).set (p + 6) (.int .i64 (f 3).1)).set (p + 7) (.int .i64 ((f 3).2 : Int))
theorem setRow_len (l : List Value) (p : Nat) (f : Nat → Entry) : (setRow l p f).length = l.length := by simp [setRow]
theorem setRow_other (l : List Value) (p : Nat) (f : Nat → Entry) (x : Nat) (h : x < p ∨ p + 8 ≤ x) : (setRow l p f)[x]? = l[x]? := by
 unfold setRow
 rw [List.getElem?_set_ne (by omega), List.getElem?_set_ne (by omega), List.getElem?_set_ne (by omega), List.getElem?_set_ne (by omega), List.getElem?_set_ne (by omega), List.getElem?_set_ne (by omega), List.getElem?_set_ne (by omega), List.getElem?_set_ne (by omega)]
theorem setRow_same (l : List Value) (p : Nat) (f : Nat → Entry) (hp : p + 8 ≤ l.length) : ∀ j, j < 8 → (setRow l p f)[p + j]? = (ents f)[j]? := by
 intro j hj
 unfold setRow ents
 have : j = 0 ∨ j = 1 ∨ j = 2 ∨ j = 3 ∨ j = 4 ∨ j = 5 ∨ j = 6 ∨ j = 7 := by omega
 rcases this with rfl | rfl | rfl | rfl | rfl | rfl | rfl | rfl <;> simp [List.getElem?_set] <;> omega
theorem blk_row {W : World} {g : Nat} {l : List Value} (h : Blk W g l) (p : Nat) (f : Nat → Entry) (hp : p + 8 ≤ l.length) :
  Blk ((((((((W.setCell ⟨g, p, none⟩ (.int .i64 (f 0).1)).setCell ⟨g, p + 1, none⟩ (.int .i64 ((f 0).2 : Int))).setCell ⟨g, p + 2, none⟩ (.int .i64 (f 1).1)).setCell ⟨g, p + 3, none⟩ (.int .i64 ((f 1).2 : Int))).setCell ⟨g, p + 4, none⟩ (.int .i64 (f 2).1)).setCell ⟨g, p + 5, none⟩ (.int .i64 ((f 2).2 : Int))).setCell ⟨g, p + 6, none⟩ (.int .i64 (f 3).1)).setCell ⟨g, p + 7, none⟩ (.int .i64 ((f 3).2 : Int))) g (setRow l p f) :=
 (((((((h.set p _ (by omega)).set (p + 1) _ (by simp; omega)).set (p + 2) _ (by simp; omega)).set (p + 3) _ (by simp; omega)).set (p + 4) _ (by simp; omega)).set (p + 5) _ (by simp; omega)).set (p + 6) _ (by simp; omega)).set (p + 7) _ (by simp; omega)
def TabL (l : List Value) (R : List (UInt8 × UInt8)) (k m : Nat) : Prop := ∀ q, k ≤ q → q ≤ m → ∀ j, j < 8 → l[q * 8 + j]? = (ents (rowE (R.drop q)))[j]?
theorem TabL.step {l : List Value} {R : List (UInt8 × UInt8)} {k m : Nat} {f : Nat → Entry} (h : TabL l R (k + 1) m) (hl : l.length = (m + 1) * 8) (hk : k ≤ m) (hf : ents f = ents (rowE (R.drop k))) : TabL (setRow l (k * 8) f) R k m := by
 intro q h1 h2 j hj
 by_cases e : q = k
 ·subst e
  rw [setRow_same l (q * 8) f (by rw [hl]; omega) j hj, hf]
 ·rw [setRow_other l (k * 8) f _ (by omega)]
  exact h q (by omega) h2 j hj
theorem info_step : (Tryz.prog.info? 129).map (fun i => (i.zero, i.size, i.bytes)) = some (some (.agg #[.int .i64 0, .int .i64 0, .int .i64 0, .int .i64 0, .int .i64 0, .int .i64 0, .int .i64 0, .int .i64 0]), 8, 64) := by kernel_rfl
theorem make_rows (w : World) (n : Nat) (h : n ≤ 1000000) : ∃ l : List Value, l.length = n * 8 ∧ (Instr.makeSlice 123 (.int .i64 (n : Int)) (.int .i64 (n : Int))).run Tryz.prog w = .ok (.slice (some ⟨w.heap.size, 0, none⟩) n n) (w.alloc (.cells l.toArray 129)) := by
 obtain ⟨i0, hi, hz0, hz1, hz2⟩ := info_parts info_step
 have hr := run_make (P := Tryz.prog) w 123 129 i0 _ Tryz.underlying123 hi hz0 .i64 .i64 (n : Int) (n : Int) (by omega) (Int.le_refl _) (by rw [hz2]; omega) (by omega)
 simp only [Int.toNat_natCast] at hr
 rw [hz1] at hr
 refine ⟨(madeCells (Value.agg #[.int .i64 0, .int .i64 0, .int .i64 0, .int .i64 0, .int .i64 0, .int .i64 0, .int .i64 0, .int .i64 0]).cells (n * 8)).toList, ?_, ?_⟩
 ·rw [Array.length_toList, size_madeCells]
 ·rw [Array.toArray_toList]
  exact hr
structure Tab (W : World) (g : Nat) (c : ByteArray) (m : Nat) : Prop where
 lt : g < W.heap.size
 cells : ∀ q, q ≤ m → ∀ j, j < 8 → W.cell? ⟨g, q * 8 + j, none⟩ = (ents (rowE ((rc c).drop q)))[j]?
theorem Tab.below {W W' : World} {g : Nat} {c : ByteArray} {m : Nat} (h : Tab W g c m) (k : Below W.heap.size W W') : Tab W' g c m := ⟨Nat.lt_of_lt_of_le h.lt k.size, fun q hq j hj => (k.cell (p := ⟨g, q * 8 + j, none⟩) h.lt).trans (h.cells q hq j hj)⟩
structure RowAt (W : World) (g p : Nat) (f : Nat → Entry) : Prop where
 c0 : W.cell? ⟨g, p, none⟩ = some (.int .i64 (f 0).1)
 c1 : W.cell? ⟨g, p + 1, none⟩ = some (.int .i64 ((f 0).2 : Int))
 c2 : W.cell? ⟨g, p + 2, none⟩ = some (.int .i64 (f 1).1)
 c3 : W.cell? ⟨g, p + 3, none⟩ = some (.int .i64 ((f 1).2 : Int))
 c4 : W.cell? ⟨g, p + 4, none⟩ = some (.int .i64 (f 2).1)
 c5 : W.cell? ⟨g, p + 5, none⟩ = some (.int .i64 ((f 2).2 : Int))
 c6 : W.cell? ⟨g, p + 6, none⟩ = some (.int .i64 (f 3).1)
 c7 : W.cell? ⟨g, p + 7, none⟩ = some (.int .i64 ((f 3).2 : Int))
theorem RowAt.of {W : World} {g p : Nat} {f : Nat → Entry} (h : ∀ j, j < 8 → W.cell? ⟨g, p + j, none⟩ = (ents f)[j]?) : RowAt W g p f := ⟨h 0 (by decide), h 1 (by decide), h 2 (by decide), h 3 (by decide), h 4 (by decide), h 5 (by decide), h 6 (by decide), h 7 (by decide)⟩
theorem rowE_fit (R : List (UInt8 × UInt8)) (hR : R.length ≤ 100000) (s : Nat) : -1 ≤ (rowE R s).1 ∧ (rowE R s).1 ≤ 1000000 ∧ (rowE R s).2 ≤ 2 := by
 have h1 := tb_int R (hi s) (lo s)
 have h2 := tb_le R (hi s) (lo s)
 unfold rowE
 omega
set_option maxHeartbeats 16000000 in
theorem table_any (c : ByteArray) (n : Nat) (w : World) (hn : c.size = 2 * n + 4) (hc : c.size ≤ 100000) :
  Calls Tryz.prog 98 #[.string c] w fun e w' => ∃ g, e = .returned (.slice (some ⟨g, 0, none⟩) (n + 3) (n + 3)) ∧ Tab w' g c (n + 2) ∧ Below w.heap.size w w' := by
 obtain ⟨m, hm⟩ : ∃ m, n + 2 = m := ⟨_, rfl⟩
 obtain ⟨M, hM⟩ : ∃ M, m + 1 = M := ⟨_, rfl⟩
 rw [show n + 3 = M by omega, hm]
 have hrl := rc_len hn
 rw [hm] at hrl
 obtain ⟨l0, hl0, hmk⟩ := make_rows w M (by omega)
 have q1 : (c.size : Int) / 2 = (m : Int) := by omega
 have q2 : c.size / 2 = m := by omega
 have q3 : (m : Int) + 1 = (M : Int) := by omega
 have q4 : IntKind.i64.wrap (M : Int) = (M : Int) := IntWalk.i64_in _ (by omega)
 have hB0 := World.alloc_heap_new w (.cells l0.toArray 129)
 obtain ⟨W0, hW0⟩ : ∃ W0, w.alloc (.cells l0.toArray 129) = W0 := ⟨_, rfl⟩
 obtain ⟨G, hG⟩ : ∃ G, w.heap.size = G := ⟨_, rfl⟩
 have hBlk : Blk W0 G l0 := by rw [← hW0, ← hG]; exact hB0
 have hlt : G < W0.heap.size := by rw [← hW0, ← hG]; simp
 have hb0 : Below G w W0 := by rw [← hW0, ← hG]; exact (Below.refl _ w).alloc (Nat.le_refl _) _
 rw [hW0, hG] at hmk
 have f0 := hBlk.frz
 have hrow := blk_row hBlk (m * 8) (rowE []) (by rw [hl0]; omega)
 have hT0 : TabL (setRow l0 (m * 8) (rowE [])) (rc c) m m := TabL.step (k := m) (fun q h1 h2 => absurd h1 (by omega)) (by rw [hl0, ← hM]) (Nat.le_refl _) (by rw [List.drop_of_length_le (by rw [hrl]; exact Nat.le_refl _)])
 replace hT0 := Lib.hid hT0
 replace hl0 := Lib.hid hl0
 replace hrl := Lib.hid hrl
 replace hn := Lib.hid hn
 replace hrow := Lib.hid hrow
 have hm6 : m ≤ 50002 := by have := hn.out; omega
 have i0 : (0 : Int) ≤ (m : Int) := by omega
 have i1 : (m : Int) < (M : Int) := by omega
 have hGh := Lib.hid hG
 have cl : ∀ j, j < 8 → ∃ v, W0.cell? ⟨G, m * 8 + j, none⟩ = some v := fun j hj => by
  rw [hBlk.cell]
  exact ⟨_, List.getElem?_eq_getElem (by rw [hl0.out]; omega)⟩
 obtain ⟨v0, k0⟩ := cl 0 (by decide)
 obtain ⟨v1, k1⟩ := cl 1 (by decide)
 obtain ⟨v2, k2⟩ := cl 2 (by decide)
 obtain ⟨v3, k3⟩ := cl 3 (by decide)
 obtain ⟨v4, k4⟩ := cl 4 (by decide)
 obtain ⟨v5, k5⟩ := cl 5 (by decide)
 obtain ⟨v6, k6⟩ := cl 6 (by decide)
 obtain ⟨v7, k7⟩ := cl 7 (by decide)
 replace k0 : W0.cell? ⟨G, m * 8, none⟩ = some v0 := k0
 replace hBlk := Lib.hid hBlk
 clear hB0 hW0 hG cl
 go_enter Tryz.func98, Tryz.ntmps98
 go_wp2
 have q1' : Hid (Blk _ G (setRow l0 (m * 8) (rowE []))) := hrow
 clear hmk q1 q2 k0 k1 k2 k3 k4 k5 k6 k7
 obtain ⟨W1, hW1⟩ : ∃ W1, ((((((((W0.setCell ⟨G, m * 8, none⟩ (.int .i64 0)).setCell ⟨G, m * 8 + 1, none⟩ (.int .i64 1)).setCell ⟨G, m * 8 + 2, none⟩ (.int .i64 (-1))).setCell ⟨G, m * 8 + 3, none⟩ (.int .i64 0)).setCell ⟨G, m * 8 + 4, none⟩ (.int .i64 (-1))).setCell ⟨G, m * 8 + 5, none⟩ (.int .i64 0)).setCell ⟨G, m * 8 + 6, none⟩ (.int .i64 (-1))).setCell ⟨G, m * 8 + 7, none⟩ (.int .i64 0)) = W1 := ⟨_, rfl⟩
 replace q1' : Blk ((((((((W0.setCell ⟨G, m * 8, none⟩ (.int .i64 0)).setCell ⟨G, m * 8 + 1, none⟩ (.int .i64 1)).setCell ⟨G, m * 8 + 2, none⟩ (.int .i64 (-1))).setCell ⟨G, m * 8 + 3, none⟩ (.int .i64 0)).setCell ⟨G, m * 8 + 4, none⟩ (.int .i64 (-1))).setCell ⟨G, m * 8 + 5, none⟩ (.int .i64 0)).setCell ⟨G, m * 8 + 6, none⟩ (.int .i64 (-1))).setCell ⟨G, m * 8 + 7, none⟩ (.int .i64 0)) G (setRow l0 (m * 8) (rowE [])) := q1'.out
 have hlt1 : G < ((((((((W0.setCell ⟨G, m * 8, none⟩ (.int .i64 0)).setCell ⟨G, m * 8 + 1, none⟩ (.int .i64 1)).setCell ⟨G, m * 8 + 2, none⟩ (.int .i64 (-1))).setCell ⟨G, m * 8 + 3, none⟩ (.int .i64 0)).setCell ⟨G, m * 8 + 4, none⟩ (.int .i64 (-1))).setCell ⟨G, m * 8 + 5, none⟩ (.int .i64 0)).setCell ⟨G, m * 8 + 6, none⟩ (.int .i64 (-1))).setCell ⟨G, m * 8 + 7, none⟩ (.int .i64 0)).heap.size := by simpa using hlt
 have hset8 : ∀ (W : World) (p : Nat) (x0 x1 x2 x3 x4 x5 x6 x7 : Value), Below G w W → Below G w ((((((((W.setCell ⟨G, p, none⟩ x0).setCell ⟨G, p + 1, none⟩ x1).setCell ⟨G, p + 2, none⟩ x2).setCell ⟨G, p + 3, none⟩ x3).setCell ⟨G, p + 4, none⟩ x4).setCell ⟨G, p + 5, none⟩ x5).setCell ⟨G, p + 6, none⟩ x6).setCell ⟨G, p + 7, none⟩ x7) := fun W p x0 x1 x2 x3 x4 x5 x6 x7 h =>
  (((((((h.setCell (p := ⟨G, p, none⟩) (Nat.le_refl G) x0).setCell (p := ⟨G, p + 1, none⟩) (Nat.le_refl G) x1).setCell (p := ⟨G, p + 2, none⟩) (Nat.le_refl G) x2).setCell (p := ⟨G, p + 3, none⟩) (Nat.le_refl G) x3).setCell (p := ⟨G, p + 4, none⟩) (Nat.le_refl G) x4).setCell (p := ⟨G, p + 5, none⟩) (Nat.le_refl G) x5).setCell (p := ⟨G, p + 6, none⟩) (Nat.le_refl G) x6).setCell (p := ⟨G, p + 7, none⟩) (Nat.le_refl G) x7
 have hb1 := hset8 W0 (m * 8) (.int .i64 0) (.int .i64 1) (.int .i64 (-1)) (.int .i64 0) (.int .i64 (-1)) (.int .i64 0) (.int .i64 (-1)) (.int .i64 0) hb0
 rw [hW1] at q1' hlt1 hb1 ⊢
 replace q1' := Lib.hid q1'
 replace hlt1 := Lib.hid hlt1
 replace hset8 := Lib.hid hset8
 clear hW1 hrow hBlk f0 hlt hb0
 go_loopw [5] (fun iv wr => ∃ (K : Nat) (l : List Value), K ≤ m ∧ iv = .int .i64 ((K : Int) - 1) ∧ Hid (Blk wr G l) ∧ Hid (l.length = M * 8) ∧ Hid (TabL l (rc c) K m) ∧ Hid (G < wr.heap.size) ∧ Below G w wr) (fun iv _ => ((intOf iv) + 1).toNat)
 case atStart => exact ⟨m, _, Nat.le_refl _, rfl, q1', Lib.hid (by rw [setRow_len, hl0.out]), hT0, hlt1, hb1⟩
 case round =>
  clear q1' hT0 hlt1 hb1
  obtain ⟨K, l, hK, rfl, hg, hl, hT, hlt, hb⟩ := hrel
  by_cases h0 : K = 0
  ·subst h0
   have hx : ((0 : Nat) : Int) - 1 = -1 := by decide
   rw [hx]
   go_wp2
   go_ret
   refine ⟨G, rfl, ⟨hlt.out, fun q hq j hj => ?_⟩, by rw [hGh.out]; exact hb⟩
   rw [hg.out.cell]
   exact hT.out q (Nat.zero_le _) hq j hj
  ·obtain ⟨k, rfl⟩ : ∃ k, K = k + 1 := ⟨K - 1, by omega⟩
   have hx : ((k + 1 : Nat) : Int) - 1 = (k : Int) := by omega
   rw [hx]
   have hkm : k < m := by omega
   have hkr : k < (rc c).length := by rw [hrl.out]; exact hkm
   have hk2 : 2 * k + 1 < c.size := by have := hn.out; omega
   have hdrop := List.drop_eq_getElem_cons hkr
   have hpg : (rc c)[k] = (c[2 * k], c[2 * k + 1]) := pairs_get k _ hkr (by rw [size_list]; omega) (by rw [size_list]; exact hk2)
   have hfit := fun j (_ : j < 4) => rowE_fit ((rc c).drop (k + 1)) (by rw [List.length_drop, hrl.out]; omega) j
   have cb := fun W => before_any c k (rowE ((rc c).drop (k + 1))) W hk2 hc hfit
   have hF : ents (stepE (c[2 * k], c[2 * k + 1]) (rowE ((rc c).drop (k + 1)))) = ents (rowE ((rc c).drop k)) := by
    rw [hdrop, hpg]
    exact ents_congr fun s hs => stepE_row _ _ s hs
   rw [hF] at cb
   have hrow := RowAt.of (W := wr) (g := G) (p := (k + 1) * 8) (f := rowE ((rc c).drop (k + 1))) fun j hj => by
    rw [hg.out.cell]
    exact hT.out (k + 1) (Nat.le_refl _) (by omega) j hj
   obtain ⟨E, hE⟩ : ∃ E, rowE ((rc c).drop (k + 1)) = E := ⟨_, rfl⟩
   obtain ⟨F, hFF⟩ : ∃ F, rowE ((rc c).drop k) = F := ⟨_, rfl⟩
   rw [hE, hFF] at cb
   rw [hE] at hrow
   replace cb : ∀ W, Calls Tryz.prog 141 #[.string c, .int .i64 (k : Int), .agg #[.int .i64 (E 0).1, .int .i64 ((E 0).2 : Int), .int .i64 (E 1).1, .int .i64 ((E 1).2 : Int), .int .i64 (E 2).1, .int .i64 ((E 2).2 : Int), .int .i64 (E 3).1, .int .i64 ((E 3).2 : Int)]] W fun e w' =>
    e = .returned (.agg #[.int .i64 (F 0).1, .int .i64 ((F 0).2 : Int), .int .i64 (F 1).1, .int .i64 ((F 1).2 : Int), .int .i64 (F 2).1, .int .i64 ((F 2).2 : Int), .int .i64 (F 3).1, .int .i64 ((F 3).2 : Int)]) ∧ Below W.heap.size W w' := cb
   obtain ⟨c0, c1, c2, c3, c4, c5, c6, c7⟩ := hrow
   have i2 : (0 : Int) ≤ (k : Int) := by omega
   have i3 : (k : Int) < (M : Int) := by omega
   have i4 : (0 : Int) ≤ (k : Int) + 1 := by omega
   have i5 : (k : Int) + 1 < (M : Int) := by omega
   have i6 : IntKind.i64.wrap ((k : Int) + 1) = (k : Int) + 1 := IntWalk.i64_in _ (by omega)
   have i7 : ((k : Int) + 1).toNat = k + 1 := by omega
   replace cb := Lib.hid cb
   replace hFF := Lib.hid hFF
   clear hdrop hpg hfit hF hE
   go_wp2_with fail
   refine (cb.out _).mono ?_
   rintro e w5 ⟨rfl, hb5⟩
   have hg5 := hg.out.below hb5 hlt.out
   have hlt5 : G < w5.heap.size := Nat.lt_of_lt_of_le hlt.out hb5.size
   have hbw : Below G w w5 := hb.trans (hb5.mono (Nat.le_of_lt hlt.out))
   clear hg hlt hb hb5 c0 c1 c2 c3 c4 c5 c6 c7 cb
   have hrow2 := blk_row hg5 (k * 8) F (by rw [hl.out]; omega)
   have hT2 : TabL (setRow l (k * 8) F) (rc c) k m := TabL.step hT.out (by rw [hl.out, ← hM]) (by omega) (by rw [hFF.out])
   have fz := hg5.frz
   have cl : ∀ j, j < 8 → ∃ v, w5.cell? ⟨G, k * 8 + j, none⟩ = some v := fun j hj => by
    rw [hg5.cell]
    exact ⟨_, List.getElem?_eq_getElem (by rw [hl.out]; omega)⟩
   obtain ⟨v0, k0⟩ := cl 0 (by decide)
   obtain ⟨v1, k1⟩ := cl 1 (by decide)
   obtain ⟨v2, k2⟩ := cl 2 (by decide)
   obtain ⟨v3, k3⟩ := cl 3 (by decide)
   obtain ⟨v4, k4⟩ := cl 4 (by decide)
   obtain ⟨v5, k5⟩ := cl 5 (by decide)
   obtain ⟨v6, k6⟩ := cl 6 (by decide)
   obtain ⟨v7, k7⟩ := cl 7 (by decide)
   replace k0 : w5.cell? ⟨G, k * 8, none⟩ = some v0 := k0
   replace hrow2 := Lib.hid hrow2
   replace hT2 := Lib.hid hT2
   have hl2 : Hid ((setRow l (k * 8) F).length = M * 8) := Lib.hid (by rw [setRow_len]; exact hl.out)
   have hlt2 : Hid (G < ((((((((w5.setCell ⟨G, k * 8, none⟩ (.int .i64 (F 0).1)).setCell ⟨G, k * 8 + 1, none⟩ (.int .i64 ((F 0).2 : Int))).setCell ⟨G, k * 8 + 2, none⟩ (.int .i64 (F 1).1)).setCell ⟨G, k * 8 + 3, none⟩ (.int .i64 ((F 1).2 : Int))).setCell ⟨G, k * 8 + 4, none⟩ (.int .i64 (F 2).1)).setCell ⟨G, k * 8 + 5, none⟩ (.int .i64 ((F 2).2 : Int))).setCell ⟨G, k * 8 + 6, none⟩ (.int .i64 (F 3).1)).setCell ⟨G, k * 8 + 7, none⟩ (.int .i64 ((F 3).2 : Int))).heap.size) := Lib.hid (by simpa using hlt5)
   have hb2 := hset8.out w5 (k * 8) (.int .i64 (F 0).1) (.int .i64 ((F 0).2 : Int)) (.int .i64 (F 1).1) (.int .i64 ((F 1).2 : Int)) (.int .i64 (F 2).1) (.int .i64 ((F 2).2 : Int)) (.int .i64 (F 3).1) (.int .i64 ((F 3).2 : Int)) hbw
   replace hg5 := Lib.hid hg5
   clear cl hT hl
   go_wp2
   go_roundw
   case rel => exact ⟨k, _, by omega, by go_num, hrow2, hl2, hT2, hlt2, hb2⟩
   case measure => simp [intOf]
end V10
end Go.Proofs.YtiodkllckcpinaaGreatDoor
