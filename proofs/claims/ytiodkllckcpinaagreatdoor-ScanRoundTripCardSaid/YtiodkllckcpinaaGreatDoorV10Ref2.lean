/- The contract of the reference of layer 10: before (one row of the table). -/
import Derived.Test.YtiodkllckcpinaaGreatDoorM14AY
import Derived.Test.YtiodkllckcpinaaGreatDoorC9Ref1
import Derived.Test.YtiodkllckcpinaaGreatDoorM14AD
import Derived.Laws.Rows
set_option linter.unusedVariables false
set_option linter.unusedSimpArgs false
set_option maxRecDepth 100000
namespace Go.Proofs.YtiodkllckcpinaaGreatDoor
namespace V10
open Go.RowKit Mem C9

def ents (f : Nat → Entry) : List Value := [.int .i64 (f 0).1, .int .i64 ((f 0).2 : Int), .int .i64 (f 1).1, .int .i64 ((f 1).2 : Int), .int .i64 (f 2).1, .int .i64 ((f 2).2 : Int), .int .i64 (f 3).1, .int .i64 ((f 3).2 : Int)]
def stepE (r : UInt8 × UInt8) (E : Nat → Entry) (s : Nat) : Entry :=
 add1 (add1 (-1, 0) (mm r (hi s) (lo s) false) (E (stN false (hi s)))) (mm r (hi s) (lo s) true) (E (stN true (hi s)))
def rowE (R : List (UInt8 × UInt8)) (s : Nat) : Entry := tb R (hi s) (lo s)
theorem stepE_row (r : UInt8 × UInt8) (R : List (UInt8 × UInt8)) : ∀ s, s < 4 → stepE r (rowE R) s = rowE (r :: R) s := by
 intro s hs
 have : s = 0 ∨ s = 1 ∨ s = 2 ∨ s = 3 := by omega
 rcases this with rfl | rfl | rfl | rfl <;> rfl
theorem ents_congr {f g : Nat → Entry} (h : ∀ s, s < 4 → f s = g s) : ents f = ents g := by
 unfold ents
 rw [h 0 (by decide), h 1 (by decide), h 2 (by decide), h 3 (by decide)]
def upd (f : Nat → Entry) (s : Nat) (e : Entry) (j : Nat) : Entry := if j = s then e else f j
theorem ents_upd (f : Nat → Entry) (s : Nat) (hs : s < 4) (e : Entry) : ((ents f).set (s * 2) (.int .i64 e.1)).set (s * 2 + 1) (.int .i64 (e.2 : Int)) = ents (upd f s e) := by
 have : s = 0 ∨ s = 1 ∨ s = 2 ∨ s = 3 := by omega
 rcases this with rfl | rfl | rfl | rfl <;> rfl
theorem ents_upd2 (f : Nat → Entry) (s : Nat) (hs : s < 4) (n : Nat) : (ents f).set (s * 2 + 1) (.int .i64 (n : Int)) = ents (upd f s ((f s).1, n)) := by
 have : s = 0 ∨ s = 1 ∨ s = 2 ∨ s = 3 := by omega
 rcases this with rfl | rfl | rfl | rfl <;> rfl
theorem ents_get1 (f : Nat → Entry) (s : Nat) (hs : s < 4) (h : s * 2 < (ents f).length) : (ents f)[s * 2] = .int .i64 (f s).1 := by
 have : s = 0 ∨ s = 1 ∨ s = 2 ∨ s = 3 := by omega
 rcases this with rfl | rfl | rfl | rfl <;> rfl
theorem ents_get2 (f : Nat → Entry) (s : Nat) (hs : s < 4) (h : s * 2 + 1 < (ents f).length) : (ents f)[s * 2 + 1] = .int .i64 ((f s).2 : Int) := by
 have : s = 0 ∨ s = 1 ∨ s = 2 ∨ s = 3 := by omega
 rcases this with rfl | rfl | rfl | rfl <;> rfl
theorem rnext_at (s1 s2 u : Bool) (w : World) : Calls Tryz.prog 99 #[.int .i64 (stN s1 s2 : Int), .int .i64 (bn u : Int)] w fun e w' =>
  e = .returned (.tuple #[.int .i64 (stN u s1 : Int), .string (sb [u ^^ s1 ^^ s2, u ^^ s2])]) ∧ Below w.heap.size w w' := by
 have h := rnext_any (stN s1 s2 : Int) (bn u : Int) w (by cases s1 <;> cases s2 <;> decide) (by cases s1 <;> cases s2 <;> decide) (by cases u <;> decide) (by cases u <;> decide)
 unfold Nxt at h
 rw [show oneB (stN s1 s2 : Int) = s1 by cases s1 <;> cases s2 <;> decide, show twoB (stN s1 s2 : Int) = s2 by cases s1 <;> cases s2 <;> decide, show twoB (bn u : Int) = u by cases u <;> decide] at h
 exact h
def Blk (W : World) (g : Nat) (l : List Value) : Prop := W.heap[g]? = some (.cells l.toArray 129 (0, 0))
theorem Blk.cell {W : World} {g : Nat} {l : List Value} (h : Blk W g l) (j : Nat) : W.cell? ⟨g, j, none⟩ = l[j]? := by
 unfold Blk at h
 simp [World.cell?, h]
theorem Blk.frz {W : World} {g : Nat} {l : List Value} (h : Blk W g l) (j : Nat) : W.frozen? ⟨g, j, none⟩ = false := by
 unfold Blk at h
 simp [World.frozen?, h]
theorem Blk.set {W : World} {g : Nat} {l : List Value} (h : Blk W g l) (j : Nat) (v : Value) (hj : j < l.length) : Blk (W.setCell ⟨g, j, none⟩ v) g (l.set j v) := by
 unfold Blk at *
 simp [World.setCell, Array.getElem?_modify, h]
theorem Blk.far {W : World} {g g' : Nat} {l : List Value} (h : Blk W g l) (hne : g' ≠ g) (j : Nat) (v : Value) : Blk (W.setCell ⟨g', j, none⟩ v) g l := by
 unfold Blk at *
 rw [← h]
 exact Below.heap_setCell _ _ _ _ (fun e => hne e.symm)
theorem Blk.below {W W' : World} {g : Nat} {l : List Value} (h : Blk W g l) (k : Below W.heap.size W W') (hg : g < W.heap.size) : Blk W' g l := (k.block g hg).trans h
theorem ents_len (f : Nat → Entry) : (ents f).length = 8 := rfl
theorem ents_at1 (f : Nat → Entry) (s : Nat) (hs : s < 4) : (ents f)[s * 2]? = some (.int .i64 (f s).1) := by
 rw [List.getElem?_eq_getElem (by rw [ents_len]; omega), ents_get1 f s hs]
theorem ents_at2 (f : Nat → Entry) (s : Nat) (hs : s < 4) : (ents f)[s * 2 + 1]? = some (.int .i64 ((f s).2 : Int)) := by
 rw [List.getElem?_eq_getElem (by rw [ents_len]; omega), ents_get2 f s hs]
theorem upd_same (f : Nat → Entry) (s : Nat) (e : Entry) : upd f s e s = e := if_pos rfl
theorem upd_upd (f : Nat → Entry) (s : Nat) (e e' : Entry) : upd (upd f s e) s e' = upd f s e' := by
 funext j
 unfold upd
 split <;> rfl
def part (F : Nat → Entry) (s : Nat) (j : Nat) : Entry := if j < s then F j else (0, 0)
theorem part_step (F : Nat → Entry) (s : Nat) : upd (part F s) s (F s) = part F (s + 1) := by
 funext j
 unfold upd part
 by_cases h : j = s
 ·subst h
  rw [if_pos rfl, if_pos (by omega)]
 ·rw [if_neg h]
  by_cases h2 : j < s
  ·rw [if_pos h2, if_pos (by omega)]
  ·rw [if_neg h2, if_neg (by omega)]
set_option maxHeartbeats 16000000 in
theorem before_any (c : ByteArray) (k : Nat) (E : Nat → Entry) (w : World) (hk : 2 * k + 1 < c.size) (hc : c.size ≤ 100000) (hE : ∀ j, j < 4 → -1 ≤ (E j).1 ∧ (E j).1 ≤ 1000000 ∧ (E j).2 ≤ 2) :
  Calls Tryz.prog 141 #[.string c, .int .i64 (k : Int), .agg (ents E).toArray] w fun e w' => e = .returned (.agg (ents (stepE (c[2 * k], c[2 * k + 1]) E)).toArray) ∧ Below w.heap.size w w' := by
 have hun : (.agg (ents E).toArray : Value) = .agg #[.int .i64 (E 0).1, .int .i64 ((E 0).2 : Int), .int .i64 (E 1).1, .int .i64 ((E 1).2 : Int), .int .i64 (E 2).1, .int .i64 ((E 2).2 : Int), .int .i64 (E 3).1, .int .i64 ((E 3).2 : Int)] := rfl
 have hF : ∀ s, stepE (c[2 * k], c[2 * k + 1]) E s = add1 (add1 (-1, 0) (mm (c[2 * k], c[2 * k + 1]) (hi s) (lo s) false) (E (stN false (hi s)))) (mm (c[2 * k], c[2 * k + 1]) (hi s) (lo s) true) (E (stN true (hi s))) := fun s => rfl
 have hM := fun (s1 s2 u : Bool) W => mismatch_any c k (u ^^ s1 ^^ s2) (u ^^ s2) W hk (by omega)
 have hm2 : ∀ s1 s2 u : Bool, (mis c[2 * k] (u ^^ s1 ^^ s2) + mis c[2 * k + 1] (u ^^ s2)) = mm (c[2 * k], c[2 * k + 1]) s1 s2 u := fun s1 s2 u => rfl
 simp only [hm2] at hM
 obtain ⟨r, hr⟩ : ∃ r, (c[2 * k], c[2 * k + 1]) = r := ⟨_, rfl⟩
 rw [hr] at hF ⊢
 simp only [hr] at hM
 obtain ⟨F, hFF⟩ : ∃ F, stepE r E = F := ⟨_, rfl⟩
 rw [hFF] at hF ⊢
 obtain ⟨G, hG⟩ : ∃ G, w.heap.size = G := ⟨_, rfl⟩
 have hst : ∃ W0, ((w.alloc (.cells #[.int .i64 (E 0).1, .int .i64 ((E 0).2 : Int), .int .i64 (E 1).1, .int .i64 ((E 1).2 : Int), .int .i64 (E 2).1, .int .i64 ((E 2).2 : Int), .int .i64 (E 3).1, .int .i64 ((E 3).2 : Int)] 129)).alloc (.cells #[.int .i64 0, .int .i64 0, .int .i64 0, .int .i64 0, .int .i64 0, .int .i64 0, .int .i64 0, .int .i64 0] 129)).alloc (.cells #[.int .i64 0, .int .i64 0, .int .i64 0, .int .i64 0, .int .i64 0, .int .i64 0, .int .i64 0, .int .i64 0] 129) = W0 ∧
   Blk W0 G (ents E) ∧ Blk W0 (G + 1) (ents (part F 0)) ∧ Blk W0 (G + 1 + 1) (ents (part F 0)) ∧ G + 1 + 1 < W0.heap.size ∧ Below G w W0 := by
  subst hG
  refine ⟨_, rfl, ?_, ?_, ?_, by simp, ?_⟩
  ·unfold Blk
   rw [Lib.alloc_old _ _ _ (by simp; omega), Lib.alloc_old _ _ _ (by simp)]
   exact World.alloc_heap_new w _
  ·unfold Blk
   rw [Lib.alloc_old _ _ _ (by simp)]
   have := World.alloc_heap_new (w.alloc (.cells #[.int .i64 (E 0).1, .int .i64 ((E 0).2 : Int), .int .i64 (E 1).1, .int .i64 ((E 1).2 : Int), .int .i64 (E 2).1, .int .i64 ((E 2).2 : Int), .int .i64 (E 3).1, .int .i64 ((E 3).2 : Int)] 129)) (.cells #[.int .i64 0, .int .i64 0, .int .i64 0, .int .i64 0, .int .i64 0, .int .i64 0, .int .i64 0, .int .i64 0] 129)
   rw [World.size_alloc] at this
   exact this
  ·unfold Blk
   have := World.alloc_heap_new ((w.alloc (.cells #[.int .i64 (E 0).1, .int .i64 ((E 0).2 : Int), .int .i64 (E 1).1, .int .i64 ((E 1).2 : Int), .int .i64 (E 2).1, .int .i64 ((E 2).2 : Int), .int .i64 (E 3).1, .int .i64 ((E 3).2 : Int)] 129)).alloc (.cells #[.int .i64 0, .int .i64 0, .int .i64 0, .int .i64 0, .int .i64 0, .int .i64 0, .int .i64 0, .int .i64 0] 129)) (.cells #[.int .i64 0, .int .i64 0, .int .i64 0, .int .i64 0, .int .i64 0, .int .i64 0, .int .i64 0, .int .i64 0] 129)
   rw [World.size_alloc, World.size_alloc] at this
   exact this
  ·exact (((Below.refl _ w).alloc (Nat.le_refl _) _).alloc (by simp) _).alloc (by simp; omega) _
 obtain ⟨W0, hW0, q1, q2, q3, q4, q5⟩ := hst
 replace hF := Lib.hid hF
 replace hM := Lib.hid hM
 replace q1 := Lib.hid q1
 replace q2 := Lib.hid q2
 replace q3 := Lib.hid q3
 replace q4 := Lib.hid q4
 replace hE := Lib.hid hE
 have hk6 : k ≤ 100000 := by omega
 rw [hun]
 replace hW0 := Lib.hid hW0
 replace hG := Lib.hid hG
 clear hun hm2 hr hFF hk hc
 go_enter Tryz.func141, Tryz.ntmps141
 go_wp2
 rw [hW0.out, hG.out]
 go_loopw [8] (fun sv wr => ∃ s : Nat, s ≤ 4 ∧ sv = .int .i64 (s : Int) ∧ Hid (Blk wr G (ents E)) ∧ Hid (Blk wr (G + 1) (ents (part F 0))) ∧ Hid (Blk wr (G + 1 + 1) (ents (part F s))) ∧ Hid (G + 1 + 1 < wr.heap.size) ∧ Below G w wr) (fun sv _ => 4 - (intOf sv).toNat)
 case atStart => exact ⟨0, by decide, rfl, q1, q2, q3, q4, q5⟩
 case round =>
  clear q1 q2 q3 q4 q5 hW0
  obtain ⟨s, hs4, rfl, hg1, hg2, hg3, hsz, hb⟩ := hrel
  by_cases hs : s < 4
  ·have i0 : (0 : Int) ≤ (s : Int) := by omega
   have i1 : (s : Int) < 4 := by omega
   have dl : decide ((s : Int) < 4) = true := decide_eq_true i1
   have dl' : decide (s < 4) = true := decide_eq_true hs
   have hset : ∀ (W : World) (x : Int) (y : Nat) (f : Nat → Entry), Blk W (G + 1 + 1) (ents f) → Blk ((W.setCell ⟨G + 1 + 1, s * 2, none⟩ (.int .i64 x)).setCell ⟨G + 1 + 1, s * 2 + 1, none⟩ (.int .i64 (y : Int))) (G + 1 + 1) (ents (upd f s (x, y))) := fun W x y f h => by
    have := (h.set (s * 2) (.int .i64 x) (by rw [ents_len]; omega)).set (s * 2 + 1) (.int .i64 (y : Int)) (by rw [List.length_set, ents_len]; omega)
    rw [ents_upd f s hs (x, y)] at this
    exact this
   have hset2 : ∀ (W : World) (y : Nat) (f : Nat → Entry), Blk W (G + 1 + 1) (ents f) → Blk (W.setCell ⟨G + 1 + 1, s * 2 + 1, none⟩ (.int .i64 (y : Int))) (G + 1 + 1) (ents (upd f s ((f s).1, y))) := fun W y f h => by
    have := h.set (s * 2 + 1) (.int .i64 (y : Int)) (by rw [ents_len]; omega)
    rw [ents_upd2 f s hs y] at this
    exact this
   have f1 := hg3.out.frz (s * 2)
   have f2 := hg3.out.frz (s * 2 + 1)
   have c1 := (hg3.out.cell (s * 2)).trans (ents_at1 _ s hs)
   have c2 := (hg3.out.cell (s * 2 + 1)).trans (ents_at2 _ s hs)
   replace hset := Lib.hid hset
   replace hset2 := Lib.hid hset2
   have hn := stN_hilo s hs
   have cN0 := fun W => rnext_at (hi s) (lo s) false W
   have cN1 := fun W => rnext_at (hi s) (lo s) true W
   have hFs := hF.out s
   have cM0 := fun W => hM.out (hi s) (lo s) false W
   have cM1 := fun W => hM.out (hi s) (lo s) true W
   rw [hn] at cN0 cN1
   rw [show (bn false : Int) = 0 from rfl] at cN0
   rw [show (bn true : Int) = 1 from rfl] at cN1
   have l0 := mm_le r (hi s) (lo s) false
   have l1 := mm_le r (hi s) (lo s) true
   obtain ⟨n0, hn0⟩ : ∃ n, stN false (hi s) = n := ⟨_, rfl⟩
   obtain ⟨n1, hn1⟩ : ∃ n, stN true (hi s) = n := ⟨_, rfl⟩
   have h04 : n0 < 4 := by rw [← hn0]; exact hi_lo_next s false
   have h14 : n1 < 4 := by rw [← hn1]; exact hi_lo_next s true
   obtain ⟨m0, hm0⟩ : ∃ n, mm r (hi s) (lo s) false = n := ⟨_, rfl⟩
   obtain ⟨m1, hm1⟩ : ∃ n, mm r (hi s) (lo s) true = n := ⟨_, rfl⟩
   obtain ⟨O0, hO0⟩ : ∃ n, sb [false ^^ (hi s) ^^ (lo s), false ^^ (lo s)] = n := ⟨_, rfl⟩
   obtain ⟨O1, hO1⟩ : ∃ n, sb [true ^^ (hi s) ^^ (lo s), true ^^ (lo s)] = n := ⟨_, rfl⟩
   rw [hn0, hO0] at cN0
   rw [hn1, hO1] at cN1
   rw [hO0, hm0] at cM0
   rw [hO1, hm1] at cM1
   rw [hn0, hn1, hm0, hm1] at hFs
   rw [hm0] at l0
   rw [hm1] at l1
   obtain ⟨b01, b02, b03⟩ := hE.out n0 h04
   obtain ⟨b11, b12, b13⟩ := hE.out n1 h14
   obtain ⟨e1, he1⟩ : ∃ e, add1 (-1, 0) m0 (E n0) = e := ⟨_, rfl⟩
   rw [he1] at hFs
   have be1 : -1 ≤ e1.1 ∧ e1.1 ≤ 2000000 ∧ e1.2 ≤ 2 := by
    rw [← he1]
    unfold add1
    split
    ·exact ⟨by decide, by decide, by decide⟩
    ·split
     ·exact ⟨by show -1 ≤ (m0 : Int) + (E n0).1; omega, by show (m0 : Int) + (E n0).1 ≤ _; omega, b03⟩
     ·split
      ·exact ⟨by decide, by decide, by decide⟩
      ·exact ⟨by decide, by decide, by decide⟩
   obtain ⟨eF, heF⟩ : ∃ e, F s = e := ⟨_, rfl⟩
   rw [heF] at hFs
   obtain ⟨x0, y0, hE0⟩ : ∃ x y, E n0 = (x, y) := ⟨_, _, rfl⟩
   obtain ⟨x1, y1, hE1⟩ : ∃ x y, E n1 = (x, y) := ⟨_, _, rfl⟩
   have ca : ∀ (W : World), Blk W G (ents E) → W.cell? ⟨G, n0 * 2, none⟩ = some (.int .i64 x0) ∧ W.cell? ⟨G, n0 * 2 + 1, none⟩ = some (.int .i64 (y0 : Int)) ∧ W.cell? ⟨G, n1 * 2, none⟩ = some (.int .i64 x1) ∧ W.cell? ⟨G, n1 * 2 + 1, none⟩ = some (.int .i64 (y1 : Int)) := fun W h => by
    have g1 := (h.cell (n0 * 2)).trans (ents_at1 _ n0 h04)
    have g2 := (h.cell (n0 * 2 + 1)).trans (ents_at2 _ n0 h04)
    have g3 := (h.cell (n1 * 2)).trans (ents_at1 _ n1 h14)
    have g4 := (h.cell (n1 * 2 + 1)).trans (ents_at2 _ n1 h14)
    rw [hE0] at g1 g2
    rw [hE1] at g3 g4
    exact ⟨g1, g2, g3, g4⟩
   rw [hE0] at b01 b02 b03 he1
   rw [hE1] at b11 b12 b13 hFs
   replace b01 : -1 ≤ x0 := b01
   replace b02 : x0 ≤ 1000000 := b02
   replace b03 : y0 ≤ 2 := b03
   replace b11 : -1 ≤ x1 := b11
   replace b12 : x1 ≤ 1000000 := b12
   replace b13 : y1 ≤ 2 := b13
   have cb : ∀ (W : World) (e : Entry), Blk W (G + 1 + 1) (ents (upd (part F s) s e)) → W.cell? ⟨G + 1 + 1, s * 2, none⟩ = some (.int .i64 e.1) ∧ W.cell? ⟨G + 1 + 1, s * 2 + 1, none⟩ = some (.int .i64 (e.2 : Int)) ∧ W.frozen? ⟨G + 1 + 1, s * 2, none⟩ = false ∧ W.frozen? ⟨G + 1 + 1, s * 2 + 1, none⟩ = false := fun W e h => by
    have g1 := (h.cell (s * 2)).trans (ents_at1 _ s hs)
    have g2 := (h.cell (s * 2 + 1)).trans (ents_at2 _ s hs)
    rw [upd_same] at g1 g2
    exact ⟨g1, g2, h.frz _, h.frz _⟩
   obtain ⟨u1, v1, rfl⟩ : ∃ x y, e1 = (x, y) := ⟨_, _, rfl⟩
   obtain ⟨uF, vF, rfl⟩ : ∃ x y, eF = (x, y) := ⟨_, _, rfl⟩
   replace be1 : -1 ≤ u1 ∧ u1 ≤ 2000000 ∧ v1 ≤ 2 := be1
   obtain ⟨be1, be2, be3⟩ := be1
   replace ca := Lib.hid ca
   replace cb := Lib.hid cb
   replace cN0 := Lib.hid cN0
   replace cN1 := Lib.hid cN1
   replace cM0 := Lib.hid cM0
   replace cM1 := Lib.hid cM1
   replace he1 := Lib.hid he1
   replace hFs := Lib.hid hFs.symm
   replace heF := Lib.hid heF
   have j01 : (0 : Int) ≤ (n0 : Int) := by omega
   have j02 : (n0 : Int) < 4 := by omega
   have j11 : (0 : Int) ≤ (n1 : Int) := by omega
   have j12 : (n1 : Int) < 4 := by omega
   clear hn hn0 hn1 hm0 hm1 hO0 hO1 hE0 hE1
   go_wp2
   have q1 := Lib.hid ((hg1.out.far (g' := G + 1 + 1) (by omega) (s * 2) (.int .i64 (-1))).far (g' := G + 1 + 1) (by omega) (s * 2 + 1) (.int .i64 0))
   have q2 := Lib.hid ((hg2.out.far (g' := G + 1 + 1) (by omega) (s * 2) (.int .i64 (-1))).far (g' := G + 1 + 1) (by omega) (s * 2 + 1) (.int .i64 0))
   have q3 := Lib.hid (hset.out wr (-1) 0 _ hg3.out)
   have q4 := Lib.hid (show G + 1 + 1 < ((wr.setCell ⟨G + 1 + 1, s * 2, none⟩ (.int .i64 (-1))).setCell ⟨G + 1 + 1, s * 2 + 1, none⟩ (.int .i64 0)).heap.size by simpa using hsz.out)
   have q5 := (hb.setCell (p := ⟨G + 1 + 1, s * 2, none⟩) (by show G ≤ G + 1 + 1; omega) (.int .i64 (-1))).setCell (p := ⟨G + 1 + 1, s * 2 + 1, none⟩) (by show G ≤ G + 1 + 1; omega) (.int .i64 0)
   obtain ⟨W1, hW1⟩ : ∃ W1, (wr.setCell ⟨G + 1 + 1, s * 2, none⟩ (.int .i64 (-1))).setCell ⟨G + 1 + 1, s * 2 + 1, none⟩ (.int .i64 0) = W1 := ⟨_, rfl⟩
   replace q3 : Hid (Blk ((wr.setCell ⟨G + 1 + 1, s * 2, none⟩ (.int .i64 (-1))).setCell ⟨G + 1 + 1, s * 2 + 1, none⟩ (.int .i64 0)) (G + 1 + 1) (ents (upd (part F s) s (-1, 0)))) := q3
   rw [hW1] at q1 q2 q3 q4 q5 ⊢
   clear hW1 f1 f2 c1 c2 hg1 hg2 hg3 hsz hb
   go_loopw [9] (fun bv wr => ∃ b : Nat, b ≤ 2 ∧ bv = .int .i64 (b : Int) ∧ Hid (Blk wr G (ents E)) ∧ Hid (Blk wr (G + 1) (ents (part F 0))) ∧ Hid (Blk wr (G + 1 + 1) (ents (upd (part F s) s (if b = 0 then (-1, 0) else if b = 1 then (u1, v1) else (uF, vF))))) ∧ Hid (G + 1 + 1 < wr.heap.size) ∧ Below G w wr) (fun bv _ => 2 - (intOf bv).toNat)
   case atStart => exact ⟨0, by decide, rfl, q1, q2, q3, q4, q5⟩
   case round =>
    clear q1 q2 q3 q4 q5
    obtain ⟨b, hb2, rfl, hg1, hg2, hg3, hsz, hb⟩ := hrel
    have hb3 : b = 0 ∨ b = 1 ∨ b = 2 := by omega
    clear hb2
    rcases hb3 with rfl | rfl | rfl
    ·replace hg3 : Hid (Blk wr (G + 1 + 1) (ents (upd (part F s) s ((-1), 0)))) := hg3
     go_wp2_with fail
     refine (cN0.out _).mono ?_
     rintro e w5 ⟨rfl, hb5⟩
     have hsz' := hsz.out
     have g1 := hg1.out.below hb5 (by omega)
     have g2 := hg2.out.below hb5 (by omega)
     have g3 := hg3.out.below hb5 (by omega)
     have g4 : G + 1 + 1 < w5.heap.size := Nat.lt_of_lt_of_le hsz' hb5.size
     have g5 : Below G w w5 := hb.trans (hb5.mono (by omega))
     clear hg1 hg2 hg3 hsz hsz' hb hb5
     obtain ⟨k1, k2, k3, k4⟩ := ca.out w5 g1
     obtain ⟨k5, k6, k7, k8⟩ := cb.out w5 _ g3
     replace k5 : w5.cell? ⟨G + 1 + 1, s * 2, none⟩ = some (.int .i64 ((-1) : Int)) := k5
     replace k6 : w5.cell? ⟨G + 1 + 1, s * 2 + 1, none⟩ = some (.int .i64 ((0 : Nat) : Int)) := k6
     replace g1 := Lib.hid g1
     replace g2 := Lib.hid g2
     replace g3 := Lib.hid g3
     replace g4 := Lib.hid g4
     have hw : IntKind.i64.wrap ((m0 : Int) + x0) = (m0 : Int) + x0 := IntWalk.i64_in _ (by omega)
     have hval := he1.out
     unfold add1 at hval
     by_cases ha : x0 < 0
     ·rw [if_pos ha] at hval
      have d1 : decide (x0 < 0) = true := decide_eq_true ha
      have q1 := g1
      have q2 := g2
      have q3 : Hid (Blk w5 (G + 1 + 1) (ents (upd (part F s) s (u1, v1)))) := Lib.hid (by rw [← hval]; exact g3.out)
      have q4 := g4
      have q5 := g5
      clear hval
      go_wp2
      go_roundw
      case rel => exact ⟨1, by decide, rfl, q1, q2, q3, q4, q5⟩
      case measure => simp [intOf]
     ·rw [if_neg ha] at hval
      have d1 : decide (x0 < 0) = false := decide_eq_false ha
      replace hval := Lib.hid hval
      go_wp2
      go_quiet ((go_at_call 100; exact Calls.quiet_of (cM0.out _)))
      obtain ⟨w6, hw6⟩ : ∃ W, w5.drewN nq = W := ⟨_, rfl⟩
      have q1 : Hid (Blk w6 G (ents E)) := by rw [← hw6]; exact g1
      have q2 : Hid (Blk w6 (G + 1) (ents (part F 0))) := by rw [← hw6]; exact g2
      have g3' : Hid (Blk w6 (G + 1 + 1) (ents (upd (part F s) s ((-1), 0)))) := by rw [← hw6]; exact g3
      have q4 : Hid (G + 1 + 1 < w6.heap.size) := by rw [← hw6]; exact g4
      have g5' : Below G w w6 := by rw [← hw6]; exact ⟨g5.os, g5.tape, g5.output, g5.size, g5.block⟩
      obtain ⟨k1, k2, k3, k4⟩ := ca.out w6 q1.out
      obtain ⟨k5, k6, k7, k8⟩ := cb.out w6 _ g3'.out
      replace k5 : w6.cell? ⟨G + 1 + 1, s * 2, none⟩ = some (.int .i64 ((-1) : Int)) := k5
      replace k6 : w6.cell? ⟨G + 1 + 1, s * 2 + 1, none⟩ = some (.int .i64 ((0 : Nat) : Int)) := k6
      rw [hw6]
      clear hw6 g1 g2 g3 g4 g5
      have hset' := hset.out w6 ((m0 : Int) + x0) y0 _ g3'.out
      rw [upd_upd] at hset'
      have hset2' := hset2.out w6 2 _ g3'.out
      rw [upd_upd, upd_same] at hset2'
      have far1 : ∀ (x : Int) (y : Nat), Hid (Blk ((w6.setCell ⟨G + 1 + 1, s * 2, none⟩ (.int .i64 x)).setCell ⟨G + 1 + 1, s * 2 + 1, none⟩ (.int .i64 (y : Int))) G (ents E)) := fun x y => Lib.hid ((q1.out.far (g' := G + 1 + 1) (by omega) _ _).far (g' := G + 1 + 1) (by omega) _ _)
      have far2 : ∀ (x : Int) (y : Nat), Hid (Blk ((w6.setCell ⟨G + 1 + 1, s * 2, none⟩ (.int .i64 x)).setCell ⟨G + 1 + 1, s * 2 + 1, none⟩ (.int .i64 (y : Int))) (G + 1) (ents (part F 0))) := fun x y => Lib.hid ((q2.out.far (g' := G + 1 + 1) (by omega) _ _).far (g' := G + 1 + 1) (by omega) _ _)
      have far4 : ∀ (x : Int) (y : Nat), Hid (G + 1 + 1 < ((w6.setCell ⟨G + 1 + 1, s * 2, none⟩ (.int .i64 x)).setCell ⟨G + 1 + 1, s * 2 + 1, none⟩ (.int .i64 (y : Int))).heap.size) := fun x y => Lib.hid (by simpa using q4.out)
      have far5 : ∀ (x : Int) (y : Nat), Below G w ((w6.setCell ⟨G + 1 + 1, s * 2, none⟩ (.int .i64 x)).setCell ⟨G + 1 + 1, s * 2 + 1, none⟩ (.int .i64 (y : Int))) := fun x y => (g5'.setCell (p := ⟨G + 1 + 1, s * 2, none⟩) (by show G ≤ G + 1 + 1; omega) _).setCell (p := ⟨G + 1 + 1, s * 2 + 1, none⟩) (by show G ≤ G + 1 + 1; omega) _
      by_cases hneg : ((-1) : Int) < 0
      ·have hv := hval.out
       rw [if_pos (.inl hneg)] at hv
       have d2 : decide (((-1) : Int) < 0) = true := decide_eq_true hneg
       have q3 : Hid (Blk ((w6.setCell ⟨G + 1 + 1, s * 2, none⟩ (.int .i64 ((m0 : Int) + x0))).setCell ⟨G + 1 + 1, s * 2 + 1, none⟩ (.int .i64 ((y0 : Nat) : Int))) (G + 1 + 1) (ents (upd (part F s) s (u1, v1)))) := Lib.hid (by rw [← hv]; exact hset')
       have q1' := far1 ((m0 : Int) + x0) y0
       have q2' := far2 ((m0 : Int) + x0) y0
       have q4' := far4 ((m0 : Int) + x0) y0
       have q5' := far5 ((m0 : Int) + x0) y0
       clear hv hset' hset2' far1 far2 far4 far5 hval g3' q1 q2 q4 g5'
       go_wp2
       go_roundw
       case rel => exact ⟨1, by decide, rfl, q1', q2', q3, q4', q5'⟩
       case measure => simp [intOf]
      ·exact absurd (by decide) hneg
    ·replace hg3 : Hid (Blk wr (G + 1 + 1) (ents (upd (part F s) s (u1, v1)))) := hg3
     go_wp2_with fail
     refine (cN1.out _).mono ?_
     rintro e w5 ⟨rfl, hb5⟩
     have hsz' := hsz.out
     have g1 := hg1.out.below hb5 (by omega)
     have g2 := hg2.out.below hb5 (by omega)
     have g3 := hg3.out.below hb5 (by omega)
     have g4 : G + 1 + 1 < w5.heap.size := Nat.lt_of_lt_of_le hsz' hb5.size
     have g5 : Below G w w5 := hb.trans (hb5.mono (by omega))
     clear hg1 hg2 hg3 hsz hsz' hb hb5
     obtain ⟨k1, k2, k3, k4⟩ := ca.out w5 g1
     obtain ⟨k5, k6, k7, k8⟩ := cb.out w5 _ g3
     replace k5 : w5.cell? ⟨G + 1 + 1, s * 2, none⟩ = some (.int .i64 (u1 : Int)) := k5
     replace k6 : w5.cell? ⟨G + 1 + 1, s * 2 + 1, none⟩ = some (.int .i64 ((v1 : Nat) : Int)) := k6
     replace g1 := Lib.hid g1
     replace g2 := Lib.hid g2
     replace g3 := Lib.hid g3
     replace g4 := Lib.hid g4
     have hw : IntKind.i64.wrap ((m1 : Int) + x1) = (m1 : Int) + x1 := IntWalk.i64_in _ (by omega)
     have hval := hFs.out
     unfold add1 at hval
     by_cases ha : x1 < 0
     ·rw [if_pos ha] at hval
      have d1 : decide (x1 < 0) = true := decide_eq_true ha
      have q1 := g1
      have q2 := g2
      have q3 : Hid (Blk w5 (G + 1 + 1) (ents (upd (part F s) s (uF, vF)))) := Lib.hid (by rw [← hval]; exact g3.out)
      have q4 := g4
      have q5 := g5
      clear hval
      go_wp2
      go_roundw
      case rel => exact ⟨2, by decide, rfl, q1, q2, q3, q4, q5⟩
      case measure => simp [intOf]
     ·rw [if_neg ha] at hval
      have d1 : decide (x1 < 0) = false := decide_eq_false ha
      replace hval := Lib.hid hval
      go_wp2
      go_quiet ((go_at_call 100; exact Calls.quiet_of (cM1.out _)))
      obtain ⟨w6, hw6⟩ : ∃ W, w5.drewN nq = W := ⟨_, rfl⟩
      have q1 : Hid (Blk w6 G (ents E)) := by rw [← hw6]; exact g1
      have q2 : Hid (Blk w6 (G + 1) (ents (part F 0))) := by rw [← hw6]; exact g2
      have g3' : Hid (Blk w6 (G + 1 + 1) (ents (upd (part F s) s (u1, v1)))) := by rw [← hw6]; exact g3
      have q4 : Hid (G + 1 + 1 < w6.heap.size) := by rw [← hw6]; exact g4
      have g5' : Below G w w6 := by rw [← hw6]; exact ⟨g5.os, g5.tape, g5.output, g5.size, g5.block⟩
      obtain ⟨k1, k2, k3, k4⟩ := ca.out w6 q1.out
      obtain ⟨k5, k6, k7, k8⟩ := cb.out w6 _ g3'.out
      replace k5 : w6.cell? ⟨G + 1 + 1, s * 2, none⟩ = some (.int .i64 (u1 : Int)) := k5
      replace k6 : w6.cell? ⟨G + 1 + 1, s * 2 + 1, none⟩ = some (.int .i64 ((v1 : Nat) : Int)) := k6
      rw [hw6]
      clear hw6 g1 g2 g3 g4 g5
      have hset' := hset.out w6 ((m1 : Int) + x1) y1 _ g3'.out
      rw [upd_upd] at hset'
      have hset2' := hset2.out w6 2 _ g3'.out
      rw [upd_upd, upd_same] at hset2'
      have far1 : ∀ (x : Int) (y : Nat), Hid (Blk ((w6.setCell ⟨G + 1 + 1, s * 2, none⟩ (.int .i64 x)).setCell ⟨G + 1 + 1, s * 2 + 1, none⟩ (.int .i64 (y : Int))) G (ents E)) := fun x y => Lib.hid ((q1.out.far (g' := G + 1 + 1) (by omega) _ _).far (g' := G + 1 + 1) (by omega) _ _)
      have far2 : ∀ (x : Int) (y : Nat), Hid (Blk ((w6.setCell ⟨G + 1 + 1, s * 2, none⟩ (.int .i64 x)).setCell ⟨G + 1 + 1, s * 2 + 1, none⟩ (.int .i64 (y : Int))) (G + 1) (ents (part F 0))) := fun x y => Lib.hid ((q2.out.far (g' := G + 1 + 1) (by omega) _ _).far (g' := G + 1 + 1) (by omega) _ _)
      have far4 : ∀ (x : Int) (y : Nat), Hid (G + 1 + 1 < ((w6.setCell ⟨G + 1 + 1, s * 2, none⟩ (.int .i64 x)).setCell ⟨G + 1 + 1, s * 2 + 1, none⟩ (.int .i64 (y : Int))).heap.size) := fun x y => Lib.hid (by simpa using q4.out)
      have far5 : ∀ (x : Int) (y : Nat), Below G w ((w6.setCell ⟨G + 1 + 1, s * 2, none⟩ (.int .i64 x)).setCell ⟨G + 1 + 1, s * 2 + 1, none⟩ (.int .i64 (y : Int))) := fun x y => (g5'.setCell (p := ⟨G + 1 + 1, s * 2, none⟩) (by show G ≤ G + 1 + 1; omega) _).setCell (p := ⟨G + 1 + 1, s * 2 + 1, none⟩) (by show G ≤ G + 1 + 1; omega) _
      by_cases hneg : (u1 : Int) < 0
      ·have hv := hval.out
       rw [if_pos (.inl hneg)] at hv
       have d2 : decide ((u1 : Int) < 0) = true := decide_eq_true hneg
       have q3 : Hid (Blk ((w6.setCell ⟨G + 1 + 1, s * 2, none⟩ (.int .i64 ((m1 : Int) + x1))).setCell ⟨G + 1 + 1, s * 2 + 1, none⟩ (.int .i64 ((y1 : Nat) : Int))) (G + 1 + 1) (ents (upd (part F s) s (uF, vF)))) := Lib.hid (by rw [← hv]; exact hset')
       have q1' := far1 ((m1 : Int) + x1) y1
       have q2' := far2 ((m1 : Int) + x1) y1
       have q4' := far4 ((m1 : Int) + x1) y1
       have q5' := far5 ((m1 : Int) + x1) y1
       clear hv hset' hset2' far1 far2 far4 far5 hval g3' q1 q2 q4 g5'
       go_wp2
       go_roundw
       case rel => exact ⟨2, by decide, rfl, q1', q2', q3, q4', q5'⟩
       case measure => simp [intOf]
      ·by_cases hlt : (m1 : Int) + x1 < u1
       ·have hv := hval.out
        rw [if_pos (.inr hlt)] at hv
        have d2 : decide ((u1 : Int) < 0) = false := decide_eq_false hneg
        have d3 : decide ((m1 : Int) + x1 < u1) = true := decide_eq_true hlt
        have q3 : Hid (Blk ((w6.setCell ⟨G + 1 + 1, s * 2, none⟩ (.int .i64 ((m1 : Int) + x1))).setCell ⟨G + 1 + 1, s * 2 + 1, none⟩ (.int .i64 ((y1 : Nat) : Int))) (G + 1 + 1) (ents (upd (part F s) s (uF, vF)))) := Lib.hid (by rw [← hv]; exact hset')
        have q1' := far1 ((m1 : Int) + x1) y1
        have q2' := far2 ((m1 : Int) + x1) y1
        have q4' := far4 ((m1 : Int) + x1) y1
        have q5' := far5 ((m1 : Int) + x1) y1
        clear hv hset' hset2' far1 far2 far4 far5 hval g3' q1 q2 q4 g5'
        go_wp2
        go_roundw
        case rel => exact ⟨2, by decide, rfl, q1', q2', q3, q4', q5'⟩
        case measure => simp [intOf]
       ·by_cases heq : (m1 : Int) + x1 = u1
        ·have hv := hval.out
         rw [if_neg (by rintro (h | h); exact hneg h; exact hlt h), if_pos heq] at hv
         have d2 : decide ((u1 : Int) < 0) = false := decide_eq_false hneg
         have d3 : decide ((m1 : Int) + x1 < u1) = false := decide_eq_false hlt
         have d4 : ((m1 : Int) + x1 == u1) = true := beq_iff_eq.2 heq
         have q3 : Hid (Blk (w6.setCell ⟨G + 1 + 1, s * 2 + 1, none⟩ (.int .i64 2)) (G + 1 + 1) (ents (upd (part F s) s (uF, vF)))) := Lib.hid (by rw [← hv]; exact hset2')
         have q1' := Lib.hid (q1.out.far (g' := G + 1 + 1) (by omega) (s * 2 + 1) (.int .i64 2))
         have q2' := Lib.hid (q2.out.far (g' := G + 1 + 1) (by omega) (s * 2 + 1) (.int .i64 2))
         have q4' := Lib.hid (show G + 1 + 1 < (w6.setCell ⟨G + 1 + 1, s * 2 + 1, none⟩ (.int .i64 2)).heap.size by simpa using q4.out)
         have q5' := g5'.setCell (p := ⟨G + 1 + 1, s * 2 + 1, none⟩) (by show G ≤ G + 1 + 1; omega) (.int .i64 2)
         clear hv hset' hset2' far1 far2 far4 far5 hval g3' q1 q2 q4 g5' heq
         go_wp2
         go_roundw
         case rel => exact ⟨2, by decide, rfl, q1', q2', q3, q4', q5'⟩
         case measure => simp [intOf]
        ·have hv := hval.out
         rw [if_neg (by rintro (h | h); exact hneg h; exact hlt h), if_neg heq] at hv
         have d2 : decide ((u1 : Int) < 0) = false := decide_eq_false hneg
         have d3 : decide ((m1 : Int) + x1 < u1) = false := decide_eq_false hlt
         have d4 : ((m1 : Int) + x1 == u1) = false := beq_eq_false_iff_ne.2 heq
         have q3 : Hid (Blk w6 (G + 1 + 1) (ents (upd (part F s) s (uF, vF)))) := Lib.hid (by rw [← hv]; exact g3'.out)
         clear hv hset' hset2' far1 far2 far4 far5 hval g3'
         go_wp2
         go_roundw
         case rel => exact ⟨2, by decide, rfl, q1, q2, q3, q4, g5'⟩
         case measure => simp [intOf]
    ·replace hg3 : Hid (Blk wr (G + 1 + 1) (ents (part F (s + 1)))) := Lib.hid (by
      rw [← part_step, heF.out]
      exact hg3.out)
     go_wp2
     go_roundw
     case rel => exact ⟨s + 1, by omega, by go_num, hg1, hg2, hg3, hsz, hb⟩
     case measure => simp [intOf]; omega
  ·obtain rfl : s = 4 := by omega
   have e4 : ents (part F 4) = ents F := ents_congr fun j hj => if_pos hj
   have g3 := hg3.out
   rw [e4] at g3
   have c0 : wr.cell? ⟨G + 1 + 1, 0, none⟩ = some (.int .i64 (F 0).1) := g3.cell 0
   have d0 : wr.cell? ⟨G + 1, 0, none⟩ = some (.int .i64 0) := hg2.out.cell 0
   have f0 : wr.frozen? ⟨G + 1, 0, none⟩ = false := hg2.out.frz 0
   have c1 : wr.cell? ⟨G + 1 + 1, 1, none⟩ = some (.int .i64 ((F 0).2 : Int)) := g3.cell 1
   have d1 : wr.cell? ⟨G + 1, 1, none⟩ = some (.int .i64 0) := hg2.out.cell 1
   have f1 : wr.frozen? ⟨G + 1, 1, none⟩ = false := hg2.out.frz 1
   have c2 : wr.cell? ⟨G + 1 + 1, 2, none⟩ = some (.int .i64 (F 1).1) := g3.cell 2
   have d2 : wr.cell? ⟨G + 1, 2, none⟩ = some (.int .i64 0) := hg2.out.cell 2
   have f2 : wr.frozen? ⟨G + 1, 2, none⟩ = false := hg2.out.frz 2
   have c3 : wr.cell? ⟨G + 1 + 1, 3, none⟩ = some (.int .i64 ((F 1).2 : Int)) := g3.cell 3
   have d3 : wr.cell? ⟨G + 1, 3, none⟩ = some (.int .i64 0) := hg2.out.cell 3
   have f3 : wr.frozen? ⟨G + 1, 3, none⟩ = false := hg2.out.frz 3
   have c4 : wr.cell? ⟨G + 1 + 1, 4, none⟩ = some (.int .i64 (F 2).1) := g3.cell 4
   have d4 : wr.cell? ⟨G + 1, 4, none⟩ = some (.int .i64 0) := hg2.out.cell 4
   have f4 : wr.frozen? ⟨G + 1, 4, none⟩ = false := hg2.out.frz 4
   have c5 : wr.cell? ⟨G + 1 + 1, 5, none⟩ = some (.int .i64 ((F 2).2 : Int)) := g3.cell 5
   have d5 : wr.cell? ⟨G + 1, 5, none⟩ = some (.int .i64 0) := hg2.out.cell 5
   have f5 : wr.frozen? ⟨G + 1, 5, none⟩ = false := hg2.out.frz 5
   have c6 : wr.cell? ⟨G + 1 + 1, 6, none⟩ = some (.int .i64 (F 3).1) := g3.cell 6
   have d6 : wr.cell? ⟨G + 1, 6, none⟩ = some (.int .i64 0) := hg2.out.cell 6
   have f6 : wr.frozen? ⟨G + 1, 6, none⟩ = false := hg2.out.frz 6
   have c7 : wr.cell? ⟨G + 1 + 1, 7, none⟩ = some (.int .i64 ((F 3).2 : Int)) := g3.cell 7
   have d7 : wr.cell? ⟨G + 1, 7, none⟩ = some (.int .i64 0) := hg2.out.cell 7
   have f7 : wr.frozen? ⟨G + 1, 7, none⟩ = false := hg2.out.frz 7
   have dl : decide (((4 : Nat) : Int) < 4) = false := by decide
   have sz8 : G + 1 < wr.heap.size := by have := hsz.out; omega
   clear g3 e4 hg3
   have hz8 : (Tryz.prog.info? 129).map (·.size) = some (ents F).toArray.size := by kernel_rfl
   have B8 := ((((((((hg2.out.set 0 (.int .i64 (F 0).1) (by simp [ents])).set 1 (.int .i64 ((F 0).2 : Int)) (by simp [ents])).set 2 (.int .i64 (F 1).1) (by simp [ents])).set 3 (.int .i64 ((F 1).2 : Int)) (by simp [ents])).set 4 (.int .i64 (F 2).1) (by simp [ents])).set 5 (.int .i64 ((F 2).2 : Int)) (by simp [ents])).set 6 (.int .i64 (F 3).1) (by simp [ents])).set 7 (.int .i64 ((F 3).2 : Int)) (by simp [ents]))
   have B9 : Hid (Blk _ (G + 1) (ents F)) := Lib.hid (show Blk _ (G + 1) (ents F) from B8)
   have hb9 := ((((((((hb.setCell (p := ⟨G + 1, 0, none⟩) (Nat.le_succ G) (.int .i64 (F 0).1)).setCell (p := ⟨G + 1, 1, none⟩) (Nat.le_succ G) (.int .i64 ((F 0).2 : Int))).setCell (p := ⟨G + 1, 2, none⟩) (Nat.le_succ G) (.int .i64 (F 1).1)).setCell (p := ⟨G + 1, 3, none⟩) (Nat.le_succ G) (.int .i64 ((F 1).2 : Int))).setCell (p := ⟨G + 1, 4, none⟩) (Nat.le_succ G) (.int .i64 (F 2).1)).setCell (p := ⟨G + 1, 5, none⟩) (Nat.le_succ G) (.int .i64 ((F 2).2 : Int))).setCell (p := ⟨G + 1, 6, none⟩) (Nat.le_succ G) (.int .i64 (F 3).1)).setCell (p := ⟨G + 1, 7, none⟩) (Nat.le_succ G) (.int .i64 ((F 3).2 : Int)))
   rw [← hG.out] at hb9
   clear B8
   go_wp2
   rw [hG.out] at hb9
   exact bodyPost_ret (results_cell_row rfl _ _ (G + 1) 129 (ents F).toArray (0, 0) _ rfl B9.out Tryz.underlying129 rfl hz8) rfl ⟨rfl, by rw [hG.out]; exact hb9⟩
end V10
end Go.Proofs.YtiodkllckcpinaaGreatDoor
