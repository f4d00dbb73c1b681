/- Facts and contracts that the walks of this layer use, merged: V10Own2, V10Own3, V10Own4, V10Own5. -/
import Derived.Test.YtiodkllckcpinaaGreatDoorM14AD
import Derived.Laws.MakeOwn
set_option linter.unusedVariables false
set_option linter.unusedSimpArgs false
set_option maxRecDepth 100000
namespace Go.Proofs.YtiodkllckcpinaaGreatDoor
namespace V10
open Go.RowKit Mem C9

def cvec (f : Nat → Nat) : List Value := [.int .u8 (f 0 : Int), .int .u8 (f 1 : Int), .int .u8 (f 2 : Int), .int .u8 (f 3 : Int)]
def BlkT (T : TypeId) (W : World) (g : Nat) (l : List Value) : Prop := W.heap[g]? = some (.cells l.toArray T (0, 0))
theorem BlkT.cell {T : TypeId} {W : World} {g : Nat} {l : List Value} (h : BlkT T W g l) (j : Nat) : W.cell? ⟨g, j, none⟩ = l[j]? := by
 unfold BlkT at h
 simp [World.cell?, h]
theorem BlkT.frz {T : TypeId} {W : World} {g : Nat} {l : List Value} (h : BlkT T W g l) (j : Nat) : W.frozen? ⟨g, j, none⟩ = false := by
 unfold BlkT at h
 simp [World.frozen?, h]
theorem BlkT.set {T : TypeId} {W : World} {g : Nat} {l : List Value} (h : BlkT T W g l) (j : Nat) (v : Value) (hj : j < l.length) : BlkT T (W.setCell ⟨g, j, none⟩ v) g (l.set j v) := by
 unfold BlkT at *
 simp [World.setCell, Array.getElem?_modify, h]
theorem BlkT.far {T : TypeId} {W : World} {g g' : Nat} {l : List Value} (h : BlkT T W g l) (hne : g' ≠ g) (j : Nat) (v : Value) : BlkT T (W.setCell ⟨g', j, none⟩ v) g l := by
 unfold BlkT at *
 rw [← h]
 exact Below.heap_setCell _ _ _ _ (fun e => hne e.symm)
theorem BlkT.below {T : TypeId} {W W' : World} {g : Nat} {l : List Value} (h : BlkT T W g l) (k : Below W.heap.size W W') (hg : g < W.heap.size) : BlkT T W' g l := (k.block g hg).trans h
def updI (f : Nat → Int) (s : Nat) (x : Int) (j : Nat) : Int := if j = s then x else f j
def updN (f : Nat → Nat) (s : Nat) (x : Nat) (j : Nat) : Nat := if j = s then x else f j
theorem vec_set (f : Nat → Int) (s : Nat) (hs : s < 4) (x : Int) : (vec f).set s (.int .i64 x) = vec (updI f s x) := by
 have : s = 0 ∨ s = 1 ∨ s = 2 ∨ s = 3 := by omega
 rcases this with rfl | rfl | rfl | rfl <;> rfl
theorem cvec_set (f : Nat → Nat) (s : Nat) (hs : s < 4) (x : Nat) : (cvec f).set s (.int .u8 (x : Int)) = cvec (updN f s x) := by
 have : s = 0 ∨ s = 1 ∨ s = 2 ∨ s = 3 := by omega
 rcases this with rfl | rfl | rfl | rfl <;> rfl
def partI (F : Nat → Int) (s : Nat) (j : Nat) : Int := if j < s then F j else 0
def partN (F : Nat → Nat) (s : Nat) (j : Nat) : Nat := if j < s then F j else 0
theorem partI_step (F : Nat → Int) (s : Nat) : updI (partI F s) s (F s) = partI F (s + 1) := by
 funext j
 unfold updI partI
 by_cases h : j = s
 ·subst h
  rw [if_pos rfl, if_pos (by omega)]
 ·rw [if_neg h]
  by_cases h2 : j < s
  ·rw [if_pos h2, if_pos (by omega)]
  ·rw [if_neg h2, if_neg (by omega)]
theorem partN_step (F : Nat → Nat) (s : Nat) : updN (partN F s) s (F s) = partN F (s + 1) := by
 funext j
 unfold updN partN
 by_cases h : j = s
 ·subst h
  rw [if_pos rfl, if_pos (by omega)]
 ·rw [if_neg h]
  by_cases h2 : j < s
  ·rw [if_pos h2, if_pos (by omega)]
  ·rw [if_neg h2, if_neg (by omega)]
def stepF (r : UInt8 × UInt8) (E : Nat → Int) (s : Nat) : Int := lsN (viaN (mm r (hi s) (lo s) false) (E (stN false (hi s)))) (viaN (mm r (hi s) (lo s) true) (E (stN true (hi s))))
def stepC (r : UInt8 × UInt8) (E : Nat → Int) (s : Nat) : Nat := chN (viaN (mm r (hi s) (lo s) false) (E (stN false (hi s)))) (viaN (mm r (hi s) (lo s) true) (E (stN true (hi s))))
theorem results_two_rows {P : Program} {fn : Func} {p q : Tmp} {t1 t2 : TypeId} (h : fn.results = #[.cell p t1, .cell q t2]) (tmps : Array Value) (w : World) (g g' : Nat) (T T' : TypeId) (cs cs' : Array Value) (fr fr' : Nat × Nat) (d d' : TypeDesc)
  (hp : tmps.getD p undef = .pointer (some ⟨g, 0, none⟩)) (hq : tmps.getD q undef = .pointer (some ⟨g', 0, none⟩)) (hg : w.heap[g]? = some (.cells cs T fr)) (hg' : w.heap[g']? = some (.cells cs' T' fr'))
  (hu : P.underlying t1 = some d) (hd : (match d with | .struct _ | .array _ _ => true | _ => false) = true) (hi : (P.info? t1).map (·.size) = some cs.size)
  (hu' : P.underlying t2 = some d') (hd' : (match d' with | .struct _ | .array _ _ => true | _ => false) = true) (hi' : (P.info? t2).map (·.size) = some cs'.size) :
  (results fn tmps).run P w = .ok (.tuple #[.agg cs, .agg cs']) w := by
 have hp' : tmps[p]?.getD undef = .pointer (some ⟨g, 0, none⟩) := by simpa using hp
 have hq' : tmps[q]?.getD undef = .pointer (some ⟨g', 0, none⟩) := by simpa using hq
 simp [results, h, hp', hq', asAddr, run_loadVar_row w g T t1 cs fr d hg hu hd hi, run_loadVar_row w g' T' t2 cs' fr' d' hg' hu' hd' hi']
theorem three_blocks (w : World) (A B C : Obj) (G : Nat) (hG : w.heap.size = G) : ∃ W0, ((w.alloc A).alloc B).alloc C = W0 ∧ W0.heap[G]? = some A ∧ W0.heap[G + 1]? = some B ∧ W0.heap[G + 1 + 1]? = some C ∧ G + 1 + 1 < W0.heap.size ∧ Below G w W0 := by
 subst hG
 refine ⟨_, rfl, ?_, ?_, ?_, by simp, ?_⟩
 ·rw [Lib.alloc_old _ _ _ (by simp; omega), Lib.alloc_old _ _ _ (by simp)]
  exact World.alloc_heap_new w _
 ·rw [Lib.alloc_old _ _ _ (by simp)]
  have := World.alloc_heap_new (w.alloc A) B
  rw [World.size_alloc] at this
  exact this
 ·have := World.alloc_heap_new ((w.alloc A).alloc B) C
  rw [World.size_alloc, World.size_alloc] at this
  exact this
 ·exact (((Below.refl _ w).alloc (Nat.le_refl _) _).alloc (by simp) _).alloc (by simp; omega) _
def cellOr (W : World) (g s : Nat) : Value := (W.cell? ⟨g, s, none⟩).getD undef
theorem BlkT.has {T : TypeId} {W : World} {g : Nat} {l : List Value} (h : BlkT T W g l) (s : Nat) (hs : s < l.length) : W.cell? ⟨g, s, none⟩ = some (cellOr W g s) ∧ W.frozen? ⟨g, s, none⟩ = false := by
 refine ⟨?_, h.frz s⟩
 unfold cellOr
 rw [h.cell, List.getElem?_eq_getElem hs]
 rfl
structure Kp (w : World) (G : Nat) (E : Nat → Int) (W : World) : Prop where
 row : BlkT 178 W G (vec E)
 one : ∃ f, BlkT 178 W (G + 1) (vec f)
 two : ∃ f, BlkT 181 W (G + 1 + 1) (cvec f)
 size : G + 1 + 1 < W.heap.size
 below : Below G w W
theorem Kp.drew {w W : World} {G : Nat} {E : Nat → Int} (h : Kp w G E W) : Kp w G E W.drew := ⟨h.row, h.one, h.two, h.size, ⟨h.below.os, h.below.tape, h.below.output, h.below.size, h.below.block⟩⟩
theorem Kp.call {w W W' : World} {G : Nat} {E : Nat → Int} (h : Kp w G E W) (k : Below W.heap.size W W') : Kp w G E W' := by
 obtain ⟨f, hf⟩ := h.one
 obtain ⟨g, hg⟩ := h.two
 have := h.size
 exact ⟨h.row.below k (by omega), ⟨f, hf.below k (by omega)⟩, ⟨g, hg.below k h.size⟩, Nat.lt_of_lt_of_le h.size k.size, h.below.trans (k.mono (by omega))⟩
theorem Kp.set1 {w W : World} {G : Nat} {E : Nat → Int} (h : Kp w G E W) (s : Nat) (hs : s < 4) (x : Int) : Kp w G E (W.setCell ⟨G + 1, s, none⟩ (.int .i64 x)) := by
 obtain ⟨f, hf⟩ := h.one
 obtain ⟨g, hg⟩ := h.two
 refine ⟨h.row.far (by omega) s _, ⟨updI f s x, ?_⟩, ⟨g, hg.far (by omega) s _⟩, by simpa using h.size, h.below.setCell (p := ⟨G + 1, s, none⟩) (Nat.le_succ G) _⟩
 rw [← vec_set f s hs x]
 exact hf.set s _ hs
theorem Kp.set2 {w W : World} {G : Nat} {E : Nat → Int} (h : Kp w G E W) (s : Nat) (hs : s < 4) (x : Nat) : Kp w G E (W.setCell ⟨G + 1 + 1, s, none⟩ (.int .u8 (x : Int))) := by
 obtain ⟨f, hf⟩ := h.one
 obtain ⟨g, hg⟩ := h.two
 refine ⟨h.row.far (by omega) s _, ⟨f, hf.far (by omega) s _⟩, ⟨updN g s x, ?_⟩, by simpa using h.size, h.below.setCell (p := ⟨G + 1 + 1, s, none⟩) (by show G ≤ G + 1 + 1; omega) _⟩
 rw [← cvec_set g s hs x]
 exact hg.set s _ hs
structure Kq (w : World) (G : Nat) (F : Nat → Int) (C : Nat → Nat) (W : World) : Prop where
 one : BlkT 178 W (G + 1) (vec F)
 two : BlkT 181 W (G + 1 + 1) (cvec C)
 below : Below G w W
theorem Kq.set1 {w W : World} {G : Nat} {F : Nat → Int} {C : Nat → Nat} (h : Kq w G F C W) : Kq w G F C ((((W.setCell ⟨G + 1, 0, none⟩ (.int .i64 (F 0))).setCell ⟨G + 1, 1, none⟩ (.int .i64 (F 1))).setCell ⟨G + 1, 2, none⟩ (.int .i64 (F 2))).setCell ⟨G + 1, 3, none⟩ (.int .i64 (F 3))) :=
 ⟨(((h.one.set 0 (.int .i64 (F 0)) (by simp [vec])).set 1 (.int .i64 (F 1)) (by simp [vec])).set 2 (.int .i64 (F 2)) (by simp [vec])).set 3 (.int .i64 (F 3)) (by simp [vec]),
  (((h.two.far (g' := G + 1) (by omega) 0 _).far (g' := G + 1) (by omega) 1 _).far (g' := G + 1) (by omega) 2 _).far (g' := G + 1) (by omega) 3 _,
  (((h.below.setCell (p := ⟨G + 1, 0, none⟩) (Nat.le_succ G) _).setCell (p := ⟨G + 1, 1, none⟩) (Nat.le_succ G) _).setCell (p := ⟨G + 1, 2, none⟩) (Nat.le_succ G) _).setCell (p := ⟨G + 1, 3, none⟩) (Nat.le_succ G) _⟩
theorem Kq.set2 {w W : World} {G : Nat} {F : Nat → Int} {C : Nat → Nat} (h : Kq w G F C W) : Kq w G F C ((((W.setCell ⟨G + 1 + 1, 0, none⟩ (.int .u8 (C 0 : Int))).setCell ⟨G + 1 + 1, 1, none⟩ (.int .u8 (C 1 : Int))).setCell ⟨G + 1 + 1, 2, none⟩ (.int .u8 (C 2 : Int))).setCell ⟨G + 1 + 1, 3, none⟩ (.int .u8 (C 3 : Int))) :=
 ⟨(((h.one.far (g' := G + 1 + 1) (by omega) 0 _).far (g' := G + 1 + 1) (by omega) 1 _).far (g' := G + 1 + 1) (by omega) 2 _).far (g' := G + 1 + 1) (by omega) 3 _,
  (((h.two.set 0 (.int .u8 (C 0 : Int)) (by simp [cvec])).set 1 (.int .u8 (C 1 : Int)) (by simp [cvec])).set 2 (.int .u8 (C 2 : Int)) (by simp [cvec])).set 3 (.int .u8 (C 3 : Int)) (by simp [cvec]),
  (((h.below.setCell (p := ⟨G + 1 + 1, 0, none⟩) (by show G ≤ G + 1 + 1; omega) _).setCell (p := ⟨G + 1 + 1, 1, none⟩) (by show G ≤ G + 1 + 1; omega) _).setCell (p := ⟨G + 1 + 1, 2, none⟩) (by show G ≤ G + 1 + 1; omega) _).setCell (p := ⟨G + 1 + 1, 3, none⟩) (by show G ≤ G + 1 + 1; omega) _⟩
theorem Kq.drew {w W : World} {G : Nat} {F : Nat → Int} {C : Nat → Nat} (h : Kq w G F C W) : Kq w G F C W.drew := ⟨h.one, h.two, ⟨h.below.os, h.below.tape, h.below.output, h.below.size, h.below.block⟩⟩
set_option maxHeartbeats 16000000 in
theorem cbefore_own (E : Nat → Int) (x y : UInt8) (w : World) (hx : okC x = true) (hy : okC y = true) (hE : ∀ j, j < 4 → -1 ≤ E j ∧ E j ≤ 1000000) :
  Calls Tryz.prog 165 #[.agg #[.int .i64 (E 0), .int .i64 (E 1), .int .i64 (E 2), .int .i64 (E 3)], .string ⟨#[x, y]⟩] w fun e w' =>
   e = .returned (.tuple #[.agg (vec (stepF (x, y) E)).toArray, .agg (cvec (stepC (x, y) E)).toArray]) ∧ Below w.heap.size w w' := by
 have hF : ∀ s, s < 4 → ∃ a b, stepF (x, y) E s = lsN a b ∧ stepC (x, y) E s = chN a b ∧
   (∀ W, Calls Tryz.prog 199 #[.agg #[.int .i64 (E 0), .int .i64 (E 1), .int .i64 (E 2), .int .i64 (E 3)], .string ⟨#[x, y]⟩, .int .i64 (s : Int), .int .i64 0] W fun e w' => e = .returned (.int .i64 a) ∧ Below W.heap.size W w') ∧
   (∀ W, Calls Tryz.prog 199 #[.agg #[.int .i64 (E 0), .int .i64 (E 1), .int .i64 (E 2), .int .i64 (E 3)], .string ⟨#[x, y]⟩, .int .i64 (s : Int), .int .i64 1] W fun e w' => e = .returned (.int .i64 b) ∧ Below W.heap.size W w') := fun s hs => by
  have h := stN_hilo s hs
  refine ⟨_, _, rfl, rfl, fun W => ?_, fun W => ?_⟩
  ·have := cvia_own E x y (hi s) (lo s) false W hx hy hE
   rw [h] at this
   exact this
  ·have := cvia_own E x y (hi s) (lo s) true W hx hy hE
   rw [h] at this
   exact this
 obtain ⟨F, hFF⟩ : ∃ F, stepF (x, y) E = F := ⟨_, rfl⟩
 obtain ⟨C, hCC⟩ : ∃ C, stepC (x, y) E = C := ⟨_, rfl⟩
 rw [hFF, hCC] at hF ⊢
 obtain ⟨I, hI⟩ : ∃ O : ByteArray, (⟨#[x, y]⟩ : ByteArray) = O := ⟨_, rfl⟩
 rw [hI] at hF ⊢
 obtain ⟨G, hG⟩ : ∃ G, w.heap.size = G := ⟨_, rfl⟩
 obtain ⟨W0, hW0, q1, q2, q3, q4, q5⟩ := three_blocks w (.cells #[.int .i64 (E 0), .int .i64 (E 1), .int .i64 (E 2), .int .i64 (E 3)] 178) (.cells #[.int .i64 0, .int .i64 0, .int .i64 0, .int .i64 0] 178) (.cells #[.int .u8 0, .int .u8 0, .int .u8 0, .int .u8 0] 181) G hG
 replace q1 : Hid (BlkT 178 W0 G (vec E)) := Lib.hid q1
 replace q2 : Hid (BlkT 178 W0 (G + 1) (vec (partI F 0))) := Lib.hid q2
 replace q3 : Hid (BlkT 181 W0 (G + 1 + 1) (cvec (partN C 0))) := Lib.hid q3
 replace q4 := Lib.hid q4
 replace hF := Lib.hid hF
 replace hW0 := Lib.hid hW0
 replace hG := Lib.hid hG
 clear hFF hCC hI hE hx hy
 go_enter Tryz.func165, Tryz.ntmps165
 go_wp2
 rw [hW0.out, hG.out]
 go_loopw [7] (fun sv wr => ∃ s : Nat, s ≤ 4 ∧ sv = .int .i64 (s : Int) ∧ Hid (BlkT 178 wr G (vec E)) ∧ Hid (BlkT 178 wr (G + 1) (vec (partI F s))) ∧ Hid (BlkT 181 wr (G + 1 + 1) (cvec (partN C s))) ∧ Hid (G + 1 + 1 < wr.heap.size) ∧ Below G w wr) (fun sv _ => 4 - (intOf sv).toNat)
 case atStart => exact ⟨0, by decide, rfl, q1, q2, q3, q4, q5⟩
 case round =>
  clear q1 q2 q3 q4 q5 hW0
  obtain ⟨s, hs4, rfl, hg1, hg2, hg3, hsz, hb⟩ := hrel
  by_cases hs : s < 4
  ·have i0 : (0 : Int) ≤ (s : Int) := by omega
   have i1 : (s : Int) < 4 := by omega
   have dl : decide ((s : Int) < 4) = true := decide_eq_true i1
   have dl' : decide (s < 4) = true := decide_eq_true hs
   obtain ⟨a, b, hFs, hCs, c0, c1⟩ := hF.out s hs
   have cl := fun W => lesser_own a b W
   rw [← hFs, ← hCs] at cl
   have keep0 : Kp w G E wr := ⟨hg1.out, ⟨_, hg2.out⟩, ⟨_, hg3.out⟩, hsz.out, hb⟩
   have keepD : ∀ W, Kp w G E W → Kp w G E (World.drew W) := fun W h => h.drew
   have keepC : ∀ W W', Kp w G E W → Below W.heap.size W W' → Kp w G E W' := fun W W' h k => h.call k
   have keep1 : ∀ W, Kp w G E W → Kp w G E (W.setCell ⟨G + 1, s, none⟩ (.int .i64 (F s))) := fun W h => h.set1 s hs _
   have keep2 : ∀ W, Kp w G E W → Kp w G E (W.setCell ⟨G + 1 + 1, s, none⟩ (.int .u8 (C s : Int))) := fun W h => h.set2 s hs _
   have e0 : ∀ W, Kp w G E W → W.cell? ⟨G, 0, none⟩ = some (.int .i64 (E 0)) := fun W h => h.row.cell 0
   have e1 : ∀ W, Kp w G E W → W.cell? ⟨G, 1, none⟩ = some (.int .i64 (E 1)) := fun W h => h.row.cell 1
   have e2 : ∀ W, Kp w G E W → W.cell? ⟨G, 2, none⟩ = some (.int .i64 (E 2)) := fun W h => h.row.cell 2
   have e3 : ∀ W, Kp w G E W → W.cell? ⟨G, 3, none⟩ = some (.int .i64 (E 3)) := fun W h => h.row.cell 3
   have k1 : ∀ W, Kp w G E W → W.cell? ⟨G + 1, s, none⟩ = some (cellOr W (G + 1) s) := fun W h => by obtain ⟨f, hf⟩ := h.one; exact (hf.has s hs).1
   have k2 : ∀ W, Kp w G E W → W.frozen? ⟨G + 1, s, none⟩ = false := fun W h => by obtain ⟨f, hf⟩ := h.one; exact (hf.has s hs).2
   have k3 : ∀ W, Kp w G E W → W.cell? ⟨G + 1 + 1, s, none⟩ = some (cellOr W (G + 1 + 1) s) := fun W h => by obtain ⟨f, hf⟩ := h.two; exact (hf.has s hs).1
   have k4 : ∀ W, Kp w G E W → W.frozen? ⟨G + 1 + 1, s, none⟩ = false := fun W h => by obtain ⟨f, hf⟩ := h.two; exact (hf.has s hs).2
   replace cl := Lib.hid cl
   replace c0 := Lib.hid c0
   replace c1 := Lib.hid c1
   replace hFs := Lib.hid hFs
   replace hCs := Lib.hid hCs
   go_wp2_with fail
   go_region_held3 (fun W => Kp w G E W) (first | exact keep0 | exact keepD _ (by assumption) | exact keepC _ _ (by assumption) (by assumption) | exact keep1 _ (by assumption) | exact keep2 _ (by assumption) | assumption) (first | (go_at_call 199; (with_reducible refine (c0.out _).mono ?_); rintro e w5 ⟨rfl, hb5⟩) | (go_at_call 199; (with_reducible refine (c1.out _).mono ?_); rintro e w6 ⟨rfl, hb6⟩) | (go_at_call 198; (with_reducible refine (cl.out _).mono ?_); rintro e w7 ⟨rfl, rfl⟩))
   have hbw : Below wr.heap.size wr w6 := chain (chain (chainN (Below.refl _ wr) 1) hb5) hb6
   have g1 := hg1.out.below hbw (by have := hsz.out; omega)
   have g2 := hg2.out.below hbw (by have := hsz.out; omega)
   have g3 := hg3.out.below hbw hsz.out
   have r1 : Hid (BlkT 178 ((w6.setCell ⟨G + 1, s, none⟩ (.int .i64 (F s))).setCell ⟨G + 1 + 1, s, none⟩ (.int .u8 (C s : Int))) G (vec E)) := Lib.hid ((g1.far (by omega) s _).far (by omega) s _)
   have r2 : Hid (BlkT 178 ((w6.setCell ⟨G + 1, s, none⟩ (.int .i64 (F s))).setCell ⟨G + 1 + 1, s, none⟩ (.int .u8 (C s : Int))) (G + 1) (vec (partI F (s + 1)))) := Lib.hid (by
    rw [← partI_step, ← vec_set _ s hs]
    exact (g2.set s _ hs).far (by omega) s _)
   have r3 : Hid (BlkT 181 ((w6.setCell ⟨G + 1, s, none⟩ (.int .i64 (F s))).setCell ⟨G + 1 + 1, s, none⟩ (.int .u8 (C s : Int))) (G + 1 + 1) (cvec (partN C (s + 1)))) := Lib.hid (by
    rw [← partN_step, ← cvec_set _ s hs]
    exact (g3.far (by omega) s _).set s _ hs)
   have r4 : Hid (G + 1 + 1 < ((w6.setCell ⟨G + 1, s, none⟩ (.int .i64 (F s))).setCell ⟨G + 1 + 1, s, none⟩ (.int .u8 (C s : Int))).heap.size) := Lib.hid (by
    have := hsz.out
    have := hbw.size
    simp
    omega)
   have r5 : Below G w ((w6.setCell ⟨G + 1, s, none⟩ (.int .i64 (F s))).setCell ⟨G + 1 + 1, s, none⟩ (.int .u8 (C s : Int))) :=
    ((hb.trans (hbw.mono (by have := hsz.out; omega))).setCell (p := ⟨G + 1, s, none⟩) (Nat.le_succ G) _).setCell (p := ⟨G + 1 + 1, s, none⟩) (by show G ≤ G + 1 + 1; omega) _
   clear keep0 keepD keepC keep1 keep2 e0 e1 e2 e3 k1 k2 k3 k4 g1 g2 g3 hbw hb5 hb6 cl c0 c1
   go_wp2
   go_roundw
   case rel => exact ⟨s + 1, by omega, by go_num, r1, r2, r3, r4, r5⟩
   case measure => simp [intOf]; omega
  ·obtain rfl : s = 4 := by omega
   have e4 : vec (partI F 4) = vec F := rfl
   have e5 : cvec (partN C 4) = cvec C := rfl
   rw [e4] at hg2
   rw [e5] at hg3
   have dl : decide (((4 : Nat) : Int) < 4) = false := by decide
   have hq : Kq w G F C wr := ⟨hg2.out, hg3.out, hb⟩
   have e0 : wr.cell? ⟨G + 1, 0, none⟩ = some (.int .i64 (F 0)) := hq.one.cell 0
   have e1 : wr.cell? ⟨G + 1, 1, none⟩ = some (.int .i64 (F 1)) := hq.one.cell 1
   have e2 : wr.cell? ⟨G + 1, 2, none⟩ = some (.int .i64 (F 2)) := hq.one.cell 2
   have e3 : wr.cell? ⟨G + 1, 3, none⟩ = some (.int .i64 (F 3)) := hq.one.cell 3
   have k0 : wr.cell? ⟨G + 1 + 1, 0, none⟩ = some (.int .u8 (C 0 : Int)) := hq.two.cell 0
   have k1 : wr.cell? ⟨G + 1 + 1, 1, none⟩ = some (.int .u8 (C 1 : Int)) := hq.two.cell 1
   have k2 : wr.cell? ⟨G + 1 + 1, 2, none⟩ = some (.int .u8 (C 2 : Int)) := hq.two.cell 2
   have k3 : wr.cell? ⟨G + 1 + 1, 3, none⟩ = some (.int .u8 (C 3 : Int)) := hq.two.cell 3
   have f1 := hq.one.frz
   have f2 := hq.two.frz
   clear hg1 hg2 hg3 hb hF e4 e5
   go_wp2_with fail
   go_region
   have hq2 := hq.set1.set2.drew
   have z1 : (Tryz.prog.info? 178).map (·.size) = some (vec F).toArray.size := by kernel_rfl
   have z2 : (Tryz.prog.info? 181).map (·.size) = some (cvec C).toArray.size := by kernel_rfl
   replace hq2 := Lib.hid hq2
   clear e0 e1 e2 e3 k0 k1 k2 k3 f1 f2 hq
   go_wp2
   have hbf := hq2.out.below
   exact bodyPost_ret (results_two_rows rfl _ _ (G + 1) (G + 1 + 1) 178 181 (vec F).toArray (cvec C).toArray (0, 0) (0, 0) _ _ rfl rfl hq2.out.one hq2.out.two Tryz.underlying178 rfl z1 Tryz.underlying181 rfl z2) rfl ⟨rfl, by rw [hG.out]; exact hbf⟩
end V10
namespace V10
open Go.RowKit Mem C9

def costR (R : List (UInt8 × UInt8)) (s : Nat) : Int := (tb R (hi s) (lo s)).1
def chR (R : List (UInt8 × UInt8)) (s : Nat) : Nat := chE R (hi s) (lo s)
theorem hi_stN : ∀ u v : Bool, hi (stN u v) = u := by decide
theorem lo_stN : ∀ u v : Bool, lo (stN u v) = v := by decide
theorem costR_at (R : List (UInt8 × UInt8)) (u v : Bool) : costR R (stN u v) = (tb R u v).1 := by unfold costR; rw [hi_stN, lo_stN]
theorem chR_at (R : List (UInt8 × UInt8)) (u v : Bool) : chR R (stN u v) = chE R u v := by unfold chR; rw [hi_stN, lo_stN]
theorem stepF_row (r : UInt8 × UInt8) (R : List (UInt8 × UInt8)) : stepF r (costR R) = costR (r :: R) := by
 funext s
 unfold stepF
 rw [costR_at, costR_at]
 exact (tb_cost r R (hi s) (lo s)).symm
theorem stepC_row (r : UInt8 × UInt8) (R : List (UInt8 × UInt8)) : stepC r (costR R) = chR (r :: R) := by
 funext s
 unfold stepC
 rw [costR_at, costR_at]
 rfl
theorem costR_fit (R : List (UInt8 × UInt8)) (hR : R.length ≤ 100000) (s : Nat) : -1 ≤ costR R s ∧ costR R s ≤ 1000000 := by
 have h1 := tb_int R (hi s) (lo s)
 have h2 := (tb_le R (hi s) (lo s)).1
 unfold costR
 omega
theorem BlkT.vec4 {T : TypeId} {W : World} {g : Nat} {f : Nat → Int} (h : BlkT T W g (vec f)) (f' : Nat → Int) : BlkT T ((((W.setCell ⟨g, 0, none⟩ (.int .i64 (f' 0))).setCell ⟨g, 1, none⟩ (.int .i64 (f' 1))).setCell ⟨g, 2, none⟩ (.int .i64 (f' 2))).setCell ⟨g, 3, none⟩ (.int .i64 (f' 3))) g (vec f') :=
 (((h.set 0 (.int .i64 (f' 0)) (by simp [vec])).set 1 (.int .i64 (f' 1)) (by simp [vec])).set 2 (.int .i64 (f' 2)) (by simp [vec])).set 3 (.int .i64 (f' 3)) (by simp [vec])
theorem BlkT.far4 {T : TypeId} {W : World} {g g' : Nat} {l : List Value} (h : BlkT T W g l) (hne : g' ≠ g) (v0 v1 v2 v3 : Value) : BlkT T ((((W.setCell ⟨g', 0, none⟩ v0).setCell ⟨g', 1, none⟩ v1).setCell ⟨g', 2, none⟩ v2).setCell ⟨g', 3, none⟩ v3) g l :=
 (((h.far hne 0 _).far hne 1 _).far hne 2 _).far hne 3 _
theorem below4 {G g : Nat} {w W : World} (h : Below G w W) (hg : G ≤ g) (v0 v1 v2 v3 : Value) : Below G w ((((W.setCell ⟨g, 0, none⟩ v0).setCell ⟨g, 1, none⟩ v1).setCell ⟨g, 2, none⟩ v2).setCell ⟨g, 3, none⟩ v3) :=
 (((h.setCell (p := ⟨g, 0, none⟩) hg _).setCell (p := ⟨g, 1, none⟩) hg _).setCell (p := ⟨g, 2, none⟩) hg _).setCell (p := ⟨g, 3, none⟩) hg _
theorem size_int4 (f : Nat → Int) : (Tryz.prog.info? 178).map (·.size) = some (vec f).toArray.size := by kernel_rfl
set_option maxHeartbeats 4000000 in
theorem end_own (w : World) : Calls Tryz.prog 164 #[] w fun e w' => e = .returned (.agg #[.int .i64 0, .int .i64 (-1), .int .i64 (-1), .int .i64 (-1)]) ∧ Below w.heap.size w w' := by
 go_enter Tryz.func164, Tryz.ntmps164
 go_wp2
 exact bodyPost_ret (results_cell_row rfl _ _ w.heap.size 178 _ (0, 0) _ rfl (World.alloc_heap_new w _) Tryz.underlying178 rfl (size_int4 (costR []))) rfl ⟨rfl, (Below.refl _ w).alloc (Nat.le_refl _) _⟩
set_option maxHeartbeats 4000000 in
theorem received_own (c : ByteArray) (k : Nat) (w : World) (hk : 2 * k + 1 < c.size) (hc : c.size ≤ 1000000) : Calls Tryz.prog 166 #[.string c, .int .i64 (k : Int)] w fun e w' => e = .returned (.string ⟨#[c[2 * k], c[2 * k + 1]]⟩) ∧ w = w' := by
 have hS : c.extract (2 * k) (2 * k + 2) = ⟨#[c[2 * k], c[2 * k + 1]]⟩ := by
  apply ByteArray.ext
  apply Array.toList_inj.1
  simp only [ByteArray.data_extract, Array.toList_extract]
  rw [List.extract_eq_take_drop, List.drop_eq_getElem_cons (by rw [size_list]; omega), List.drop_eq_getElem_cons (by rw [size_list]; omega), show 2 * k + 2 - 2 * k = 2 by omega]
  rfl
 obtain ⟨S, hSS⟩ : ∃ S : ByteArray, (⟨#[c[2 * k], c[2 * k + 1]]⟩ : ByteArray) = S := ⟨_, rfl⟩
 rw [hSS] at hS ⊢
 obtain ⟨j, hj⟩ : ∃ i, 2 * k + 2 = i := ⟨_, rfl⟩
 rw [hj] at hS
 obtain ⟨i, hi⟩ : ∃ i, 2 * k = i := ⟨_, rfl⟩
 rw [hi] at hS
 have a1 : (k : Int) * 2 = (i : Int) := by omega
 have a2 : (i : Int) + 2 = (j : Int) := by omega
 have a3 : (0 : Int) ≤ (i : Int) := by omega
 have a4 : (i : Int) ≤ (j : Int) := by omega
 have a5 : (j : Int) ≤ (c.size : Int) := by omega
 have a6 : k ≤ 1000000 := by omega
 have a7 : i ≤ 1000000 := by omega
 replace hS := Lib.hid hS
 clear hSS hi hj hk
 go_enter Tryz.func166, Tryz.ntmps166
 go_wp2
 go_ret
 exact ⟨by rw [← hS.out]; rfl, rfl⟩
set_option maxHeartbeats 4000000 in
theorem trans_own (c : ByteArray) (m : Nat) (w : World) (hm : c.size / 2 = m) (hc : c.size ≤ 1000000) : Calls Tryz.prog 163 #[.string c] w fun e w' => e = .returned (.int .i64 (m : Int)) ∧ w = w' := by
 have q2 : (c.size : Int) / 2 = (m : Int) := by omega
 clear hm
 go_enter Tryz.func163, Tryz.ntmps163
 go_wp2
 go_ret
 exact ⟨rfl, rfl⟩
theorem okC_at (c : ByteArray) (h : c.data.toList.all okC = true) (i : Nat) (hi : i < c.size) : okC c[i] = true := by
 have := List.all_eq_true.1 h (c.data.toList[i]'(by rw [size_list]; exact hi)) (List.getElem_mem _)
 exact this
theorem back_own (c : ByteArray) (n : Nat) (ho : c.data.toList.all okC = true) (hn : c.size = 2 * n + 4) (hc : c.size ≤ 100000) (k : Nat) (hk : k < n + 2) : ∃ (S : ByteArray) (C : Nat → Nat),
  (∀ W, Calls Tryz.prog 166 #[.string c, .int .i64 (k : Int)] W fun e w' => e = .returned (.string S) ∧ W = w') ∧
  (∀ W, Calls Tryz.prog 165 #[.agg (vec (costR ((rc c).drop (k + 1)))).toArray, .string S] W fun e w' => e = .returned (.tuple #[.agg (vec (costR ((rc c).drop k))).toArray, .agg (cvec C).toArray]) ∧ Below W.heap.size W w') ∧ C = chR ((rc c).drop k) := by
 have hrl := rc_len hn
 have hk2 : 2 * k + 1 < c.size := by omega
 have hkr : k < (rc c).length := by omega
 have hd := List.drop_eq_getElem_cons hkr
 have hpg : (rc c)[k] = (c[2 * k], c[2 * k + 1]) := pairs_get k _ hkr (by rw [size_list]; omega) (by rw [size_list]; exact hk2)
 refine ⟨_, _, fun W => received_own c k W hk2 (by omega), fun W => ?_, rfl⟩
 have h := cbefore_own (costR ((rc c).drop (k + 1))) c[2 * k] c[2 * k + 1] W (okC_at c ho _ (by omega)) (okC_at c ho _ hk2) (fun j _ => costR_fit _ (by rw [List.length_drop]; omega) j)
 rw [stepF_row, stepC_row] at h
 rw [hd, hpg]
 exact h
end V10
namespace V10
open Go.RowKit Mem C9

theorem info_byteV : (Tryz.prog.info? 5).map (fun i => (i.zero, i.size, i.bytes)) = some (some (.int .u8 0), 1, 1) := by kernel_rfl
theorem make_bytesV (w : World) (n : Nat) (h : n ≤ 1000000) : ∃ l : List Value, l = List.replicate n (.int .u8 0) ∧ (Instr.makeSlice 53 (.int .i64 (n : Int)) (.int .i64 (n : Int))).run Tryz.prog w = .ok (.slice (some ⟨w.heap.size, 0, none⟩) n n) (w.alloc (.cells l.toArray 5)) := by
 obtain ⟨i0, hi, hz0, hz1, hz2⟩ := info_parts info_byteV
 have hr := run_make (P := Tryz.prog) w 53 5 i0 _ Tryz.underlying53 hi hz0 .i64 .i64 (n : Int) (n : Int) (by omega) (Int.le_refl _) (by rw [hz2]; omega) (by omega)
 simp only [Int.toNat_natCast] at hr
 rw [hz1] at hr
 refine ⟨_, rfl, ?_⟩
 rw [Nat.mul_one] at hr
 have e : (madeCells (Value.int .u8 0).cells n) = (List.replicate n (Value.int .u8 0)).toArray := by
  apply Array.toList_inj.1
  apply List.ext_getElem
  ·simp [size_madeCells]
  ·intro i h1 h2
   simp [madeCells, Value.cells]
   rw [Nat.mod_one]
   rfl
 rw [e] at hr
 exact hr
structure Chs (W : World) (g : Nat) (R : List (UInt8 × UInt8)) (m : Nat) : Prop where
 lt : g < W.heap.size
 cell : ∀ q s, q < m → s < 4 → W.cell? ⟨g, q * 4 + s, none⟩ = some (.int .u8 (chR (R.drop q) s : Int))
def outL (D : List Bool) (k m : Nat) : List Value := bys (cs (D.take k)) ++ List.replicate (m - k) (.int .u8 0)
theorem outL_len (D : List Bool) (k m : Nat) (hD : D.length = m) (hk : k ≤ m) : (outL D k m).length = m := by
 unfold outL bys
 simp [cs_len]
 omega
theorem outL_set (D : List Bool) (k m : Nat) (hD : D.length = m) (hk : k < m) (u : Bool) (hu : D.take (k + 1) = D.take k ++ [u]) : (outL D k m).set k (.int .u8 ((cell u).toNat : Int)) = outL D (k + 1) m := by
 unfold outL
 have hl : (bys (cs (D.take k))).length = k := by unfold bys; simp [cs_len]; omega
 rw [hu, List.set_append_right _ _ (by omega), hl, Nat.sub_self, show m - k = (m - (k + 1)) + 1 by omega, List.replicate_succ, List.set_cons_zero]
 unfold bys
 simp [cs]
theorem outL_next (D : List Bool) (k m : Nat) (hD : D.length = m) (hk : k < m) : (outL D k m)[k]? = some (.int .u8 0) := by
 unfold outL
 have hl : (bys (cs (D.take k))).length = k := by unfold bys; simp [cs_len]; omega
 rw [List.getElem?_append_right (by omega), hl, Nat.sub_self, show m - k = (m - (k + 1)) + 1 by omega, List.replicate_succ]
 rfl
theorem outL_all (D : List Bool) (m : Nat) (hD : D.length = m) : outL D m m = bys (cs D) := by
 unfold outL
 rw [Nat.sub_self, List.take_of_length_le (by omega)]
 simp
set_option maxHeartbeats 8000000 in
theorem cheapest_own (R : List (UInt8 × UInt8)) (g n : Nat) (w : World) (hR : R.length = n + 2) (hn : n ≤ 50000) (hp : 0 ≤ (tb R false false).1) (hC : Chs w g R (n + 2)) :
  Calls Tryz.prog 167 #[.slice (some ⟨g, 0, none⟩) (n + 2) (n + 2)] w fun e w' => e = .returned (.tuple #[.string (sb ((dec R false false).take n)), .bool (decide ((tb R false false).2 = 1))]) ∧ Below w.heap.size w w' := by
 obtain ⟨m, hm⟩ : ∃ m, n + 2 = m := ⟨_, rfl⟩
 rw [hm] at hR hC ⊢
 obtain ⟨l0, hl0, hmk⟩ := make_bytesV w m (by omega)
 have hDl : (dec R false false).length = m := by rw [dec_len, hR]
 have hfol := Lib.hid (Follow.start hp)
 have hdone := Lib.hid (fun s1 s2 q (h : Follow R m s1 s2 q) => Follow.done (hR ▸ h))
 have hstep : ∀ k, k < m → ∀ (s1 s2 q : Bool), Follow R k s1 s2 q → ∃ v, chE (R.drop k) s1 s2 = v ∧ v ≤ 2 ∧ (v = 0 → (dec R false false).take (k + 1) = (dec R false false).take k ++ [false] ∧ Follow R (k + 1) false s1 q) ∧ (v = 1 → (dec R false false).take (k + 1) = (dec R false false).take k ++ [true] ∧ Follow R (k + 1) true s1 q) ∧ (v = 2 → (dec R false false).take (k + 1) = (dec R false false).take k ++ [false] ∧ Follow R (k + 1) false s1 false) := by
  intro k hk s1 s2 q h
  have hD : k < (dec R false false).length := by omega
  have ht : (dec R false false).take (k + 1) = (dec R false false).take k ++ [(dec R false false)[k]] := List.take_succ_eq_append_getElem hD
  refine ⟨_, rfl, chE_le _ _ _, fun e => ?_, fun e => ?_, fun e => ?_⟩
  ·obtain ⟨h1, h2⟩ := h.next (by omega) false (by rw [e]; rfl) hD
   rw [e] at h2
   rw [ht, h1]
   exact ⟨rfl, by simpa using h2⟩
  ·obtain ⟨h1, h2⟩ := h.next (by omega) true (by rw [e]; rfl) hD
   rw [e] at h2
   rw [ht, h1]
   exact ⟨rfl, by simpa using h2⟩
  ·obtain ⟨h1, h2⟩ := h.next (by omega) false (by rw [e]; rfl) hD
   rw [e] at h2
   rw [ht, h1]
   exact ⟨rfl, by simpa using h2⟩
 obtain ⟨b1, hb1⟩ : ∃ b, decide ((tb R false false).2 = 1) = b := ⟨_, rfl⟩
 rw [hb1] at hdone ⊢
 obtain ⟨D, hD⟩ : ∃ D, dec R false false = D := ⟨_, rfl⟩
 rw [hD] at hDl hstep ⊢
 have hout := Lib.hid (outL_len D · m hDl)
 have hset := Lib.hid (fun k h u hu => outL_set D k m hDl h u hu)
 have hnxt := Lib.hid (fun k h => outL_next D k m hDl h)
 have hall := Lib.hid (outL_all D m hDl)
 have hB0 : BlkT 5 (w.alloc (.cells l0.toArray 5)) w.heap.size (outL D 0 m) := by
  rw [hl0]
  exact World.alloc_heap_new w _
 have hb0 : Below w.heap.size w (w.alloc (.cells l0.toArray 5)) := (Below.refl _ w).alloc (Nat.le_refl _) _
 have hs0 : w.heap.size < (w.alloc (.cells l0.toArray 5)).heap.size := by simp
 obtain ⟨W0, hW0⟩ : ∃ W0, w.alloc (.cells l0.toArray 5) = W0 := ⟨_, rfl⟩
 obtain ⟨G, hG⟩ : ∃ G, w.heap.size = G := ⟨_, rfl⟩
 rw [hW0, hG] at hmk hB0 hb0 hs0
 have hgG : g < G := by rw [← hG]; exact hC.lt
 have hm6 : m ≤ 50002 := by omega
 have hm2 : (m : Int) - 2 = (n : Int) := by omega
 have hm3 : n ≤ m := by omega
 replace hB0 := Lib.hid hB0
 replace hs0 := Lib.hid hs0
 replace hG := Lib.hid hG
 replace hstep := Lib.hid hstep
 replace hC := Lib.hid hC
 replace hDl := Lib.hid hDl
 clear hl0 hW0 hD hp hR hm hb1
 go_enter Tryz.func167, Tryz.ntmps167
 go_wp2
 go_loopw [5, 6, 14] (fun sv qv iv wr => ∃ (k S : Nat) (s1 s2 q : Bool), k ≤ m ∧ iv = .int .i64 (k : Int) ∧ sv = .int .i64 (S : Int) ∧ qv = .bool q ∧ Hid (S = stN s1 s2) ∧ Hid (Follow R k s1 s2 q) ∧ Hid (BlkT 5 wr G (outL D k m)) ∧ Hid (G < wr.heap.size) ∧ Below G w wr) (fun _ _ iv _ => m - (intOf iv).toNat)
 case atStart => exact ⟨0, 0, false, false, true, Nat.zero_le _, rfl, rfl, rfl, Lib.hid rfl, hfol, hB0, hs0, hb0⟩
 case round =>
  clear hfol hB0 hs0 hb0 hmk
  obtain ⟨k, S, s1, s2, q, hk, rfl, rfl, rfl, hS, hf, hg, hsz, hb⟩ := hrel
  by_cases hlt : k < m
  ·have hS4 : S < 4 := by rw [hS.out]; cases s1 <;> cases s2 <;> decide
   have dl : decide ((k : Int) < (m : Int)) = true := decide_eq_true (by omega)
   obtain ⟨v, hv, hv2, a0, a1, a2⟩ := hstep.out k hlt s1 s2 q hf.out
   have hch := hC.out.cell k S hlt hS4
   rw [hS.out, chR_at, hv, ← hS.out] at hch
   have hcw := (hb.cell (p := ⟨g, k * 4 + S, none⟩) hgG).trans hch
   have n0 := fun W => next_at s1 s2 false W
   have n1 := fun W => next_at s1 s2 true W
   rw [← hS.out] at n0 n1
   obtain ⟨S0, hS0⟩ : ∃ S0, stN false s1 = S0 := ⟨_, rfl⟩
   obtain ⟨S1, hS1⟩ : ∃ S1, stN true s1 = S1 := ⟨_, rfl⟩
   obtain ⟨C0, hC0⟩ : ∃ C, sb [false ^^ s1 ^^ s2, false ^^ s2] = C := ⟨_, rfl⟩
   obtain ⟨C1, hC1⟩ : ∃ C, sb [true ^^ s1 ^^ s2, true ^^ s2] = C := ⟨_, rfl⟩
   rw [hS0, hC0] at n0
   rw [hS1, hC1] at n1
   replace n0 : ∀ W, Calls Tryz.prog 122 #[.int .i64 (S : Int), .int .i64 0] W fun e w' => e = .returned (.tuple #[.int .i64 (S0 : Int), .string C0]) ∧ Below W.heap.size W w' := n0
   replace n1 : ∀ W, Calls Tryz.prog 122 #[.int .i64 (S : Int), .int .i64 1] W fun e w' => e = .returned (.tuple #[.int .i64 (S1 : Int), .string C1]) ∧ Below W.heap.size W w' := n1
   have hcell : wr.cell? ⟨G, k, none⟩ = some (.int .u8 0) := (hg.out.cell k).trans (hnxt.out k hlt)
   have hfrz : wr.frozen? ⟨G, k, none⟩ = false := hg.out.frz k
   have i0 : (0 : Int) ≤ (k : Int) := by omega
   have i1 : (k : Int) < (m : Int) := by omega
   have i2 : (0 : Int) ≤ (S : Int) := by omega
   have i3 : (S : Int) < 4 := by omega
   have hset1 : ∀ u : Bool, D.take (k + 1) = D.take k ++ [u] → BlkT 5 (wr.setCell ⟨G, k, none⟩ (.int .u8 ((cell u).toNat : Int))) G (outL D (k + 1) m) := fun u hu => by
    rw [← hset.out k hlt u hu]
    exact hg.out.set k _ (by rw [hout.out k hk]; exact hlt)
   replace n0 := Lib.hid n0
   replace n1 := Lib.hid n1
   replace hS0 := Lib.hid hS0
   replace hS1 := Lib.hid hS1
   clear hC0 hC1 hv hch
   have hv3 : v = 0 ∨ v = 1 ∨ v = 2 := by omega
   clear hv2
   rcases hv3 with rfl | rfl | rfl
   ·obtain ⟨ht, hfn⟩ := a0 rfl
    have hgn := hset1 false ht
    have hBn := hb.setCell (p := ⟨G, k, none⟩) (Nat.le_refl G) (.int .u8 48)
    replace hgn : BlkT 5 (wr.setCell ⟨G, k, none⟩ (.int .u8 48)) G (outL D (k + 1) m) := hgn
    have hsn : G < (wr.setCell ⟨G, k, none⟩ (.int .u8 48)).heap.size := by simpa using hsz.out
    replace hfn := Lib.hid hfn
    replace hgn := Lib.hid hgn
    replace hsn := Lib.hid hsn
    clear a0 a1 a2 hset1 ht hb hg
    go_wp2_with fail
    refine (n0.out _).mono ?_
    rintro e w5 ⟨rfl, hb5⟩
    have r1 := Lib.hid (hgn.out.below hb5 hsn.out)
    have r2 : Hid (G < w5.heap.size) := Lib.hid (Nat.lt_of_lt_of_le hsn.out hb5.size)
    have r3 : Below G w w5 := hBn.trans (hb5.mono (Nat.le_of_lt hsn.out))
    clear hgn hsn hb5 hBn hcell hfrz
    go_wp2
    go_roundw
    case rel => exact ⟨k + 1, S0, false, s1, q, by omega, by go_num, rfl, rfl, Lib.hid hS0.out.symm, hfn, r1, r2, r3⟩
    case measure => simp [intOf]; omega
   ·obtain ⟨ht, hfn⟩ := a1 rfl
    have hgn := hset1 true ht
    have hBn := hb.setCell (p := ⟨G, k, none⟩) (Nat.le_refl G) (.int .u8 49)
    replace hgn : BlkT 5 (wr.setCell ⟨G, k, none⟩ (.int .u8 49)) G (outL D (k + 1) m) := hgn
    have hsn : G < (wr.setCell ⟨G, k, none⟩ (.int .u8 49)).heap.size := by simpa using hsz.out
    replace hfn := Lib.hid hfn
    replace hgn := Lib.hid hgn
    replace hsn := Lib.hid hsn
    clear a0 a1 a2 hset1 ht hb hg
    go_wp2_with fail
    refine (n1.out _).mono ?_
    rintro e w5 ⟨rfl, hb5⟩
    have r1 := Lib.hid (hgn.out.below hb5 hsn.out)
    have r2 : Hid (G < w5.heap.size) := Lib.hid (Nat.lt_of_lt_of_le hsn.out hb5.size)
    have r3 : Below G w w5 := hBn.trans (hb5.mono (Nat.le_of_lt hsn.out))
    clear hgn hsn hb5 hBn hcell hfrz
    go_wp2
    go_roundw
    case rel => exact ⟨k + 1, S1, true, s1, q, by omega, by go_num, rfl, rfl, Lib.hid hS1.out.symm, hfn, r1, r2, r3⟩
    case measure => simp [intOf]; omega
   ·obtain ⟨ht, hfn⟩ := a2 rfl
    have hgn := hset1 false ht
    have hBn := hb.setCell (p := ⟨G, k, none⟩) (Nat.le_refl G) (.int .u8 48)
    replace hgn : BlkT 5 (wr.setCell ⟨G, k, none⟩ (.int .u8 48)) G (outL D (k + 1) m) := hgn
    have hsn : G < (wr.setCell ⟨G, k, none⟩ (.int .u8 48)).heap.size := by simpa using hsz.out
    replace hfn := Lib.hid hfn
    replace hgn := Lib.hid hgn
    replace hsn := Lib.hid hsn
    clear a0 a1 a2 hset1 ht hb hg
    go_wp2_with fail
    refine (n0.out _).mono ?_
    rintro e w5 ⟨rfl, hb5⟩
    have r1 := Lib.hid (hgn.out.below hb5 hsn.out)
    have r2 : Hid (G < w5.heap.size) := Lib.hid (Nat.lt_of_lt_of_le hsn.out hb5.size)
    have r3 : Below G w w5 := hBn.trans (hb5.mono (Nat.le_of_lt hsn.out))
    clear hgn hsn hb5 hBn hcell hfrz
    go_wp2
    go_roundw
    case rel => exact ⟨k + 1, S0, false, s1, false, by omega, by go_num, rfl, rfl, Lib.hid hS0.out.symm, hfn, r1, r2, r3⟩
    case measure => simp [intOf]; omega
  ·obtain rfl : k = m := by omega
   have dl : decide ((k : Int) < (k : Int)) = false := decide_eq_false (by omega)
   have hq := hdone.out s1 s2 q hf.out
   have hg2 := hg.out
   rw [hall.out] at hg2
   have hnk : n ≤ D.length := by rw [hDl.out]; omega
   have hBA : BAt wr G (cs (D.take n)) := fun j hj => by
    have hj' : j < D.length := by rw [cs_len, List.length_take] at hj; omega
    refine ⟨(hg2.cell j).trans ?_, hg2.frz j⟩
    rw [List.getElem?_eq_getElem (by unfold bys; simp [cs_len]; exact hj')]
    simp [bys, cs]
   have hcv := hBA.conv (P := Tryz.prog) (cap := k) (n := n) (by rw [cs_len, List.length_take]; omega) Tryz.underlying53 Tryz.underlying5 Tryz.underlying9
   have i4 : (0 : Int) ≤ (n : Int) := by omega
   have i5 : (n : Int) ≤ (k : Int) := by omega
   obtain ⟨O, hO⟩ : ∃ O : ByteArray, sb (D.take n) = O := ⟨_, rfl⟩
   replace hcv : (convert 53 9 (.slice (some ⟨G, 0, none⟩) n k)).run Tryz.prog wr = .ok (.string O) wr := by rw [← hO]; exact hcv
   replace hq := Lib.hid hq
   replace hO := Lib.hid hO
   clear hg2 hBA
   go_wp2
   go_ret2
   exact ⟨by rw [hq.out, hO.out]; rfl, by rw [hG.out]; exact hb⟩
end V10
namespace V10
open Go.RowKit Mem C9

theorem info_choV : (Tryz.prog.info? 181).map (fun i => (i.zero, i.size, i.bytes)) = some (some (.agg #[.int .u8 0, .int .u8 0, .int .u8 0, .int .u8 0]), 4, 4) := by kernel_rfl
theorem make_choV (w : World) (n : Nat) (h : n ≤ 1000000) : ∃ l : List Value, l.length = n * 4 ∧ (Instr.makeSlice 177 (.int .i64 (n : Int)) (.int .i64 (n : Int))).run Tryz.prog w = .ok (.slice (some ⟨w.heap.size, 0, none⟩) n n) (w.alloc (.cells l.toArray 181)) := by
 obtain ⟨i0, hi, hz0, hz1, hz2⟩ := info_parts info_choV
 have hr := run_make (P := Tryz.prog) w 177 181 i0 _ Tryz.underlying177 hi hz0 .i64 .i64 (n : Int) (n : Int) (by omega) (Int.le_refl _) (by rw [hz2]; omega) (by omega)
 simp only [Int.toNat_natCast] at hr
 rw [hz1] at hr
 refine ⟨(madeCells (Value.agg #[.int .u8 0, .int .u8 0, .int .u8 0, .int .u8 0]).cells (n * 4)).toList, ?_, ?_⟩
 ·rw [Array.length_toList, size_madeCells]
 ·rw [Array.toArray_toList]
  exact hr
def setRowV (l : List Value) (p : Nat) (f : Nat → Nat) : List Value :=
 (((l.set p (.int .u8 (f 0 : Int))).set (p + 1) (.int .u8 (f 1 : Int))).set (p + 2) (.int .u8 (f 2 : Int))).set (p + 3) (.int .u8 (f 3 : Int))
theorem setRowV_len (l : List Value) (p : Nat) (f : Nat → Nat) : (setRowV l p f).length = l.length := by simp [setRowV]
theorem setRowV_other (l : List Value) (p : Nat) (f : Nat → Nat) (x : Nat) (h : x < p ∨ p + 4 ≤ x) : (setRowV l p f)[x]? = l[x]? := by
 unfold setRowV
 rw [List.getElem?_set_ne (by omega), List.getElem?_set_ne (by omega), List.getElem?_set_ne (by omega), List.getElem?_set_ne (by omega)]
theorem setRowV_same (l : List Value) (p : Nat) (f : Nat → Nat) (hp : p + 4 ≤ l.length) : ∀ j, j < 4 → (setRowV l p f)[p + j]? = some (.int .u8 (f j : Int)) := by
 intro j hj
 unfold setRowV
 have : j = 0 ∨ j = 1 ∨ j = 2 ∨ j = 3 := by omega
 rcases this with rfl | rfl | rfl | rfl <;> simp [List.getElem?_set] <;> omega
theorem blk_rowV {T : TypeId} {W : World} {g : Nat} {l : List Value} (h : BlkT T W g l) (p : Nat) (f : Nat → Nat) (hp : p + 4 ≤ l.length) :
  BlkT T ((((W.setCell ⟨g, p, none⟩ (.int .u8 (f 0 : Int))).setCell ⟨g, p + 1, none⟩ (.int .u8 (f 1 : Int))).setCell ⟨g, p + 2, none⟩ (.int .u8 (f 2 : Int))).setCell ⟨g, p + 3, none⟩ (.int .u8 (f 3 : Int))) g (setRowV l p f) :=
 (((h.set p _ (by omega)).set (p + 1) _ (by simp; omega)).set (p + 2) _ (by simp; omega)).set (p + 3) _ (by simp; omega)
def TabV (l : List Value) (R : List (UInt8 × UInt8)) (k m : Nat) : Prop := ∀ q, k ≤ q → q < m → ∀ j, j < 4 → l[q * 4 + j]? = some (.int .u8 (chR (R.drop q) j : Int))
theorem TabV.step {l : List Value} {R : List (UInt8 × UInt8)} {k m : Nat} (h : TabV l R (k + 1) m) (hl : l.length = m * 4) (hk : k < m) : TabV (setRowV l (k * 4) (chR (R.drop k))) R k m := by
 intro q h1 h2 j hj
 by_cases e : q = k
 ·subst e
  rw [setRowV_same l (q * 4) _ (by rw [hl]; omega) j hj]
 ·rw [setRowV_other l (k * 4) _ _ (by omega)]
  exact h q (by omega) h2 j hj
theorem far_rowV {T : TypeId} {W : World} {g g' : Nat} {l : List Value} (h : BlkT T W g l) (hne : g' ≠ g) (p : Nat) (v0 v1 v2 v3 : Value) : BlkT T ((((W.setCell ⟨g', p, none⟩ v0).setCell ⟨g', p + 1, none⟩ v1).setCell ⟨g', p + 2, none⟩ v2).setCell ⟨g', p + 3, none⟩ v3) g l :=
 (((h.far hne p _).far hne (p + 1) _).far hne (p + 2) _).far hne (p + 3) _
theorem below_rowV {G g : Nat} {w W : World} (h : Below G w W) (hg : G ≤ g) (p : Nat) (v0 v1 v2 v3 : Value) : Below G w ((((W.setCell ⟨g, p, none⟩ v0).setCell ⟨g, p + 1, none⟩ v1).setCell ⟨g, p + 2, none⟩ v2).setCell ⟨g, p + 3, none⟩ v3) :=
 (((h.setCell (p := ⟨g, p, none⟩) hg _).setCell (p := ⟨g, p + 1, none⟩) hg _).setCell (p := ⟨g, p + 2, none⟩) hg _).setCell (p := ⟨g, p + 3, none⟩) hg _
theorem dS_errV {c : ByteArray} (h : eB c ≠ 0) : dS c = ⟨#[]⟩ ∧ dN c = 0 ∧ dB c = false := by
 unfold dS dN dB
 rw [if_neg h, if_neg h, if_neg h]
 exact ⟨rfl, rfl, rfl⟩
set_option maxHeartbeats 16000000 in
theorem decode_own (c : ByteArray) (w : World) (hc : c.size ≤ 100000) : Calls Tryz.prog 128 #[.string c] w (Deco c w) := by
 have cK := Lib.hid (fun W => check_own c W (by omega))
 unfold Deco
 by_cases he : eB c = 0
 ·obtain ⟨ho, n, hn⟩ := eB_zero he
  obtain ⟨m, hm⟩ : ∃ m, n + 2 = m := ⟨_, rfl⟩
  have q3 : c.size / 2 = m := by omega
  have hdS : dS c = sb ((dec (rc c) false false).take n) := by unfold dS; rw [if_pos he, show c.size / 2 - 2 = n by omega]
  have hdN : dN c = costR (rc c) 0 := by unfold dN; rw [if_pos he]; rfl
  have hdB : dB c = decide ((tb (rc c) false false).2 = 1) := by unfold dB; rw [if_pos he]
  rw [he] at cK ⊢
  rw [hdS, hdN, hdB]
  have hrl := rc_len hn
  have hz : 0 ≤ (tb (rc c) false false).1 := by
   by_cases hneg : (tb (rc c) false false).1 < 0
   ·exact absurd (path_of (List.replicate n false) (rc c) (by rw [hrl, List.length_replicate])) (((tb_ok _ _ _).neg hneg).2 _)
   ·omega
  have hE := Lib.hid (fun j (hj : j < m) => back_own c n ho hn hc j (by omega))
  have cC := Lib.hid (fun g W h => cheapest_own (rc c) g n W hrl (by omega) hz h)
  rw [hm] at cC hrl
  have hend : (rc c).drop m = [] := List.drop_of_length_le (by omega)
  obtain ⟨l0, hl0, hmk⟩ := make_choV w m (by omega)
  obtain ⟨R, hR⟩ : ∃ R, rc c = R := ⟨_, rfl⟩
  rw [hR] at hE hend cC ⊢
  obtain ⟨DS, hDS⟩ : ∃ D, sb ((dec R false false).take n) = D := ⟨_, rfl⟩
  obtain ⟨DB, hDB⟩ : ∃ D, decide ((tb R false false).2 = 1) = D := ⟨_, rfl⟩
  rw [hDS, hDB] at cC ⊢
  have cN := Lib.hid (fun W => end_own W)
  have cT := Lib.hid (fun W => trans_own c m W q3 (by omega))
  have hB0 : BlkT 181 (w.alloc (.cells l0.toArray 181)) w.heap.size l0 := World.alloc_heap_new w _
  have hb0 : Below w.heap.size w (w.alloc (.cells l0.toArray 181)) := (Below.refl _ w).alloc (Nat.le_refl _) _
  have hs0 : w.heap.size < (w.alloc (.cells l0.toArray 181)).heap.size := by simp
  have hT0 : TabV l0 R m m := fun q h1 h2 => absurd h1 (by omega)
  obtain ⟨W0, hW0⟩ : ∃ W0, w.alloc (.cells l0.toArray 181) = W0 := ⟨_, rfl⟩
  obtain ⟨G, hG⟩ : ∃ G, w.heap.size = G := ⟨_, rfl⟩
  rw [hW0, hG] at hmk hB0 hb0 hs0
  have hm6 : m ≤ 50002 := by omega
  replace hG := Lib.hid hG
  replace hT0 := Lib.hid hT0
  replace hl0 := Lib.hid hl0
  replace hend := Lib.hid hend
  clear he ho hn hm hR hdS hdN hdB hrl hz hDS hDB hW0 q3
  go_enter Tryz.func128, Tryz.ntmps128
  go_wp2_with fail
  refine (cK.out _).mono ?_
  rintro e w1 ⟨rfl, rfl⟩
  go_wp2_with fail
  refine (cT.out _).mono ?_
  rintro e w1 ⟨rfl, rfl⟩
  go_wp2_with fail
  refine (cN.out _).mono ?_
  rintro e w1 ⟨rfl, hb1⟩
  have hB1 := hB0.below hb1 hs0
  have hBb : Below G w w1 := hb0.trans (hb1.mono (Nat.le_of_lt hs0))
  have hs1 : G < w1.heap.size := Nat.lt_of_lt_of_le hs0 hb1.size
  obtain ⟨H, hH⟩ : ∃ H, w1.heap.size = H := ⟨_, rfl⟩
  have hH0 : BlkT 178 (w1.alloc (.cells #[.int .i64 0, .int .i64 (-1), .int .i64 (-1), .int .i64 (-1)] 178)) H (vec (costR [])) := by rw [← hH]; exact World.alloc_heap_new w1 _
  have hHz : BlkT 181 (w1.alloc (.cells #[.int .i64 0, .int .i64 (-1), .int .i64 (-1), .int .i64 (-1)] 178)) G l0 := by
   unfold BlkT
   rw [Lib.alloc_old _ _ _ hs1]
   exact hB1
  have hHb : Below G w (w1.alloc (.cells #[.int .i64 0, .int .i64 (-1), .int .i64 (-1), .int .i64 (-1)] 178)) := hBb.alloc (Nat.le_of_lt hs1) _
  have hHs : H < (w1.alloc (.cells #[.int .i64 0, .int .i64 (-1), .int .i64 (-1), .int .i64 (-1)] 178)).heap.size := by rw [← hH]; simp
  have hGH : G < H := by rw [← hH]; exact hs1
  rw [← hend.out] at hH0
  replace hH := Lib.hid hH
  replace hH0 := Lib.hid hH0
  replace hHz := Lib.hid hHz
  replace hHs := Lib.hid hHs
  clear hB1 hBb hs1 hb1 hB0 hb0 hs0 hmk
  go_wp2
  rw [hH.out]
  go_loopw [9] (fun iv wr => ∃ (K : Nat) (l : List Value), K ≤ m ∧ iv = .int .i64 ((K : Int) - 1) ∧ Hid (l.length = m * 4) ∧ Hid (TabV l R K m) ∧ Hid (BlkT 178 wr H (vec (costR (R.drop K)))) ∧ Hid (BlkT 181 wr G l) ∧ Hid (H < wr.heap.size) ∧ Below G w wr) (fun iv _ => ((intOf iv) + 1).toNat)
  case atStart => exact ⟨m, l0, Nat.le_refl _, rfl, hl0, hT0, hH0, hHz, hHs, hHb⟩
  case round =>
   clear hH0 hHz hHs hHb hH hT0 hl0 hend
   obtain ⟨K, l, hK, rfl, hl, hT, hg, hgz, hsz, hb⟩ := hrel
   by_cases hKz : K = 0
   ·subst hKz
    have hx : ((0 : Nat) : Int) - 1 = -1 := by decide
    rw [hx]
    have hCh : Chs wr G R m := ⟨Nat.lt_trans hGH hsz.out, fun q s hq hs => (hgz.out.cell _).trans (hT.out q (Nat.zero_le _) hq s hs)⟩
    have hc0 : wr.cell? ⟨H, 0, none⟩ = some (.int .i64 (costR R 0)) := hg.out.cell 0
    have cD := cC.out G wr hCh
    obtain ⟨Z, hZ⟩ : ∃ Z, costR R 0 = Z := ⟨_, rfl⟩
    rw [hZ] at hc0
    replace hZ := Lib.hid hZ
    replace cD := Lib.hid cD
    clear hCh hg hgz hE hT hl cC
    go_wp2_with fail
    refine cD.out.mono ?_
    rintro e w5 ⟨rfl, hb5⟩
    have hc5 := (hb5.cell (p := ⟨H, 0, none⟩) hsz.out).trans hc0
    have hB5 : Below G w w5 := hb.trans (hb5.mono (by have := hsz.out; omega))
    clear hc0 hb5 hb
    go_wp2_with fail
    go_quiet (fail)
    go_wp2
    exact bodyPost_ret (v := .tuple #[.string DS, .int .i64 Z, .bool DB, .int .i64 0]) (by simp [results, Tryz.results128, go_sem]) rfl ⟨by rw [hZ.out], by rw [hG.out]; exact ⟨hB5.os, hB5.tape, hB5.output, hB5.size, hB5.block⟩⟩
   ·obtain ⟨k, rfl⟩ : ∃ k, K = k + 1 := ⟨K - 1, by omega⟩
    have hx : ((k + 1 : Nat) : Int) - 1 = (k : Int) := by omega
    rw [hx]
    have hkm : k < m := by omega
    obtain ⟨S, C, cR, cB, hC⟩ := hE.out k hkm
    obtain ⟨E, hEE⟩ : ∃ F, costR (R.drop (k + 1)) = F := ⟨_, rfl⟩
    obtain ⟨F, hF⟩ : ∃ F, costR (R.drop k) = F := ⟨_, rfl⟩
    rw [hEE] at cB hg
    rw [hF] at cB
    replace cB : ∀ W, Calls Tryz.prog 165 #[.agg #[.int .i64 (E 0), .int .i64 (E 1), .int .i64 (E 2), .int .i64 (E 3)], .string S] W fun e w' => e = .returned (.tuple #[.agg #[.int .i64 (F 0), .int .i64 (F 1), .int .i64 (F 2), .int .i64 (F 3)], .agg #[.int .u8 (C 0 : Int), .int .u8 (C 1 : Int), .int .u8 (C 2 : Int), .int .u8 (C 3 : Int)]]) ∧ Below W.heap.size W w' := cB
    have c0 : wr.cell? ⟨H, 0, none⟩ = some (.int .i64 (E 0)) := hg.out.cell 0
    have c1 : wr.cell? ⟨H, 1, none⟩ = some (.int .i64 (E 1)) := hg.out.cell 1
    have c2 : wr.cell? ⟨H, 2, none⟩ = some (.int .i64 (E 2)) := hg.out.cell 2
    have c3 : wr.cell? ⟨H, 3, none⟩ = some (.int .i64 (E 3)) := hg.out.cell 3
    have k1 : k ≤ 1000000 := by omega
    have i0 : (0 : Int) ≤ (k : Int) := by omega
    have i1 : (k : Int) < (m : Int) := by omega
    have cX : ∀ W, Below wr.heap.size wr W → W.cell? ⟨H, 0, none⟩ = some (.int .i64 (E 0)) ∧ W.cell? ⟨H, 1, none⟩ = some (.int .i64 (E 1)) ∧ W.cell? ⟨H, 2, none⟩ = some (.int .i64 (E 2)) ∧ W.cell? ⟨H, 3, none⟩ = some (.int .i64 (E 3)) ∧ (∀ j, W.frozen? ⟨H, j, none⟩ = false) ∧ W.cell? ⟨G, k * 4, none⟩ = some (cellOr W G (k * 4)) ∧ W.cell? ⟨G, k * 4 + 1, none⟩ = some (cellOr W G (k * 4 + 1)) ∧ W.cell? ⟨G, k * 4 + 2, none⟩ = some (cellOr W G (k * 4 + 2)) ∧ W.cell? ⟨G, k * 4 + 3, none⟩ = some (cellOr W G (k * 4 + 3)) ∧ (∀ j, W.frozen? ⟨G, j, none⟩ = false) := fun W h =>
     have g := hg.out.below h hsz.out
     have g' := hgz.out.below h (Nat.lt_trans hGH hsz.out)
     have L := hl.out
     ⟨g.cell 0, g.cell 1, g.cell 2, g.cell 3, g.frz, (g'.has _ (by omega)).1, (g'.has _ (by omega)).1, (g'.has _ (by omega)).1, (g'.has _ (by omega)).1, g'.frz⟩
    replace cX := Lib.hid cX
    replace cR := Lib.hid cR
    replace cB := Lib.hid cB
    replace hF := Lib.hid hF
    replace hC := Lib.hid hC
    clear hEE hx
    go_wp2_with fail
    go_region_with (first | (go_at_call 166; (with_reducible refine (cR.out _).mono ?_); rintro e w5 ⟨rfl, rfl⟩) | (go_at_call 165; (with_reducible refine (cB.out _).mono ?_); rintro e w6 ⟨rfl, hb7⟩; (have hb6 : Below wr.heap.size wr w6 := ⟨hb7.os, hb7.tape, hb7.output, hb7.size, hb7.block⟩); clear hb7; obtain ⟨n0, n1, n2, n3, nf, y0, y1, y2, y3, yf⟩ := cX.out _ hb6))
    all_goals
     have hg6 := hg.out.below hb6 hsz.out
     have hgz6 := hgz.out.below hb6 (Nat.lt_trans hGH hsz.out)
     have hne : G ≠ H := Nat.ne_of_lt hGH
     have r1 : Hid (BlkT 178 ((((((((w6.setCell ⟨H, 0, none⟩ (.int .i64 (F 0))).setCell ⟨H, 1, none⟩ (.int .i64 (F 1))).setCell ⟨H, 2, none⟩ (.int .i64 (F 2))).setCell ⟨H, 3, none⟩ (.int .i64 (F 3))).setCell ⟨G, k * 4, none⟩ (.int .u8 (C 0 : Int))).setCell ⟨G, k * 4 + 1, none⟩ (.int .u8 (C 1 : Int))).setCell ⟨G, k * 4 + 2, none⟩ (.int .u8 (C 2 : Int))).setCell ⟨G, k * 4 + 3, none⟩ (.int .u8 (C 3 : Int))) H (vec (costR (R.drop k)))) := Lib.hid (by rw [hF.out]; exact far_rowV (hg6.vec4 F) hne (k * 4) _ _ _ _)
     have r2 := Lib.hid (blk_rowV (hgz6.far4 (Ne.symm hne) (.int .i64 (F 0)) (.int .i64 (F 1)) (.int .i64 (F 2)) (.int .i64 (F 3))) (k * 4) C (by rw [hl.out]; omega))
     have r3 : Hid (TabV (setRowV l (k * 4) C) R k m) := Lib.hid (by rw [hC.out]; exact TabV.step hT.out hl.out hkm)
     have r4 : Hid ((setRowV l (k * 4) C).length = m * 4) := Lib.hid (by rw [setRowV_len]; exact hl.out)
     have r5 : Hid (H < ((((((((w6.setCell ⟨H, 0, none⟩ (.int .i64 (F 0))).setCell ⟨H, 1, none⟩ (.int .i64 (F 1))).setCell ⟨H, 2, none⟩ (.int .i64 (F 2))).setCell ⟨H, 3, none⟩ (.int .i64 (F 3))).setCell ⟨G, k * 4, none⟩ (.int .u8 (C 0 : Int))).setCell ⟨G, k * 4 + 1, none⟩ (.int .u8 (C 1 : Int))).setCell ⟨G, k * 4 + 2, none⟩ (.int .u8 (C 2 : Int))).setCell ⟨G, k * 4 + 3, none⟩ (.int .u8 (C 3 : Int))).heap.size) := Lib.hid (by
      have := hsz.out
      have := hb6.size
      simp
      omega)
     have r6 := below_rowV (below4 (hb.trans (hb6.mono (by have := hsz.out; omega))) (Nat.le_of_lt hGH) (.int .i64 (F 0)) (.int .i64 (F 1)) (.int .i64 (F 2)) (.int .i64 (F 3))) (Nat.le_refl G) (k * 4) (.int .u8 (C 0 : Int)) (.int .u8 (C 1 : Int)) (.int .u8 (C 2 : Int)) (.int .u8 (C 3 : Int))
     clear hg6 hgz6 hb6 n0 n1 n2 n3 nf y0 y1 y2 y3 yf c0 c1 c2 c3 hne
     go_wp2
     go_roundw
     case rel => exact ⟨k, _, by omega, rfl, r4, r3, r1, r2, r5, r6⟩
     case measure => simp [intOf]
 ·obtain ⟨g1, g2, g3⟩ := dS_errV he
  rw [g1, g2, g3]
  obtain ⟨k, hk⟩ : ∃ k, eB c = k := ⟨_, rfl⟩
  rw [hk] at cK he ⊢
  have d1 : (k != 0) = true := bne_iff_ne.2 he
  clear g1 g2 g3 he hk
  go_enter Tryz.func128, Tryz.ntmps128
  go_wp2_with fail
  refine (cK.out _).mono ?_
  rintro e w1 ⟨rfl, rfl⟩
  go_wp2
  exact bodyPost_ret (by simp [results, Tryz.results128, go_sem]) rfl ⟨rfl, Below.refl _ _⟩
end V10
end Go.Proofs.YtiodkllckcpinaaGreatDoor
