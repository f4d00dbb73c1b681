/- The contract of the landed function costsBefore of layer 10. -/
import Derived.Test.YtmkmikegddafdaaV10Own1
namespace Go.Proofs.Ytmkmikegddafdaa.V10
open Go.RowKit Mem C9
set_option linter.unusedVariables false
set_option linter.unusedSimpArgs false

def cvec (f : Nat → Nat) : List Value := [.int .u8 (f 0 : Int), .int .u8 (f 1 : Int), .int .u8 (f 2 : Int), .int .u8 (f 3 : Int)]
/-- A block whose cells are these. -/
def BlkT (T : TypeId) (W : World) (g : Nat) (l : List Value) : Prop := W.heap[g]? = some (.cells l.toArray T (0, 0))
theorem BlkT.cell {T : TypeId} {W : World} {g : Nat} {l : List Value} (h : BlkT T W g l) (j : Nat) : W.cell? ⟨g, j, none⟩ = l[j]? := by
  unfold BlkT at h
  simp [World.cell?, h]
theorem BlkT.frz {T : TypeId} {W : World} {g : Nat} {l : List Value} (h : BlkT T W g l) (j : Nat) : W.frozen? ⟨g, j, none⟩ = false := by
  unfold BlkT at h
  simp [World.frozen?, h]
theorem BlkT.set {T : TypeId} {W : World} {g : Nat} {l : List Value} (h : BlkT T W g l) (j : Nat) (v : Value) (hj : j < l.length) : BlkT T (W.setCell ⟨g, j, none⟩ v) g (l.set j v) := by
  unfold BlkT at *
  simp [World.setCell, Array.getElem?_modify, h]
theorem BlkT.far {T : TypeId} {W : World} {g g' : Nat} {l : List Value} (h : BlkT T W g l) (hne : g' ≠ g) (j : Nat) (v : Value) : BlkT T (W.setCell ⟨g', j, none⟩ v) g l := by
  unfold BlkT at *
  rw [← h]
  exact Below.heap_setCell _ _ _ _ (fun e => hne e.symm)
theorem BlkT.below {T : TypeId} {W W' : World} {g : Nat} {l : List Value} (h : BlkT T W g l) (k : Below W.heap.size W W') (hg : g < W.heap.size) : BlkT T W' g l := (k.block g hg).trans h
theorem BlkT.drewN {T : TypeId} {W : World} {g : Nat} {l : List Value} (h : BlkT T W g l) (n : Nat) : BlkT T (W.drewN n) g l := h
def updI (f : Nat → Int) (s : Nat) (x : Int) (j : Nat) : Int := if j = s then x else f j
def updN (f : Nat → Nat) (s : Nat) (x : Nat) (j : Nat) : Nat := if j = s then x else f j
theorem vec_set (f : Nat → Int) (s : Nat) (hs : s < 4) (x : Int) : (vec f).set s (.int .i64 x) = vec (updI f s x) := by
  have : s = 0 ∨ s = 1 ∨ s = 2 ∨ s = 3 := by omega
  rcases this with rfl | rfl | rfl | rfl <;> rfl
theorem cvec_set (f : Nat → Nat) (s : Nat) (hs : s < 4) (x : Nat) : (cvec f).set s (.int .u8 (x : Int)) = cvec (updN f s x) := by
  have : s = 0 ∨ s = 1 ∨ s = 2 ∨ s = 3 := by omega
  rcases this with rfl | rfl | rfl | rfl <;> rfl
def partI (F : Nat → Int) (s : Nat) (j : Nat) : Int := if j < s then F j else 0
def partN (F : Nat → Nat) (s : Nat) (j : Nat) : Nat := if j < s then F j else 0
theorem partI_step (F : Nat → Int) (s : Nat) : updI (partI F s) s (F s) = partI F (s + 1) := by
  funext j
  unfold updI partI
  by_cases h : j = s
  · subst h
    rw [if_pos rfl, if_pos (by omega)]
  · rw [if_neg h]
    by_cases h2 : j < s
    · rw [if_pos h2, if_pos (by omega)]
    · rw [if_neg h2, if_neg (by omega)]
theorem partN_step (F : Nat → Nat) (s : Nat) : updN (partN F s) s (F s) = partN F (s + 1) := by
  funext j
  unfold updN partN
  by_cases h : j = s
  · subst h
    rw [if_pos rfl, if_pos (by omega)]
  · rw [if_neg h]
    by_cases h2 : j < s
    · rw [if_pos h2, if_pos (by omega)]
    · rw [if_neg h2, if_neg (by omega)]
theorem vec_len (f : Nat → Int) : (vec f).length = 4 := rfl
theorem cvec_len (f : Nat → Nat) : (cvec f).length = 4 := rfl
theorem cvec_at (f : Nat → Nat) (s : Nat) (hs : s < 4) : (cvec f)[s]? = some (.int .u8 (f s : Int)) := by
  have : s = 0 ∨ s = 1 ∨ s = 2 ∨ s = 3 := by omega
  rcases this with rfl | rfl | rfl | rfl <;> rfl
/-- One row of costs out of the row behind it; the inputs chosen. -/
def stepF (r : UInt8 × UInt8) (E : Nat → Int) (s : Nat) : Int := lsN (viaN (mm r (hi s) (lo s) false) (E (stN false (hi s)))) (viaN (mm r (hi s) (lo s) true) (E (stN true (hi s))))
def stepC (r : UInt8 × UInt8) (E : Nat → Int) (s : Nat) : Nat := chN (viaN (mm r (hi s) (lo s) false) (E (stN false (hi s)))) (viaN (mm r (hi s) (lo s) true) (E (stN true (hi s))))
/-- The results of a function with two result cells that hold whole arrays. -/
theorem results_two_rows {P : Program} {fn : Func} {p q : Tmp} {t1 t2 : TypeId} (h : fn.results = #[.cell p t1, .cell q t2]) (tmps : Array Value) (w : World) (g g' : Nat) (T T' : TypeId) (cs cs' : Array Value) (fr fr' : Nat × Nat) (d d' : TypeDesc)
    (hp : tmps.getD p undef = .pointer (some ⟨g, 0, none⟩)) (hq : tmps.getD q undef = .pointer (some ⟨g', 0, none⟩)) (hg : w.heap[g]? = some (.cells cs T fr)) (hg' : w.heap[g']? = some (.cells cs' T' fr'))
    (hu : P.underlying t1 = some d) (hd : (match d with | .struct _ | .array _ _ => true | _ => false) = true) (hi : (P.info? t1).map (·.size) = some cs.size)
    (hu' : P.underlying t2 = some d') (hd' : (match d' with | .struct _ | .array _ _ => true | _ => false) = true) (hi' : (P.info? t2).map (·.size) = some cs'.size) :
    (results fn tmps).run P w = .ok (.tuple #[.agg cs, .agg cs']) w := by
  have hp' : tmps[p]?.getD undef = .pointer (some ⟨g, 0, none⟩) := by simpa using hp
  have hq' : tmps[q]?.getD undef = .pointer (some ⟨g', 0, none⟩) := by simpa using hq
  simp [results, h, hp', hq', asAddr, run_loadVar_row w g T t1 cs fr d hg hu hd hi, run_loadVar_row w g' T' t2 cs' fr' d' hg' hu' hd' hi']
theorem three_blocks (w : World) (A B C : Obj) (G : Nat) (hG : w.heap.size = G) : ∃ W0, ((w.alloc A).alloc B).alloc C = W0 ∧ W0.heap[G]? = some A ∧ W0.heap[G + 1]? = some B ∧ W0.heap[G + 1 + 1]? = some C ∧ G + 1 + 1 < W0.heap.size ∧ Below G w W0 := by
  subst hG
  refine ⟨_, rfl, ?_, ?_, ?_, by simp, ?_⟩
  · rw [Lib.alloc_old _ _ _ (by simp; omega), Lib.alloc_old _ _ _ (by simp)]
    exact World.alloc_heap_new w _
  · rw [Lib.alloc_old _ _ _ (by simp)]
    have := World.alloc_heap_new (w.alloc A) B
    rw [World.size_alloc] at this
    exact this
  · have := World.alloc_heap_new ((w.alloc A).alloc B) C
    rw [World.size_alloc, World.size_alloc] at this
    exact this
  · exact (((Below.refl _ w).alloc (Nat.le_refl _) _).alloc (by simp) _).alloc (by simp; omega) _
/-- A cell's contents, under a name of its own. -/
def cellOr (W : World) (g s : Nat) : Value := (W.cell? ⟨g, s, none⟩).getD undef
theorem BlkT.has {T : TypeId} {W : World} {g : Nat} {l : List Value} (h : BlkT T W g l) (s : Nat) (hs : s < l.length) : W.cell? ⟨g, s, none⟩ = some (cellOr W g s) ∧ W.frozen? ⟨g, s, none⟩ = false := by
  refine ⟨?_, h.frz s⟩
  unfold cellOr
  rw [h.cell, List.getElem?_eq_getElem hs]
  rfl
/-- What stays while a row is reckoned. -/
structure Kp (w : World) (G : Nat) (E : Nat → Int) (W : World) : Prop where
  row : BlkT 27 W G (vec E)
  one : ∃ f, BlkT 27 W (G + 1) (vec f)
  two : ∃ f, BlkT 52 W (G + 1 + 1) (cvec f)
  size : G + 1 + 1 < W.heap.size
  below : Below G w W
theorem Kp.drew {w W : World} {G : Nat} {E : Nat → Int} (h : Kp w G E W) : Kp w G E W.drew := ⟨h.row, h.one, h.two, h.size, ⟨h.below.os, h.below.tape, h.below.output, h.below.size, h.below.block⟩⟩
theorem Kp.call {w W W' : World} {G : Nat} {E : Nat → Int} (h : Kp w G E W) (k : Below W.heap.size W W') : Kp w G E W' := by
  obtain ⟨f, hf⟩ := h.one
  obtain ⟨g, hg⟩ := h.two
  have := h.size
  exact ⟨h.row.below k (by omega), ⟨f, hf.below k (by omega)⟩, ⟨g, hg.below k h.size⟩, Nat.lt_of_lt_of_le h.size k.size, h.below.trans (k.mono (by omega))⟩
theorem Kp.set1 {w W : World} {G : Nat} {E : Nat → Int} (h : Kp w G E W) (s : Nat) (hs : s < 4) (x : Int) : Kp w G E (W.setCell ⟨G + 1, s, none⟩ (.int .i64 x)) := by
  obtain ⟨f, hf⟩ := h.one
  obtain ⟨g, hg⟩ := h.two
  refine ⟨h.row.far (by omega) s _, ⟨updI f s x, ?_⟩, ⟨g, hg.far (by omega) s _⟩, by simpa using h.size, h.below.setCell (p := ⟨G + 1, s, none⟩) (Nat.le_succ G) _⟩
  rw [← vec_set f s hs x]
  exact hf.set s _ hs
theorem Kp.set2 {w W : World} {G : Nat} {E : Nat → Int} (h : Kp w G E W) (s : Nat) (hs : s < 4) (x : Nat) : Kp w G E (W.setCell ⟨G + 1 + 1, s, none⟩ (.int .u8 (x : Int))) := by
  obtain ⟨f, hf⟩ := h.one
  obtain ⟨g, hg⟩ := h.two
  refine ⟨h.row.far (by omega) s _, ⟨f, hf.far (by omega) s _⟩, ⟨updN g s x, ?_⟩, by simpa using h.size, h.below.setCell (p := ⟨G + 1 + 1, s, none⟩) (by show G ≤ G + 1 + 1; omega) _⟩
  rw [← cvec_set g s hs x]
  exact hg.set s _ hs
/-- What stays while the two rows are handed out. -/
structure Kq (w : World) (G : Nat) (F : Nat → Int) (C : Nat → Nat) (W : World) : Prop where
  one : BlkT 27 W (G + 1) (vec F)
  two : BlkT 52 W (G + 1 + 1) (cvec C)
  below : Below G w W
theorem Kq.set1 {w W : World} {G : Nat} {F : Nat → Int} {C : Nat → Nat} (h : Kq w G F C W) : Kq w G F C ((((W.setCell ⟨G + 1, 0, none⟩ (.int .i64 (F 0))).setCell ⟨G + 1, 1, none⟩ (.int .i64 (F 1))).setCell ⟨G + 1, 2, none⟩ (.int .i64 (F 2))).setCell ⟨G + 1, 3, none⟩ (.int .i64 (F 3))) :=
  ⟨(((h.one.set 0 (.int .i64 (F 0)) (by simp [vec])).set 1 (.int .i64 (F 1)) (by simp [vec])).set 2 (.int .i64 (F 2)) (by simp [vec])).set 3 (.int .i64 (F 3)) (by simp [vec]),
    (((h.two.far (g' := G + 1) (by omega) 0 _).far (g' := G + 1) (by omega) 1 _).far (g' := G + 1) (by omega) 2 _).far (g' := G + 1) (by omega) 3 _,
    (((h.below.setCell (p := ⟨G + 1, 0, none⟩) (Nat.le_succ G) _).setCell (p := ⟨G + 1, 1, none⟩) (Nat.le_succ G) _).setCell (p := ⟨G + 1, 2, none⟩) (Nat.le_succ G) _).setCell (p := ⟨G + 1, 3, none⟩) (Nat.le_succ G) _⟩
theorem Kq.set2 {w W : World} {G : Nat} {F : Nat → Int} {C : Nat → Nat} (h : Kq w G F C W) : Kq w G F C ((((W.setCell ⟨G + 1 + 1, 0, none⟩ (.int .u8 (C 0 : Int))).setCell ⟨G + 1 + 1, 1, none⟩ (.int .u8 (C 1 : Int))).setCell ⟨G + 1 + 1, 2, none⟩ (.int .u8 (C 2 : Int))).setCell ⟨G + 1 + 1, 3, none⟩ (.int .u8 (C 3 : Int))) :=
  ⟨(((h.one.far (g' := G + 1 + 1) (by omega) 0 _).far (g' := G + 1 + 1) (by omega) 1 _).far (g' := G + 1 + 1) (by omega) 2 _).far (g' := G + 1 + 1) (by omega) 3 _,
    (((h.two.set 0 (.int .u8 (C 0 : Int)) (by simp [cvec])).set 1 (.int .u8 (C 1 : Int)) (by simp [cvec])).set 2 (.int .u8 (C 2 : Int)) (by simp [cvec])).set 3 (.int .u8 (C 3 : Int)) (by simp [cvec]),
    (((h.below.setCell (p := ⟨G + 1 + 1, 0, none⟩) (by show G ≤ G + 1 + 1; omega) _).setCell (p := ⟨G + 1 + 1, 1, none⟩) (by show G ≤ G + 1 + 1; omega) _).setCell (p := ⟨G + 1 + 1, 2, none⟩) (by show G ≤ G + 1 + 1; omega) _).setCell (p := ⟨G + 1 + 1, 3, none⟩) (by show G ≤ G + 1 + 1; omega) _⟩
theorem Kq.drew {w W : World} {G : Nat} {F : Nat → Int} {C : Nat → Nat} (h : Kq w G F C W) : Kq w G F C W.drew := ⟨h.one, h.two, ⟨h.below.os, h.below.tape, h.below.output, h.below.size, h.below.block⟩⟩
set_option maxRecDepth 100000 in
set_option maxHeartbeats 16000000 in
theorem cbefore_own (E : Nat → Int) (x y : UInt8) (w : World) (hx : okC x = true) (hy : okC y = true) (hE : ∀ j, j < 4 → -1 ≤ E j ∧ E j ≤ 1000000) :
    Calls Try.prog 27 #[.agg #[.int .i64 (E 0), .int .i64 (E 1), .int .i64 (E 2), .int .i64 (E 3)], .string ⟨#[x, y]⟩] w fun e w' =>
      e = .returned (.tuple #[.agg (vec (stepF (x, y) E)).toArray, .agg (cvec (stepC (x, y) E)).toArray]) ∧ Below w.heap.size w w' := by
  have hF : ∀ s, s < 4 → ∃ a b, stepF (x, y) E s = lsN a b ∧ stepC (x, y) E s = chN a b ∧
      (∀ W, Calls Try.prog 41 #[.agg #[.int .i64 (E 0), .int .i64 (E 1), .int .i64 (E 2), .int .i64 (E 3)], .string ⟨#[x, y]⟩, .int .i64 (s : Int), .int .i64 0] W fun e w' => e = .returned (.int .i64 a) ∧ Below W.heap.size W w') ∧
      (∀ W, Calls Try.prog 41 #[.agg #[.int .i64 (E 0), .int .i64 (E 1), .int .i64 (E 2), .int .i64 (E 3)], .string ⟨#[x, y]⟩, .int .i64 (s : Int), .int .i64 1] W fun e w' => e = .returned (.int .i64 b) ∧ Below W.heap.size W w') := fun s hs => by
    have h := stN_hilo s hs
    refine ⟨_, _, rfl, rfl, fun W => ?_, fun W => ?_⟩
    · have := cvia_own E x y (hi s) (lo s) false W hx hy hE
      rw [h] at this
      exact this
    · have := cvia_own E x y (hi s) (lo s) true W hx hy hE
      rw [h] at this
      exact this
  obtain ⟨F, hFF⟩ : ∃ F, stepF (x, y) E = F := ⟨_, rfl⟩
  obtain ⟨C, hCC⟩ : ∃ C, stepC (x, y) E = C := ⟨_, rfl⟩
  rw [hFF, hCC] at hF ⊢
  obtain ⟨I, hI⟩ : ∃ O : ByteArray, (⟨#[x, y]⟩ : ByteArray) = O := ⟨_, rfl⟩
  rw [hI] at hF ⊢
  obtain ⟨G, hG⟩ : ∃ G, w.heap.size = G := ⟨_, rfl⟩
  obtain ⟨W0, hW0, q1, q2, q3, q4, q5⟩ := three_blocks w (.cells #[.int .i64 (E 0), .int .i64 (E 1), .int .i64 (E 2), .int .i64 (E 3)] 27) (.cells #[.int .i64 0, .int .i64 0, .int .i64 0, .int .i64 0] 27) (.cells #[.int .u8 0, .int .u8 0, .int .u8 0, .int .u8 0] 52) G hG
  replace q1 : Hid (BlkT 27 W0 G (vec E)) := Lib.hid q1
  replace q2 : Hid (BlkT 27 W0 (G + 1) (vec (partI F 0))) := Lib.hid q2
  replace q3 : Hid (BlkT 52 W0 (G + 1 + 1) (cvec (partN C 0))) := Lib.hid q3
  replace q4 := Lib.hid q4
  replace hF := Lib.hid hF
  replace hW0 := Lib.hid hW0
  replace hG := Lib.hid hG
  clear hFF hCC hI hE hx hy
  go_enter Try.func27, Try.ntmps27
  go_wp2
  rw [hW0.out, hG.out]
  go_loopw [7] (fun sv wr => ∃ s : Nat, s ≤ 4 ∧ sv = .int .i64 (s : Int) ∧ Hid (BlkT 27 wr G (vec E)) ∧ Hid (BlkT 27 wr (G + 1) (vec (partI F s))) ∧ Hid (BlkT 52 wr (G + 1 + 1) (cvec (partN C s))) ∧ Hid (G + 1 + 1 < wr.heap.size) ∧ Below G w wr) (fun sv _ => 4 - (intOf sv).toNat)
  case atStart => exact ⟨0, by decide, rfl, q1, q2, q3, q4, q5⟩
  case round =>
    clear q1 q2 q3 q4 q5 hW0
    obtain ⟨s, hs4, rfl, hg1, hg2, hg3, hsz, hb⟩ := hrel
    by_cases hs : s < 4
    · have i0 : (0 : Int) ≤ (s : Int) := by omega
      have i1 : (s : Int) < 4 := by omega
      have dl : decide ((s : Int) < 4) = true := decide_eq_true i1
      have dl' : decide (s < 4) = true := decide_eq_true hs
      obtain ⟨a, b, hFs, hCs, c0, c1⟩ := hF.out s hs
      have cl := fun W => lesser_own a b W
      rw [← hFs, ← hCs] at cl
      have keep0 : Kp w G E wr := ⟨hg1.out, ⟨_, hg2.out⟩, ⟨_, hg3.out⟩, hsz.out, hb⟩
      have keepD : ∀ W, Kp w G E W → Kp w G E (World.drew W) := fun W h => h.drew
      have keepC : ∀ W W', Kp w G E W → Below W.heap.size W W' → Kp w G E W' := fun W W' h k => h.call k
      have keep1 : ∀ W, Kp w G E W → Kp w G E (W.setCell ⟨G + 1, s, none⟩ (.int .i64 (F s))) := fun W h => h.set1 s hs _
      have keep2 : ∀ W, Kp w G E W → Kp w G E (W.setCell ⟨G + 1 + 1, s, none⟩ (.int .u8 (C s : Int))) := fun W h => h.set2 s hs _
      have e0 : ∀ W, Kp w G E W → W.cell? ⟨G, 0, none⟩ = some (.int .i64 (E 0)) := fun W h => h.row.cell 0
      have e1 : ∀ W, Kp w G E W → W.cell? ⟨G, 1, none⟩ = some (.int .i64 (E 1)) := fun W h => h.row.cell 1
      have e2 : ∀ W, Kp w G E W → W.cell? ⟨G, 2, none⟩ = some (.int .i64 (E 2)) := fun W h => h.row.cell 2
      have e3 : ∀ W, Kp w G E W → W.cell? ⟨G, 3, none⟩ = some (.int .i64 (E 3)) := fun W h => h.row.cell 3
      have k1 : ∀ W, Kp w G E W → W.cell? ⟨G + 1, s, none⟩ = some (cellOr W (G + 1) s) := fun W h => by obtain ⟨f, hf⟩ := h.one; exact (hf.has s hs).1
      have k2 : ∀ W, Kp w G E W → W.frozen? ⟨G + 1, s, none⟩ = false := fun W h => by obtain ⟨f, hf⟩ := h.one; exact (hf.has s hs).2
      have k3 : ∀ W, Kp w G E W → W.cell? ⟨G + 1 + 1, s, none⟩ = some (cellOr W (G + 1 + 1) s) := fun W h => by obtain ⟨f, hf⟩ := h.two; exact (hf.has s hs).1
      have k4 : ∀ W, Kp w G E W → W.frozen? ⟨G + 1 + 1, s, none⟩ = false := fun W h => by obtain ⟨f, hf⟩ := h.two; exact (hf.has s hs).2
      replace cl := Lib.hid cl
      replace c0 := Lib.hid c0
      replace c1 := Lib.hid c1
      replace hFs := Lib.hid hFs
      replace hCs := Lib.hid hCs
      go_wp2_with fail
      go_region_held3 (fun W => Kp w G E W) (first | exact keep0 | exact keepD _ (by assumption) | exact keepC _ _ (by assumption) (by assumption) | exact keep1 _ (by assumption) | exact keep2 _ (by assumption) | assumption) (first | (go_at_call 41; (with_reducible refine (c0.out _).mono ?_); rintro e w5 ⟨rfl, hb5⟩) | (go_at_call 41; (with_reducible refine (c1.out _).mono ?_); rintro e w6 ⟨rfl, hb6⟩) | (go_at_call 40; (with_reducible refine (cl.out _).mono ?_); rintro e w7 ⟨rfl, rfl⟩))
      have hbw : Below wr.heap.size wr w6 := chain (chain (chainN (Below.refl _ wr) 1) hb5) hb6
      have g1 := hg1.out.below hbw (by have := hsz.out; omega)
      have g2 := hg2.out.below hbw (by have := hsz.out; omega)
      have g3 := hg3.out.below hbw hsz.out
      have r1 : Hid (BlkT 27 ((w6.setCell ⟨G + 1, s, none⟩ (.int .i64 (F s))).setCell ⟨G + 1 + 1, s, none⟩ (.int .u8 (C s : Int))) G (vec E)) := Lib.hid ((g1.far (by omega) s _).far (by omega) s _)
      have r2 : Hid (BlkT 27 ((w6.setCell ⟨G + 1, s, none⟩ (.int .i64 (F s))).setCell ⟨G + 1 + 1, s, none⟩ (.int .u8 (C s : Int))) (G + 1) (vec (partI F (s + 1)))) := Lib.hid (by
        rw [← partI_step, ← vec_set _ s hs]
        exact (g2.set s _ hs).far (by omega) s _)
      have r3 : Hid (BlkT 52 ((w6.setCell ⟨G + 1, s, none⟩ (.int .i64 (F s))).setCell ⟨G + 1 + 1, s, none⟩ (.int .u8 (C s : Int))) (G + 1 + 1) (cvec (partN C (s + 1)))) := Lib.hid (by
        rw [← partN_step, ← cvec_set _ s hs]
        exact (g3.far (by omega) s _).set s _ hs)
      have r4 : Hid (G + 1 + 1 < ((w6.setCell ⟨G + 1, s, none⟩ (.int .i64 (F s))).setCell ⟨G + 1 + 1, s, none⟩ (.int .u8 (C s : Int))).heap.size) := Lib.hid (by
        have := hsz.out
        have := hbw.size
        simp
        omega)
      have r5 : Below G w ((w6.setCell ⟨G + 1, s, none⟩ (.int .i64 (F s))).setCell ⟨G + 1 + 1, s, none⟩ (.int .u8 (C s : Int))) :=
        ((hb.trans (hbw.mono (by have := hsz.out; omega))).setCell (p := ⟨G + 1, s, none⟩) (Nat.le_succ G) _).setCell (p := ⟨G + 1 + 1, s, none⟩) (by show G ≤ G + 1 + 1; omega) _
      clear keep0 keepD keepC keep1 keep2 e0 e1 e2 e3 k1 k2 k3 k4 g1 g2 g3 hbw hb5 hb6 cl c0 c1
      go_wp2
      go_roundw
      case rel => exact ⟨s + 1, by omega, by go_num, r1, r2, r3, r4, r5⟩
      case measure => simp [intOf]; omega
    · obtain rfl : s = 4 := by omega
      have e4 : vec (partI F 4) = vec F := rfl
      have e5 : cvec (partN C 4) = cvec C := rfl
      rw [e4] at hg2
      rw [e5] at hg3
      have dl : decide (((4 : Nat) : Int) < 4) = false := by decide
      have hq : Kq w G F C wr := ⟨hg2.out, hg3.out, hb⟩
      have e0 : wr.cell? ⟨G + 1, 0, none⟩ = some (.int .i64 (F 0)) := hq.one.cell 0
      have e1 : wr.cell? ⟨G + 1, 1, none⟩ = some (.int .i64 (F 1)) := hq.one.cell 1
      have e2 : wr.cell? ⟨G + 1, 2, none⟩ = some (.int .i64 (F 2)) := hq.one.cell 2
      have e3 : wr.cell? ⟨G + 1, 3, none⟩ = some (.int .i64 (F 3)) := hq.one.cell 3
      have k0 : wr.cell? ⟨G + 1 + 1, 0, none⟩ = some (.int .u8 (C 0 : Int)) := hq.two.cell 0
      have k1 : wr.cell? ⟨G + 1 + 1, 1, none⟩ = some (.int .u8 (C 1 : Int)) := hq.two.cell 1
      have k2 : wr.cell? ⟨G + 1 + 1, 2, none⟩ = some (.int .u8 (C 2 : Int)) := hq.two.cell 2
      have k3 : wr.cell? ⟨G + 1 + 1, 3, none⟩ = some (.int .u8 (C 3 : Int)) := hq.two.cell 3
      have f1 := hq.one.frz
      have f2 := hq.two.frz
      clear hg1 hg2 hg3 hb hF e4 e5
      go_wp2_with fail
      go_region
      have hq2 := hq.set1.set2.drew
      have z1 : (Try.prog.info? 27).map (·.size) = some (vec F).toArray.size := by kernel_rfl
      have z2 : (Try.prog.info? 52).map (·.size) = some (cvec C).toArray.size := by kernel_rfl
      replace hq2 := Lib.hid hq2
      clear e0 e1 e2 e3 k0 k1 k2 k3 f1 f2 hq
      go_wp2
      have hbf := hq2.out.below
      exact bodyPost_ret (results_two_rows rfl _ _ (G + 1) (G + 1 + 1) 27 52 (vec F).toArray (cvec C).toArray (0, 0) (0, 0) _ _ rfl rfl hq2.out.one hq2.out.two Try.underlying27 rfl z1 Try.underlying52 rfl z2) rfl ⟨rfl, by rw [hG.out]; exact hbf⟩
end Go.Proofs.Ytmkmikegddafdaa.V10
