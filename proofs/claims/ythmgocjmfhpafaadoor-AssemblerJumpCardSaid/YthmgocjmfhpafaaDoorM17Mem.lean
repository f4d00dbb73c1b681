/- The landed machine's state in memory. No walk here. -/
import Derived.Test.YthmgocjmfhpafaaDoorM17Own1
import Derived.Maps.AppendAt
import Derived.RangeFuncBox
namespace Go.Proofs.YthmgocjmfhpafaaDoor.M17
set_option maxRecDepth 100000
open Go.RowKit Mem
set_option linter.unusedVariables false
set_option linter.unusedSimpArgs false

/-- A block whose cells are these. -/
def Blk (T : TypeId) (W : World) (g : Nat) (l : List Value) : Prop := W.heap[g]? = some (.cells l.toArray T (0, 0))
theorem Blk.lt {T : TypeId} {W : World} {g : Nat} {l : List Value} (h : Blk T W g l) : g < W.heap.size := (Array.getElem?_eq_some_iff.1 h).1
theorem Blk.cell {T : TypeId} {W : World} {g : Nat} {l : List Value} (h : Blk T W g l) (j : Nat) : W.cell? ⟨g, j, none⟩ = l[j]? := by
  unfold Blk at h
  simp [World.cell?, h]
theorem Blk.frz {T : TypeId} {W : World} {g : Nat} {l : List Value} (h : Blk T W g l) (j : Nat) : W.frozen? ⟨g, j, none⟩ = false := by
  unfold Blk at h
  simp [World.frozen?, h]
theorem Blk.set {T : TypeId} {W : World} {g : Nat} {l : List Value} (h : Blk T W g l) (j : Nat) (v : Value) : Blk T (W.setCell ⟨g, j, none⟩ v) g (l.set j v) := by
  unfold Blk at *
  simp [World.setCell, Array.getElem?_modify, h]
theorem Blk.new (W : World) (T : TypeId) (l : List Value) : Blk T (W.alloc (.cells l.toArray T)) W.heap.size l := World.alloc_heap_new W _
theorem Blk.not_row {W : World} {B : Nat} {t e : TypeId} {l : List Value} (h : Blk t W B l) (hte : t ≠ e) {base size k : Nat} {v : Value} {xs : List Value} (hr : W.ownsRow base e size v k xs) : v.ownBlock ≠ some B := by
  rcases hr.2 with ⟨rfl, _⟩ | ⟨g, cap, cur, rfl, _, hgb, _⟩
  · simp [Value.ownBlock]
  · intro e'
    obtain rfl : g = B := by simpa [Value.ownBlock] using e'
    have := (show W.heap[g]? = _ from h).symm.trans hgb
    injection this with this
    injection this with _ h2 _
    exact hte h2
theorem grown_set (w : World) (b i : Nat) (v : Value) : w.grownBy (w.setCell ⟨b, i, none⟩ v) (some b) :=
  ⟨rfl, rfl, rfl, by simp, fun k _ hk => Below.heap_setCell _ _ _ _ (fun e => hk (by rw [e]))⟩
theorem grown_then {a b c : World} {row : Option Nat} (h : a.grownBy b none) (k : b.grownBy c row) : a.grownBy c row :=
  ⟨k.os.trans h.os, k.tape.trans h.tape, k.output.trans h.output, Nat.le_trans h.size k.size, fun i hi hr => (k.block i (Nat.lt_of_lt_of_le hi h.size) hr).trans (h.block i hi (by simp))⟩
theorem grown_drewN (w : World) (n : Nat) : w.grownBy (w.drewN n) none := ⟨rfl, rfl, rfl, Nat.le_refl _, fun _ _ _ => rfl⟩
/-- Words as values. -/
def us (l : List Nat) : List Value := l.map fun (x : Nat) => .int .u32 (x : Int)
theorem us_len (l : List Nat) : (us l).length = l.length := by simp [us]
theorem us_snoc (l : List Nat) (b : Nat) : us (l ++ [b]) = us l ++ [.int .u32 (b : Int)] := by simp [us]
theorem us_get (l : List Nat) (j : Nat) (h : j < l.length) : (us l)[j]? = some (.int .u32 (l[j] : Int)) := by
  simp [us, List.getElem?_eq_getElem h]
theorem us_one (l : List Nat) : ∀ u ∈ us l, u.oneCell' = true := by
  intro u hu
  obtain ⟨b, _, rfl⟩ := List.mem_map.1 hu
  rfl
/-- The memory of 262144 words at M. -/
def MemAt (W : World) (M : Nat) (m : Nat → Nat) : Prop := ∃ cs : Array Value, W.heap[M]? = some (.cells cs 47 (0, 0)) ∧ cs.size = 262144 ∧ ∀ i, i < 262144 → cs[i]? = some (.int .u32 (m i : Int))
theorem MemAt.lt {W : World} {M : Nat} {m : Nat → Nat} (h : MemAt W M m) : M < W.heap.size := by
  obtain ⟨cs, h, _⟩ := h
  exact (Array.getElem?_eq_some_iff.1 h).1
theorem MemAt.cell {W : World} {M : Nat} {m : Nat → Nat} (h : MemAt W M m) (i : Nat) (hi : i < 262144) : W.cell? ⟨M, i, none⟩ = some (.int .u32 (m i : Int)) := by
  obtain ⟨cs, h, _, h2⟩ := h
  simp only [World.cell?, h]
  exact h2 i hi
theorem MemAt.frz {W : World} {M : Nat} {m : Nat → Nat} (h : MemAt W M m) (i : Nat) : W.frozen? ⟨M, i, none⟩ = false := by
  obtain ⟨cs, h, _, _⟩ := h
  simp [World.frozen?, h]
theorem MemAt.kept {W W' : World} {M : Nat} {m : Nat → Nat} (h : MemAt W M m) (e : W'.heap[M]? = W.heap[M]?) : MemAt W' M m := by
  obtain ⟨cs, h, h1, h2⟩ := h
  exact ⟨cs, e.trans h, h1, h2⟩
theorem MemAt.set {W : World} {M : Nat} {m : Nat → Nat} (h : MemAt W M m) (a v : Nat) : MemAt (W.setCell ⟨M, a, none⟩ (.int .u32 (v : Int))) M (upd m a v) := by
  obtain ⟨cs, h, h1, h2⟩ := h
  refine ⟨cs.setIfInBounds a (.int .u32 (v : Int)), ?_, by rw [Array.size_setIfInBounds]; exact h1, fun i hi => ?_⟩
  · simp [World.setCell, Array.getElem?_modify, h]
  · rw [Array.getElem?_setIfInBounds]
    unfold upd
    by_cases e : a = i
    · subst e
      rw [if_pos rfl, if_pos (by omega), if_pos rfl]
    · rw [if_neg e, if_neg (fun h => e h.symm)]
      exact h2 i hi
def memV (M : Nat) : Value := .slice (some ⟨M, 0, none⟩) 262144 262144
def fnV (f P : Nat) : Value := .func (.func f) #[] #[.pointer (some ⟨P, 0, none⟩)]
/-- The effects of the instructions with two operands. -/
def eff (P : Nat) : Array MapEntry := #[⟨.int .u32 43, fnV 107 P, 0⟩, ⟨.int .u32 45, fnV 109 P, 1⟩, ⟨.int .u32 42, fnV 110 P, 2⟩,
  ⟨.int .u32 47, fnV 111 P, 3⟩, ⟨.int .u32 37, fnV 113 P, 4⟩, ⟨.int .u32 94, fnV 114 P, 5⟩,
  ⟨.int .u32 60, fnV 115 P, 6⟩, ⟨.int .u32 33, fnV 117 P, 7⟩, ⟨.int .u32 63, fnV 119 P, 8⟩]
def rowV (M E : Nat) (D C O : Value) (IA : Option Addr) (ic : Nat) (s : St) (k : Nat) : List Value :=
  [memV M, D, .int .i64 256, C, .int .i64 64, .int .u32 (s.pc : Int), .bool s.dig, .map (some E), .slice IA s.inp.length ic, O, .int .i64 (k : Int)]
/-- Nothing below base has changed, and no error's number that lay there. -/
structure Bel (base : Nat) (w0 w : World) : Prop where
  bel : Below base w0 w
  err : ∀ (i : Nat) cs fz, w0.heap[i]? = some (.cells cs 24 fz) → w.heap[i]? = w0.heap[i]?
theorem Bel.refl (base : Nat) (w : World) : Bel base w w := ⟨Below.refl _ _, fun _ _ _ _ => rfl⟩
theorem Bel.trans {base : Nat} {a b c : World} (h : Bel base a b) (k : Bel base b c) : Bel base a c := ⟨h.bel.trans k.bel, fun i cs fz e => (k.err i cs fz ((h.err i cs fz e).trans e)).trans (h.err i cs fz e)⟩
/-- A row's block holds no error's number. -/
theorem err_not_row {w : World} {i e : Nat} {cs : Array Value} {fz : Nat × Nat} (h : w.heap[i]? = some (.cells cs 24 fz)) (he : 24 ≠ e) {base size k : Nat} {v : Value} {xs : List Value} (hr : w.ownsRow base e size v k xs) : some i ≠ v.ownBlock := by
  rcases hr.2 with ⟨rfl, _⟩ | ⟨q, cap, cur, rfl, _, hgb, _⟩
  · simp [Value.ownBlock]
  · intro e'
    obtain rfl : i = q := by simpa [Value.ownBlock] using e'
    have := h.symm.trans hgb
    injection this with this
    injection this with _ h2 _
    exact he h2
theorem Bel.grown {base : Nat} {w0 w w' : World} {row : Option Nat} (h : Bel base w0 w) (g : w.grownBy w' row) (hb : base ≤ w.heap.size) (hr : ∀ k, row = some k → base ≤ k) (hn : ∀ (i : Nat) cs fz, w.heap[i]? = some (.cells cs 24 fz) → some i ≠ row) : Bel base w0 w' :=
  ⟨h.bel.grown g hb hr, fun i cs fz e => by
    have e1 := (h.err i cs fz e).trans e
    exact (g.block i (Array.getElem?_eq_some_iff.1 e1).1 (hn i cs fz e1)).trans (h.err i cs fz e)⟩
theorem blk_not_err {w : World} {B T : Nat} {l : List Value} (h : Blk T w B l) (hT : T ≠ 24) (i : Nat) (cs : Array Value) (fz : Nat × Nat) (e : w.heap[i]? = some (.cells cs 24 fz)) : i ≠ B := by
  rintro rfl
  have := (show w.heap[i]? = _ from h).symm.trans e
  injection this with this
  injection this with _ h2 _
  exact hT h2
theorem mem_not_err {w : World} {M : Nat} {m : Nat → Nat} (h : MemAt w M m) (i : Nat) (cs : Array Value) (fz : Nat × Nat) (e : w.heap[i]? = some (.cells cs 24 fz)) : i ≠ M := by
  obtain ⟨ms, hm, _⟩ := h
  rintro rfl
  have := hm.symm.trans e
  injection this with this
  injection this with _ h2 _
  exact absurd h2 (by decide)
theorem Bel.setCell {base : Nat} {w0 w : World} (h : Bel base w0 w) {B : Nat} (hB : base ≤ B) (hn : ∀ (i : Nat) cs fz, w.heap[i]? = some (.cells cs 24 fz) → i ≠ B) (j : Nat) (v : Value) : Bel base w0 (w.setCell ⟨B, j, none⟩ v) :=
  ⟨h.bel.setCell (p := ⟨B, j, none⟩) hB v, fun i cs fz e => (Below.heap_setCell _ _ _ _ (hn i cs fz ((h.err i cs fz e).trans e))).trans (h.err i cs fz e)⟩
/-- The machine s at B, whose own cells are vs; since w0 nothing below base has changed. -/
structure At (w0 : World) (base : Nat) (w : World) (B : Nat) (s : St) (M E P : Nat) (D C O : Value) (IA : Option Addr) (ic : Nat) (vs : List Value) : Prop where
  bel : Bel base w0 w
  blk : Blk 92 w B vs
  mem : MemAt w M s.mem
  ds : w.ownsRow base 47 1 D s.ds.length (us s.ds.reverse)
  cs : w.ownsRow base 47 1 C s.cs.length (us s.cs.reverse)
  out : w.ownsRow base 5 1 O s.out.length (bys s.out)
  map : w.heap[E]? = some (.map (eff P) 9)
  ptr : Blk 85 w P [.pointer (some ⟨B, 0, none⟩)]
  inp : Rd w IA (us s.inp)
  low : ∀ a, IA = some a → us s.inp ≠ [] → a.block < base
  ile : s.inp.length ≤ ic
  icm : ic ≤ maxLen
  inil : IA = none → ic = 0
  bB : base ≤ B
  bM : base ≤ M
  bw : base ≤ w.heap.size
  dm : D.ownBlock ≠ some M
  cm : C.ownBlock ≠ some M
  dc : D.ownBlock = none ∨ D.ownBlock ≠ C.ownBlock
  ok : Ok s
/-- The machine s lies at B, after k steps. -/
def On (w0 : World) (base : Nat) (w : World) (B : Nat) (s : St) (k : Nat) : Prop := ∃ M E P D C O IA ic, At w0 base w B s M E P D C O IA ic (rowV M E D C O IA ic s k)

section
variable {w0 w w' : World} {base B k M E P ic : Nat} {s : St} {D C O : Value} {IA : Option Addr} {vs : List Value}
theorem At.on (h : At w0 base w B s M E P D C O IA ic (rowV M E D C O IA ic s k)) : On w0 base w B s k := ⟨M, E, P, D, C, O, IA, ic, h⟩
theorem map_not_row {E : Nat} {es : Array MapEntry} {c : Nat} (h : w.heap[E]? = some (.map es c)) {base size k e : Nat} {v : Value} {xs : List Value} (hr : w.ownsRow base e size v k xs) : v.ownBlock ≠ some E := by
  rcases hr.2 with ⟨rfl, _⟩ | ⟨g, cap, cur, rfl, _, hgb, _⟩
  · simp [Value.ownBlock]
  · intro e'
    obtain rfl : g = E := by simpa [Value.ownBlock] using e'
    have := h.symm.trans hgb
    injection this with this
    cases this
theorem mem_not_row {M : Nat} {m : Nat → Nat} (h : MemAt w M m) {base size k e : Nat} (he : 47 ≠ e) {v : Value} {xs : List Value} (hr : w.ownsRow base e size v k xs) : v.ownBlock ≠ some M := by
  obtain ⟨cs, hm, _⟩ := h
  intro e'
  rcases hr.2 with ⟨rfl, _⟩ | ⟨q, cap, cur, rfl, _, hgb, _⟩
  · cases e'
  · obtain rfl : q = M := by simpa [Value.ownBlock] using e'
    have := hm.symm.trans hgb
    injection this with this
    injection this with _ h2 _
    exact he h2
/-- No block is two things. -/
structure Parted (B M E P : Nat) (D C O : Value) : Prop where
  bm : B ≠ M
  be : B ≠ E
  bp : B ≠ P
  em : E ≠ M
  pm : P ≠ M
  db : D.ownBlock ≠ some B
  cb : C.ownBlock ≠ some B
  ob : O.ownBlock ≠ some B
  de : D.ownBlock ≠ some E
  ce : C.ownBlock ≠ some E
  oe : O.ownBlock ≠ some E
  dp : D.ownBlock ≠ some P
  cp : C.ownBlock ≠ some P
  op : O.ownBlock ≠ some P
  om : O.ownBlock ≠ some M
  d_o : D.ownBlock = none ∨ D.ownBlock ≠ O.ownBlock
  co : C.ownBlock = none ∨ C.ownBlock ≠ O.ownBlock
  od : O.ownBlock = none ∨ O.ownBlock ≠ D.ownBlock
  oc : O.ownBlock = none ∨ O.ownBlock ≠ C.ownBlock
theorem At.parted (h : At w0 base w B s M E P D C O IA ic vs) : Parted B M E P D C O := by
  obtain ⟨cs, hm, _⟩ := h.mem
  refine ⟨?_, ?_, ?_, ?_, ?_, h.blk.not_row (by decide) h.ds, h.blk.not_row (by decide) h.cs, h.blk.not_row (by decide) h.out, map_not_row h.map h.ds, map_not_row h.map h.cs, map_not_row h.map h.out,
    h.ptr.not_row (by decide) h.ds, h.ptr.not_row (by decide) h.cs, h.ptr.not_row (by decide) h.out, mem_not_row h.mem (by decide) h.out, own_apart h.ds h.out (by decide), own_apart h.cs h.out (by decide), own_apart h.out h.ds (by decide), own_apart h.out h.cs (by decide)⟩
  · rintro rfl
    have := (show w.heap[B]? = _ from h.blk).symm.trans hm
    injection this with this
    injection this with _ h2 _
    exact absurd h2 (by decide)
  · rintro rfl
    have := (show w.heap[B]? = _ from h.blk).symm.trans h.map
    injection this with this
    cases this
  · rintro rfl
    have := (show w.heap[B]? = _ from h.blk).symm.trans h.ptr
    injection this with this
    injection this with _ h2 _
    exact absurd h2 (by decide)
  · rintro rfl
    have := h.map.symm.trans hm
    injection this with this
    cases this
  · rintro rfl
    have := (show w.heap[P]? = _ from h.ptr).symm.trans hm
    injection this with this
    injection this with _ h2 _
    exact absurd h2 (by decide)
theorem At.lts (h : At w0 base w B s M E P D C O IA ic vs) : B < w.heap.size ∧ M < w.heap.size ∧ E < w.heap.size ∧ P < w.heap.size := ⟨h.blk.lt, h.mem.lt, (Array.getElem?_eq_some_iff.1 h.map).1, h.ptr.lt⟩
theorem rd_grown {IA : Option Addr} {xs : List Value} (h : Rd w IA xs) (hl : ∀ a, IA = some a → xs ≠ [] → a.block < base) {row : Option Nat} (g : w.grownBy w' row) (hrb : ∀ j, row = some j → base ≤ j) : Rd w' IA xs := fun j hj => by
  obtain ⟨b, o, e, h1, h2⟩ := h j hj
  have hlow := hl _ e (fun e0 => by rw [e0] at hj; cases hj)
  have hne : some b ≠ row := fun e' => Nat.lt_irrefl _ (Nat.lt_of_lt_of_le hlow (hrb b e'.symm))
  exact ⟨b, o, e, Nat.lt_of_lt_of_le h1 g.size, g.cell h2 hne⟩
/-- Another world in which the machine lies as it lay. -/
theorem At.more (h : At w0 base w B s M E P D C O IA ic vs) (g : w.grownBy w' none) : At w0 base w' B s M E P D C O IA ic vs := by
  obtain ⟨l1, l2, l3, l4⟩ := h.lts
  have n : ∀ v : Value, v.ownBlock = none ∨ v.ownBlock ≠ none := fun v => by rcases h : v.ownBlock with _ | _ <;> simp
  exact ⟨h.bel.grown g h.bw (fun j e => by cases e) (fun _ _ _ _ => by simp), (g.block B l1 (by simp)).trans h.blk, h.mem.kept (g.block M l2 (by simp)), h.ds.kept g (n D), h.cs.kept g (n C), h.out.kept g (n O), (g.block E l3 (by simp)).trans h.map, (g.block P l4 (by simp)).trans h.ptr,
    rd_grown (base := base) h.inp h.low g (fun j e => by cases e), h.low, h.ile, h.icm, h.inil, h.bB, h.bM, Nat.le_trans h.bw g.size, h.dm, h.cm, h.dc, h.ok⟩
theorem At.drewN (h : At w0 base w B s M E P D C O IA ic vs) (n : Nat) : At w0 base (w.drewN n) B s M E P D C O IA ic vs := h.more (grown_drewN w n)
theorem At.alloc (h : At w0 base w B s M E P D C O IA ic vs) (o : Obj) : At w0 base (w.alloc o) B s M E P D C O IA ic vs := h.more (World.grownBy_alloc w o none)
/-- A field is written. -/
theorem At.field (h : At w0 base w B s M E P D C O IA ic vs) (i : Nat) (v : Value) : At w0 base (w.setCell ⟨B, i, none⟩ v) B s M E P D C O IA ic (vs.set i v) := by
  obtain ⟨l1, l2, l3, l4⟩ := h.lts
  have p := h.parted
  have g := grown_set w B i v
  exact ⟨h.bel.setCell h.bB (blk_not_err h.blk (by decide)) i v, h.blk.set i v, h.mem.kept (g.block M l2 (by simpa using fun e => p.bm e.symm)), h.ds.kept g (.inr p.db), h.cs.kept g (.inr p.cb), h.out.kept g (.inr p.ob),
    (g.block E l3 (by simpa using fun e => p.be e.symm)).trans h.map, (g.block P l4 (by simpa using fun e => p.bp e.symm)).trans h.ptr, rd_grown (base := base) h.inp h.low g (fun j e => by cases e; exact h.bB),
    h.low, h.ile, h.icm, h.inil, h.bB, h.bM, Nat.le_trans h.bw g.size, h.dm, h.cm, h.dc, h.ok⟩
/-- Another state of which memory, stacks, output and input say the same. -/
theorem At.st (h : At w0 base w B s M E P D C O IA ic vs) {s' : St} (hm : s'.mem = s.mem) (hd : s'.ds = s.ds) (hc : s'.cs = s.cs) (ho : s'.out = s.out) (hi : s'.inp = s.inp) (hok : Ok s') : At w0 base w B s' M E P D C O IA ic vs :=
  ⟨h.bel, h.blk, by rw [hm]; exact h.mem, by rw [hd]; exact h.ds, by rw [hc]; exact h.cs, by rw [ho]; exact h.out, h.map, h.ptr, by rw [hi]; exact h.inp, by rw [hi]; exact h.low, by rw [hi]; exact h.ile, h.icm, h.inil, h.bB, h.bM, h.bw, h.dm, h.cm, h.dc, hok⟩
/-- Another row of the data stack in the same place. -/
theorem At.stD (h : At w0 base w B s M E P D C O IA ic vs) {D' : Value} {l : List Nat} (hr : w.ownsRow base 47 1 D' l.length (us l.reverse)) (hb : D'.ownBlock = D.ownBlock) (h1 : ∀ x ∈ l, x < 4294967296) (h2 : l.length ≤ 256) : At w0 base w B { s with ds := l } M E P D' C O IA ic vs :=
  ⟨h.bel, h.blk, h.mem, hr, h.cs, h.out, h.map, h.ptr, h.inp, h.low, h.ile, h.icm, h.inil, h.bB, h.bM, h.bw, by rw [hb]; exact h.dm, h.cm, by rw [hb]; exact h.dc, ⟨h.ok.mem, h.ok.pc, h1, h.ok.cs, h.ok.inp, h2, h.ok.cl⟩⟩
theorem At.stC (h : At w0 base w B s M E P D C O IA ic vs) {C' : Value} {l : List Nat} (hr : w.ownsRow base 47 1 C' l.length (us l.reverse)) (hb : C'.ownBlock = C.ownBlock) (h1 : ∀ x ∈ l, x < 4294967296) (h2 : l.length ≤ 64) : At w0 base w B { s with cs := l } M E P D C' O IA ic vs :=
  ⟨h.bel, h.blk, h.mem, h.ds, hr, h.out, h.map, h.ptr, h.inp, h.low, h.ile, h.icm, h.inil, h.bB, h.bM, h.bw, h.dm, by rw [hb]; exact h.cm, by rw [hb]; exact h.dc, ⟨h.ok.mem, h.ok.pc, h.ok.ds, h1, h.ok.inp, h.ok.dl, h2⟩⟩
/-- The data stack's row has been appended to. -/
theorem At.swapD (h : At w0 base w B s M E P D C O IA ic vs) {D' : Value} {l : List Nat} (g : w.grownBy w' D.ownBlock) (hr : w'.ownsRow base 47 1 D' l.length (us l.reverse)) (hb : D'.ownBlock = D.ownBlock ∨ D'.ownBlock = some w.heap.size) (h1 : ∀ x ∈ l, x < 4294967296) (h2 : l.length ≤ 256) :
    At w0 base w' B { s with ds := l } M E P D' C O IA ic vs := by
  obtain ⟨l1, l2, l3, l4⟩ := h.lts
  have p := h.parted
  have hrb : ∀ j, D.ownBlock = some j → base ≤ j := fun j e => (h.ds.lt j e).1
  refine ⟨h.bel.grown g h.bw hrb (fun _ _ _ e => err_not_row e (by decide) h.ds), (g.block B l1 (fun e => p.db e.symm)).trans h.blk, h.mem.kept (g.block M l2 (fun e => h.dm e.symm)), hr, h.cs.kept g (h.dc.elim (fun e => ?_) (fun e => .inr fun e' => e e'.symm)), h.out.kept g p.od, (g.block E l3 (fun e => p.de e.symm)).trans h.map, (g.block P l4 (fun e => p.dp e.symm)).trans h.ptr,
    rd_grown (base := base) h.inp h.low g hrb, h.low, h.ile, h.icm, h.inil, h.bB, h.bM, Nat.le_trans h.bw g.size, ?_, h.cm, ?_, ⟨h.ok.mem, h.ok.pc, h1, h.ok.cs, h.ok.inp, h2, h.ok.cl⟩⟩
  · rcases h : C.ownBlock with _ | c
    · exact .inl rfl
    · exact .inr (by rw [e]; simp)
  · rcases hb with hb | hb
    · rw [hb]; exact h.dm
    · rw [hb]; intro e; injection e with e; omega
  · rcases hb with hb | hb
    · rw [hb]; exact h.dc
    · right
      rw [hb]
      intro e
      have := (h.cs.lt _ e.symm).2
      omega
theorem At.swapC (h : At w0 base w B s M E P D C O IA ic vs) {C' : Value} {l : List Nat} (g : w.grownBy w' C.ownBlock) (hr : w'.ownsRow base 47 1 C' l.length (us l.reverse)) (hb : C'.ownBlock = C.ownBlock ∨ C'.ownBlock = some w.heap.size) (h1 : ∀ x ∈ l, x < 4294967296) (h2 : l.length ≤ 64) :
    At w0 base w' B { s with cs := l } M E P D C' O IA ic vs := by
  obtain ⟨l1, l2, l3, l4⟩ := h.lts
  have p := h.parted
  have hrb : ∀ j, C.ownBlock = some j → base ≤ j := fun j e => (h.cs.lt j e).1
  refine ⟨h.bel.grown g h.bw hrb (fun _ _ _ e => err_not_row e (by decide) h.cs), (g.block B l1 (fun e => p.cb e.symm)).trans h.blk, h.mem.kept (g.block M l2 (fun e => h.cm e.symm)), h.ds.kept g h.dc, hr, h.out.kept g p.oc, (g.block E l3 (fun e => p.ce e.symm)).trans h.map, (g.block P l4 (fun e => p.cp e.symm)).trans h.ptr,
    rd_grown (base := base) h.inp h.low g hrb, h.low, h.ile, h.icm, h.inil, h.bB, h.bM, Nat.le_trans h.bw g.size, h.dm, ?_, ?_, ⟨h.ok.mem, h.ok.pc, h.ok.ds, h1, h.ok.inp, h.ok.dl, h2⟩⟩
  · rcases hb with hb | hb
    · rw [hb]; exact h.cm
    · rw [hb]; intro e; injection e with e; omega
  · rcases hb with hb | hb
    · rw [hb]; exact h.dc
    · rcases hD : D.ownBlock with _ | d
      · exact .inl rfl
      · right
        rw [hb]
        intro e
        injection e with e
        have := (h.ds.lt _ hD).2
        omega
theorem At.swapO (h : At w0 base w B s M E P D C O IA ic vs) {O' : Value} {l : List UInt8} (g : w.grownBy w' O.ownBlock) (hr : w'.ownsRow base 5 1 O' l.length (bys l)) : At w0 base w' B { s with out := l } M E P D C O' IA ic vs := by
  obtain ⟨l1, l2, l3, l4⟩ := h.lts
  have p := h.parted
  have hrb : ∀ j, O.ownBlock = some j → base ≤ j := fun j e => (h.out.lt j e).1
  exact ⟨h.bel.grown g h.bw hrb (fun _ _ _ e => err_not_row e (by decide) h.out), (g.block B l1 (fun e => p.ob e.symm)).trans h.blk, h.mem.kept (g.block M l2 (fun e => p.om e.symm)), h.ds.kept g p.d_o, h.cs.kept g p.co, hr, (g.block E l3 (fun e => p.oe e.symm)).trans h.map, (g.block P l4 (fun e => p.op e.symm)).trans h.ptr,
    rd_grown (base := base) h.inp h.low g hrb, h.low, h.ile, h.icm, h.inil, h.bB, h.bM, Nat.le_trans h.bw g.size, h.dm, h.cm, h.dc, ⟨h.ok.mem, h.ok.pc, h.ok.ds, h.ok.cs, h.ok.inp, h.ok.dl, h.ok.cl⟩⟩
/-- A word is written. -/
theorem At.setMem (h : At w0 base w B s M E P D C O IA ic vs) (a : Nat) {v : Nat} (hv : v < 4294967296) : At w0 base (w.setCell ⟨M, a, none⟩ (.int .u32 (v : Int))) B { s with mem := upd s.mem a v } M E P D C O IA ic vs := by
  obtain ⟨l1, l2, l3, l4⟩ := h.lts
  have p := h.parted
  have g := grown_set w M a (.int .u32 (v : Int))
  refine ⟨h.bel.setCell h.bM (mem_not_err h.mem) a _, (g.block B l1 (by simpa using p.bm)).trans h.blk, h.mem.set a v, h.ds.kept g (.inr h.dm), h.cs.kept g (.inr h.cm), h.out.kept g (.inr p.om), (g.block E l3 (by simpa using p.em)).trans h.map, (g.block P l4 (by simpa using p.pm)).trans h.ptr,
    rd_grown (base := base) h.inp h.low g (fun j e => by cases e; exact h.bM), h.low, h.ile, h.icm, h.inil, h.bB, h.bM, Nat.le_trans h.bw g.size, h.dm, h.cm, h.dc, ⟨fun i => ?_, h.ok.pc, h.ok.ds, h.ok.cs, h.ok.inp, h.ok.dl, h.ok.cl⟩⟩
  show upd s.mem a v i < _
  unfold upd
  split
  · exact hv
  · exact h.ok.mem i
/-- Another slice of the input. -/
theorem At.stI (h : At w0 base w B s M E P D C O IA ic vs) {IA' : Option Addr} {ic' : Nat} {l : List Nat} (hi : Rd w IA' (us l)) (hlow : ∀ a, IA' = some a → us l ≠ [] → a.block < base) (h1 : l.length ≤ ic') (h2 : ic' ≤ maxLen) (h3 : IA' = none → ic' = 0) (h4 : ∀ x ∈ l, x < 4294967296) : At w0 base w B { s with inp := l } M E P D C O IA' ic' vs :=
  ⟨h.bel, h.blk, h.mem, h.ds, h.cs, h.out, h.map, h.ptr, hi, hlow, h1, h2, h3, h.bB, h.bM, h.bw, h.dm, h.cm, h.dc, ⟨h.ok.mem, h.ok.pc, h.ok.ds, h.ok.cs, h4, h.ok.dl, h.ok.cl⟩⟩
/-- The same machine, counted from the world at hand. -/
theorem At.root (h : At w0 base w B s M E P D C O IA ic vs) : At w base w B s M E P D C O IA ic vs := ⟨Bel.refl _ _, h.blk, h.mem, h.ds, h.cs, h.out, h.map, h.ptr, h.inp, h.low, h.ile, h.icm, h.inil, h.bB, h.bM, h.bw, h.dm, h.cm, h.dc, h.ok⟩
end
end Go.Proofs.YthmgocjmfhpafaaDoor.M17
