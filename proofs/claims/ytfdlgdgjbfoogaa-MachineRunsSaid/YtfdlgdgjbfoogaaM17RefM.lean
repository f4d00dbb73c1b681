/- The reference machine's state in memory. No walk here. -/
import Derived.Test.YtfdlgdgjbfoogaaM17Own2
import Derived.Laws.OwnMore
namespace Go.Proofs.Ytfdlgdgjbfoogaa.M17
set_option maxRecDepth 100000
open Go.RowKit Mem
set_option linter.unusedVariables false
set_option linter.unusedSimpArgs false

def rowR (M : Nat) (D C O : Value) (IA : Option Addr) (ic : Nat) (s : St) : List Value :=
  [memV M, .int .u32 (s.pc : Int), D, C, .slice IA s.inp.length ic, O, .bool s.dig]
/-- The reference machine s at B, whose own cells are vs; since w0 nothing below base has changed. -/
structure RA (w0 : World) (base : Nat) (w : World) (B : Nat) (s : St) (M : Nat) (D C O : Value) (IA : Option Addr) (ic : Nat) (vs : List Value) : Prop where
  bel : Below base w0 w
  blk : Blk 63 w B vs
  mem : MemAt w M s.mem
  ds : w.ownsRow base 36 1 D s.ds.length (us s.ds.reverse)
  cs : w.ownsRow base 36 1 C s.cs.length (us s.cs.reverse)
  out : w.ownsRow base 5 1 O s.out.length (bys s.out)
  inp : Rd w IA (us s.inp)
  low : ∀ a, IA = some a → us s.inp ≠ [] → a.block < base
  ile : s.inp.length ≤ ic
  icm : ic ≤ maxLen
  inil : IA = none → ic = 0
  bB : base ≤ B
  bM : base ≤ M
  bw : base ≤ w.heap.size
  dm : D.ownBlock ≠ some M
  cm : C.ownBlock ≠ some M
  dc : D.ownBlock = none ∨ D.ownBlock ≠ C.ownBlock
  ok : Ok s
/-- The reference machine s lies at B. -/
def ROn (w0 : World) (base : Nat) (w : World) (B : Nat) (s : St) : Prop := ∃ M D C O IA ic, RA w0 base w B s M D C O IA ic (rowR M D C O IA ic s)
section
variable {w0 w w' : World} {base B M ic : Nat} {s : St} {D C O : Value} {IA : Option Addr} {vs : List Value}
theorem RA.on (h : RA w0 base w B s M D C O IA ic (rowR M D C O IA ic s)) : ROn w0 base w B s := ⟨M, D, C, O, IA, ic, h⟩
structure RParted (B M : Nat) (D C O : Value) : Prop where
  bm : B ≠ M
  db : D.ownBlock ≠ some B
  cb : C.ownBlock ≠ some B
  ob : O.ownBlock ≠ some B
  om : O.ownBlock ≠ some M
  d_o : D.ownBlock = none ∨ D.ownBlock ≠ O.ownBlock
  co : C.ownBlock = none ∨ C.ownBlock ≠ O.ownBlock
  od : O.ownBlock = none ∨ O.ownBlock ≠ D.ownBlock
  oc : O.ownBlock = none ∨ O.ownBlock ≠ C.ownBlock
theorem RA.parted (h : RA w0 base w B s M D C O IA ic vs) : RParted B M D C O := by
  obtain ⟨cs, hm, _⟩ := h.mem
  refine ⟨?_, h.blk.not_row (by decide) h.ds, h.blk.not_row (by decide) h.cs, h.blk.not_row (by decide) h.out, mem_not_row h.mem (by decide) h.out, own_apart h.ds h.out (by decide), own_apart h.cs h.out (by decide), own_apart h.out h.ds (by decide), own_apart h.out h.cs (by decide)⟩
  rintro rfl
  have := (show w.heap[B]? = _ from h.blk).symm.trans hm
  injection this with this
  injection this with _ h2 _
  exact absurd h2 (by decide)
theorem RA.more (h : RA w0 base w B s M D C O IA ic vs) (g : w.grownBy w' none) : RA w0 base w' B s M D C O IA ic vs := by
  have n : ∀ v : Value, v.ownBlock = none ∨ v.ownBlock ≠ none := fun v => by rcases h : v.ownBlock with _ | _ <;> simp
  exact ⟨h.bel.grown g h.bw (fun j e => by cases e), (g.block B h.blk.lt (by simp)).trans h.blk, h.mem.kept (g.block M h.mem.lt (by simp)), h.ds.kept g (n D), h.cs.kept g (n C), h.out.kept g (n O),
    rd_grown (base := base) h.inp h.low g (fun j e => by cases e), h.low, h.ile, h.icm, h.inil, h.bB, h.bM, Nat.le_trans h.bw g.size, h.dm, h.cm, h.dc, h.ok⟩
theorem RA.drewN (h : RA w0 base w B s M D C O IA ic vs) (n : Nat) : RA w0 base (w.drewN n) B s M D C O IA ic vs := h.more (grown_drewN w n)
theorem RA.drew (h : RA w0 base w B s M D C O IA ic vs) : RA w0 base w.drew B s M D C O IA ic vs := h.drewN 1
theorem RA.alloc (h : RA w0 base w B s M D C O IA ic vs) (o : Obj) : RA w0 base (w.alloc o) B s M D C O IA ic vs := h.more (World.grownBy_alloc w o none)
theorem RA.f (h : RA w0 base w B s M D C O IA ic vs) {i : Nat} {v : Value} (hv : vs[i]? = some v) : w.cell? ⟨B, i, none⟩ = some v ∧ w.frozen? ⟨B, i, none⟩ = false := ⟨(h.blk.cell i).trans hv, h.blk.frz i⟩
theorem RA.field (h : RA w0 base w B s M D C O IA ic vs) (i : Nat) (v : Value) : RA w0 base (w.setCell ⟨B, i, none⟩ v) B s M D C O IA ic (vs.set i v) := by
  have p := h.parted
  have g := grown_set w B i v
  exact ⟨h.bel.setCell (p := ⟨B, i, none⟩) h.bB v, h.blk.set i v, h.mem.kept (g.block M h.mem.lt (by simpa using fun e => p.bm e.symm)), h.ds.kept g (.inr p.db), h.cs.kept g (.inr p.cb), h.out.kept g (.inr p.ob),
    rd_grown (base := base) h.inp h.low g (fun j e => by cases e; exact h.bB), h.low, h.ile, h.icm, h.inil, h.bB, h.bM, Nat.le_trans h.bw g.size, h.dm, h.cm, h.dc, h.ok⟩
theorem RA.st (h : RA w0 base w B s M D C O IA ic vs) {s' : St} (hm : s'.mem = s.mem) (hd : s'.ds = s.ds) (hc : s'.cs = s.cs) (ho : s'.out = s.out) (hi : s'.inp = s.inp) (hok : Ok s') : RA w0 base w B s' M D C O IA ic vs :=
  ⟨h.bel, h.blk, by rw [hm]; exact h.mem, by rw [hd]; exact h.ds, by rw [hc]; exact h.cs, by rw [ho]; exact h.out, by rw [hi]; exact h.inp, by rw [hi]; exact h.low, by rw [hi]; exact h.ile, h.icm, h.inil, h.bB, h.bM, h.bw, h.dm, h.cm, h.dc, hok⟩
theorem RA.stD (h : RA w0 base w B s M D C O IA ic vs) {D' : Value} {l : List Nat} (hr : w.ownsRow base 36 1 D' l.length (us l.reverse)) (hb : D'.ownBlock = D.ownBlock) (h1 : ∀ x ∈ l, x < 4294967296) (h2 : l.length ≤ 256) : RA w0 base w B { s with ds := l } M D' C O IA ic vs :=
  ⟨h.bel, h.blk, h.mem, hr, h.cs, h.out, h.inp, h.low, h.ile, h.icm, h.inil, h.bB, h.bM, h.bw, by rw [hb]; exact h.dm, h.cm, by rw [hb]; exact h.dc, ⟨h.ok.mem, h.ok.pc, h1, h.ok.cs, h.ok.inp, h2, h.ok.cl⟩⟩
theorem RA.stC (h : RA w0 base w B s M D C O IA ic vs) {C' : Value} {l : List Nat} (hr : w.ownsRow base 36 1 C' l.length (us l.reverse)) (hb : C'.ownBlock = C.ownBlock) (h1 : ∀ x ∈ l, x < 4294967296) (h2 : l.length ≤ 64) : RA w0 base w B { s with cs := l } M D C' O IA ic vs :=
  ⟨h.bel, h.blk, h.mem, h.ds, hr, h.out, h.inp, h.low, h.ile, h.icm, h.inil, h.bB, h.bM, h.bw, h.dm, by rw [hb]; exact h.cm, by rw [hb]; exact h.dc, ⟨h.ok.mem, h.ok.pc, h.ok.ds, h1, h.ok.inp, h.ok.dl, h2⟩⟩
theorem RA.swapD (h : RA w0 base w B s M D C O IA ic vs) {D' : Value} {l : List Nat} (g : w.grownBy w' D.ownBlock) (hr : w'.ownsRow base 36 1 D' l.length (us l.reverse)) (hb : D'.ownBlock = D.ownBlock ∨ D'.ownBlock = some w.heap.size) (h1 : ∀ x ∈ l, x < 4294967296) (h2 : l.length ≤ 256) :
    RA w0 base w' B { s with ds := l } M D' C O IA ic vs := by
  have p := h.parted
  have hM := h.mem.lt
  have hrb : ∀ j, D.ownBlock = some j → base ≤ j := fun j e => (h.ds.lt j e).1
  refine ⟨h.bel.grown g h.bw hrb, (g.block B h.blk.lt (fun e => p.db e.symm)).trans h.blk, h.mem.kept (g.block M h.mem.lt (fun e => h.dm e.symm)), hr, h.cs.kept g (h.dc.elim (fun e => ?_) (fun e => .inr fun e' => e e'.symm)), h.out.kept g p.od,
    rd_grown (base := base) h.inp h.low g hrb, h.low, h.ile, h.icm, h.inil, h.bB, h.bM, Nat.le_trans h.bw g.size, ?_, h.cm, ?_, ⟨h.ok.mem, h.ok.pc, h1, h.ok.cs, h.ok.inp, h2, h.ok.cl⟩⟩
  · rcases h : C.ownBlock with _ | c
    · exact .inl rfl
    · exact .inr (by rw [e]; simp)
  · rcases hb with hb | hb
    · rw [hb]; exact h.dm
    · rw [hb]; intro e; injection e with e; omega
  · rcases hb with hb | hb
    · rw [hb]; exact h.dc
    · right
      rw [hb]
      intro e
      have := (h.cs.lt _ e.symm).2
      omega
theorem RA.swapC (h : RA w0 base w B s M D C O IA ic vs) {C' : Value} {l : List Nat} (g : w.grownBy w' C.ownBlock) (hr : w'.ownsRow base 36 1 C' l.length (us l.reverse)) (hb : C'.ownBlock = C.ownBlock ∨ C'.ownBlock = some w.heap.size) (h1 : ∀ x ∈ l, x < 4294967296) (h2 : l.length ≤ 64) :
    RA w0 base w' B { s with cs := l } M D C' O IA ic vs := by
  have p := h.parted
  have hM := h.mem.lt
  have hrb : ∀ j, C.ownBlock = some j → base ≤ j := fun j e => (h.cs.lt j e).1
  refine ⟨h.bel.grown g h.bw hrb, (g.block B h.blk.lt (fun e => p.cb e.symm)).trans h.blk, h.mem.kept (g.block M h.mem.lt (fun e => h.cm e.symm)), h.ds.kept g h.dc, hr, h.out.kept g p.oc,
    rd_grown (base := base) h.inp h.low g hrb, h.low, h.ile, h.icm, h.inil, h.bB, h.bM, Nat.le_trans h.bw g.size, h.dm, ?_, ?_, ⟨h.ok.mem, h.ok.pc, h.ok.ds, h1, h.ok.inp, h.ok.dl, h2⟩⟩
  · rcases hb with hb | hb
    · rw [hb]; exact h.cm
    · rw [hb]; intro e; injection e with e; omega
  · rcases hb with hb | hb
    · rw [hb]; exact h.dc
    · rcases hD : D.ownBlock with _ | d
      · exact .inl rfl
      · right
        rw [hb]
        intro e
        injection e with e
        have := (h.ds.lt _ hD).2
        omega
theorem RA.swapO (h : RA w0 base w B s M D C O IA ic vs) {O' : Value} {l : List UInt8} (g : w.grownBy w' O.ownBlock) (hr : w'.ownsRow base 5 1 O' l.length (bys l)) : RA w0 base w' B { s with out := l } M D C O' IA ic vs := by
  have p := h.parted
  have hrb : ∀ j, O.ownBlock = some j → base ≤ j := fun j e => (h.out.lt j e).1
  exact ⟨h.bel.grown g h.bw hrb, (g.block B h.blk.lt (fun e => p.ob e.symm)).trans h.blk, h.mem.kept (g.block M h.mem.lt (fun e => p.om e.symm)), h.ds.kept g p.d_o, h.cs.kept g p.co, hr,
    rd_grown (base := base) h.inp h.low g hrb, h.low, h.ile, h.icm, h.inil, h.bB, h.bM, Nat.le_trans h.bw g.size, h.dm, h.cm, h.dc, ⟨h.ok.mem, h.ok.pc, h.ok.ds, h.ok.cs, h.ok.inp, h.ok.dl, h.ok.cl⟩⟩
theorem RA.setMem (h : RA w0 base w B s M D C O IA ic vs) (a : Nat) {v : Nat} (hv : v < 4294967296) : RA w0 base (w.setCell ⟨M, a, none⟩ (.int .u32 (v : Int))) B { s with mem := upd s.mem a v } M D C O IA ic vs := by
  have p := h.parted
  have g := grown_set w M a (.int .u32 (v : Int))
  refine ⟨h.bel.setCell (p := ⟨M, a, none⟩) h.bM _, (g.block B h.blk.lt (by simpa using p.bm)).trans h.blk, h.mem.set a v, h.ds.kept g (.inr h.dm), h.cs.kept g (.inr h.cm), h.out.kept g (.inr p.om),
    rd_grown (base := base) h.inp h.low g (fun j e => by cases e; exact h.bM), h.low, h.ile, h.icm, h.inil, h.bB, h.bM, Nat.le_trans h.bw g.size, h.dm, h.cm, h.dc, ⟨fun i => ?_, h.ok.pc, h.ok.ds, h.ok.cs, h.ok.inp, h.ok.dl, h.ok.cl⟩⟩
  show upd s.mem a v i < _
  unfold upd
  split
  · exact hv
  · exact h.ok.mem i
theorem RA.stI (h : RA w0 base w B s M D C O IA ic vs) {IA' : Option Addr} {ic' : Nat} {l : List Nat} (hi : Rd w IA' (us l)) (hlow : ∀ a, IA' = some a → us l ≠ [] → a.block < base) (h1 : l.length ≤ ic') (h2 : ic' ≤ maxLen) (h3 : IA' = none → ic' = 0) (h4 : ∀ x ∈ l, x < 4294967296) : RA w0 base w B { s with inp := l } M D C O IA' ic' vs :=
  ⟨h.bel, h.blk, h.mem, h.ds, h.cs, h.out, hi, hlow, h1, h2, h3, h.bB, h.bM, h.bw, h.dm, h.cm, h.dc, ⟨h.ok.mem, h.ok.pc, h.ok.ds, h.ok.cs, h4, h.ok.dl, h.ok.cl⟩⟩
/-- The data stack with at least one value. -/
theorem RA.top (h : RA w0 base w B s M D C O IA ic vs) {x : Nat} {r : List Nat} (hs : s.ds = x :: r) : ∃ g cap, D = .slice (some ⟨g, 0, none⟩) (r.length + 1) cap ∧ r.length + 1 ≤ cap ∧ cap ≤ maxLen ∧
    w.cell? ⟨g, r.length, none⟩ = some (.int .u32 (x : Int)) ∧ w.frozen? ⟨g, r.length, none⟩ = false ∧ RA w0 base w B { s with ds := r } M (.slice (some ⟨g, 0, none⟩) r.length cap) C O IA ic vs ∧
    ∀ v : Nat, v < 4294967296 → RA w0 base (w.setCell ⟨g, r.length, none⟩ (.int .u32 (v : Int))) B { s with ds := v :: r } M (.slice (some ⟨g, 0, none⟩) (r.length + 1) cap) C O IA ic vs := by
  have hd := h.ds
  rw [hs] at hd
  obtain ⟨g, cap, rfl, h1, h2, hx, hrow⟩ := row_top hd
  have hin := h.ok.ds
  have hdl := h.ok.dl
  rw [hs] at hin hdl
  simp only [List.length_cons] at hdl hd
  refine ⟨g, cap, rfl, h1, h2, hx, hd.frozenAt _, h.stD hrow rfl (fun y hy => hin y (List.mem_cons_of_mem _ hy)) (by omega), fun v hv => ?_⟩
  obtain ⟨q1, q2⟩ := hd.stored r.length (.int .u32 (v : Int))
  refine h.swapD q2 (l := v :: r) ?_ (.inl rfl) (fun y hy => ?_) (by simp only [List.length_cons]; omega)
  · have e : (us (x :: r).reverse).set r.length (.int .u32 (v : Int)) = us (v :: r).reverse := by
      rw [List.reverse_cons, List.reverse_cons, us_snoc, us_snoc, List.set_append, us_len, List.length_reverse, if_neg (by omega), Nat.sub_self]
      rfl
    rw [e] at q1
    exact q1
  · rcases List.mem_cons.1 hy with rfl | hy
    · exact hv
    · exact hin y (List.mem_cons_of_mem _ hy)
/-- The return stack with at least one value. -/
theorem RA.topC (h : RA w0 base w B s M D C O IA ic vs) {x : Nat} {r : List Nat} (hs : s.cs = x :: r) : ∃ g cap, C = .slice (some ⟨g, 0, none⟩) (r.length + 1) cap ∧ r.length + 1 ≤ cap ∧ cap ≤ maxLen ∧
    w.cell? ⟨g, r.length, none⟩ = some (.int .u32 (x : Int)) ∧ RA w0 base w B { s with cs := r } M D (.slice (some ⟨g, 0, none⟩) r.length cap) O IA ic vs := by
  have hd := h.cs
  rw [hs] at hd
  obtain ⟨g, cap, rfl, h1, h2, hx, hrow⟩ := row_top hd
  have hin := h.ok.cs
  have hdl := h.ok.cl
  rw [hs] at hin hdl
  simp only [List.length_cons] at hdl hd
  exact ⟨g, cap, rfl, h1, h2, hx, h.stC hrow rfl (fun y hy => hin y (List.mem_cons_of_mem _ hy)) (by omega)⟩
theorem RA.root (h : RA w0 base w B s M D C O IA ic vs) : RA w base w B s M D C O IA ic vs := ⟨Below.refl _ _, h.blk, h.mem, h.ds, h.cs, h.out, h.inp, h.low, h.ile, h.icm, h.inil, h.bB, h.bM, h.bw, h.dm, h.cm, h.dc, h.ok⟩
/-- What a step of the reference leaves behind. -/
def RQ (w0 : World) (base B : Nat) (s : St) (r : Res) (e : Ending) (w' : World) : Prop :=
  match r with
  | .go s' => e = .returned (.bool true) ∧ ROn w0 base w' B { s' with dig := s.dig }
  | _ => e = .returned (.bool false) ∧ ROn w0 base w' B s
theorem RQ.go {r : Res} {s' : St} {w' : World} (hr : r = .go s') (h : ROn w0 base w' B { s' with dig := s.dig }) : RQ w0 base B s r (.returned (.bool true)) w' := by subst hr; exact ⟨rfl, h⟩
theorem RQ.trap {r : Res} {w' : World} (hr : r = .trap) (h : ROn w0 base w' B s) : RQ w0 base B s r (.returned (.bool false)) w' := by subst hr; exact ⟨rfl, h⟩
end
end Go.Proofs.Ytfdlgdgjbfoogaa.M17
