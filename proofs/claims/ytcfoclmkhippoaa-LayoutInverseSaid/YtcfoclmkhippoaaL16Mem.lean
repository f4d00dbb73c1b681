/- Layouts and positions in memory: what the functions of layer 16 leave behind. No walk here. -/
import Derived.Test.YtcfoclmkhippoaaRows
import Derived.Test.YtcfoclmkhippoaaMem
import Derived.Test.YtcfoclmkhippoaaL16Math
import Derived.Lib.Hide
import Derived.Laws.MakeOwn
import Derived.RangeFuncRecord
import Derived.ChangeSame
import Derived.WalkKit
import Derived.ProofKit
import Derived.WalkSpells
import Derived.WalkLawsBesides
import Derived.BigQuiet
import Derived.Deep.QuietTactic
import Derived.Deep.RegionHeld3
namespace Go.Proofs.Ytcfoclmkhippoaa.L16
set_option maxRecDepth 100000
open Go.RowKit Mem
set_option linter.unusedVariables false
set_option linter.unusedSimpArgs false

/-- A layout, a position as values. -/
def lyV (D S : Int) : Value := .agg #[.int .i64 D, .int .i64 S]
def psV (s r o : Int) : Value := .agg #[.int .i64 s, .int .i64 r, .int .i64 o]
def F64 (n : Int) : Prop := -9223372036854775808 ≤ n ∧ n ≤ 9223372036854775807
/-- What Check leaves behind. -/
def ChkP (D S : Int) (w : World) (e : Ending) (w' : World) : Prop := ∃ k, ChkQ D S k ∧ e = .returned (.int .i64 k) ∧ Below w.heap.size w w'
theorem ChkP.bad {D S : Int} {w w' : World} (h : ¬ Lok D S) (hb : Below w.heap.size w w') : ChkP D S w (.returned (.int .i64 2)) w' := ⟨2, Or.inr ⟨rfl, h⟩, rfl, hb⟩
theorem ChkP.good {D S : Int} {w w' : World} (h : Lok D S) (hb : Below w.heap.size w w') : ChkP D S w (.returned (.int .i64 0)) w' := ⟨0, Or.inl ⟨rfl, h⟩, rfl, hb⟩
/-- What Locate leaves behind. -/
def LocP (D S x : Int) (w : World) (e : Ending) (w' : World) : Prop := ∃ s r o k, LocQ D S x s r o k ∧ e = .returned (.tuple #[psV s r o, .int .i64 k]) ∧ Below w.heap.size w w'
theorem LocP.bad {D S x : Int} {w w' : World} (h : ¬ (Lok D S ∧ 0 ≤ x ∧ x ≤ 2147483647)) (hb : Below w.heap.size w w') : LocP D S x w (.returned (.tuple #[.agg #[.int .i64 0, .int .i64 0, .int .i64 0], .int .i64 2])) w' :=
  ⟨0, 0, 0, 2, ⟨Or.inr rfl, fun h => absurd h (by decide), fun _ => ⟨h, rfl, rfl, rfl⟩⟩, rfl, hb⟩
theorem LocP.good {D S x s r o : Int} {w w' : World} (h : Lok D S) (h0 : 0 ≤ x) (h1 : x ≤ 2147483647) (hp : PosQ D s r o x) (hb : Below w.heap.size w w') : LocP D S x w (.returned (.tuple #[.agg #[.int .i64 s, .int .i64 r, .int .i64 o], .int .i64 0])) w' :=
  ⟨s, r, o, 0, ⟨Or.inl rfl, fun _ => ⟨h, h0, h1, hp⟩, fun h => absurd h (by decide)⟩, rfl, hb⟩
/-- What Offset leaves behind. -/
def OffP (D S s r o : Int) (w : World) (e : Ending) (w' : World) : Prop := ∃ x k, OffQ D S s r o x k ∧ e = .returned (.tuple #[.int .i64 x, .int .i64 k]) ∧ Below w.heap.size w w'
theorem OffP.bad {D S s r o : Int} {w w' : World} (h : ¬ ∃ y, Lok D S ∧ PosQ D s r o y ∧ y ≤ 2147483647) (hb : Below w.heap.size w w') : OffP D S s r o w (.returned (.tuple #[.int .i64 0, .int .i64 2])) w' :=
  ⟨0, 2, ⟨Or.inr rfl, fun h => absurd h (by decide), fun _ => ⟨h, rfl⟩⟩, rfl, hb⟩
theorem OffP.good {D S s r o x : Int} {w w' : World} (h : Lok D S) (hp : PosQ D s r o x) (h1 : x ≤ 2147483647) (hb : Below w.heap.size w w') : OffP D S s r o w (.returned (.tuple #[.int .i64 x, .int .i64 0])) w' :=
  ⟨x, 0, ⟨Or.inl rfl, fun _ => ⟨h, hp, h1⟩, fun h => absurd h (by decide)⟩, rfl, hb⟩
/-! ### boxes -/
theorem boxed (w : World) (x : Obj) : Below w.heap.size w (w.alloc x) := (Below.refl _ _).alloc (Nat.le_refl _) _
theorem two_made (w : World) (a b : Obj) : Below w.heap.size w ((w.alloc a).alloc b) := ((Below.refl w.heap.size w).alloc (Nat.le_refl _) _).alloc (by simp) _
theorem vat_of_block {W : World} {g : Nat} {l : List Value} {T : TypeId} (h : W.heap[g]? = some (.cells l.toArray T (0, 0))) : VAt W g l := fun j hj => by
  refine ⟨?_, ?_⟩
  · simp [World.cell?, h, hj]
  · simp [World.frozen?, h]
theorem vat_alloc (w : World) (T : TypeId) (l : List Value) : VAt (w.alloc (.cells l.toArray T)) w.heap.size l := vat_of_block (World.alloc_heap_new w (.cells l.toArray T))
structure Cells2 (W : World) (B : Nat) (v0 v1 : Value) : Prop where
  c0 : W.cell? ⟨B, 0, none⟩ = some v0
  c1 : W.cell? ⟨B, 1, none⟩ = some v1
theorem Cells2.of {W : World} {B : Nat} {v0 v1 : Value} (h : VAt W B [v0, v1]) : Cells2 W B v0 v1 := ⟨(h 0 (show 0 < 2 by decide)).1, (h 1 (show 1 < 2 by decide)).1⟩
theorem Cells2.below {W W1 : World} {B b : Nat} {v0 v1 : Value} (h : Cells2 W b v0 v1) (k : Below B W W1) (hb : b < B) : Cells2 W1 b v0 v1 := ⟨(k.cell (p := ⟨b, 0, none⟩) hb).trans h.c0, (k.cell (p := ⟨b, 1, none⟩) hb).trans h.c1⟩
structure Cells3 (W : World) (B : Nat) (v0 v1 v2 : Value) : Prop where
  c0 : W.cell? ⟨B, 0, none⟩ = some v0
  c1 : W.cell? ⟨B, 1, none⟩ = some v1
  c2 : W.cell? ⟨B, 2, none⟩ = some v2
  z0 : W.frozen? ⟨B, 0, none⟩ = false
  z1 : W.frozen? ⟨B, 1, none⟩ = false
  z2 : W.frozen? ⟨B, 2, none⟩ = false
theorem Cells3.of {W : World} {B : Nat} {v0 v1 v2 : Value} (h : VAt W B [v0, v1, v2]) : Cells3 W B v0 v1 v2 :=
  ⟨(h 0 (show 0 < 3 by decide)).1, (h 1 (show 1 < 3 by decide)).1, (h 2 (show 2 < 3 by decide)).1, (h 0 (show 0 < 3 by decide)).2, (h 1 (show 1 < 3 by decide)).2, (h 2 (show 2 < 3 by decide)).2⟩
/-- A position stored into its cells. -/
def put3 (B : Nat) (W : World) (a b c : Value) : World := ((W.setCell ⟨B, 0, none⟩ a).setCell ⟨B, 1, none⟩ b).setCell ⟨B, 2, none⟩ c
theorem put3_at {W : World} {B : Nat} {v0 v1 v2 : Value} (h : VAt W B [v0, v1, v2]) (a b c : Value) : VAt (put3 B W a b c) B [a, b, c] := ((h.set (k := 0) (show 0 < 3 by decide) a).set (k := 1) (show 1 < 3 by decide) b).set (k := 2) (show 2 < 3 by decide) c
theorem put3_below {X B : Nat} {w W : World} (h : Below X w W) (hB : X ≤ B) (a b c : Value) : Below X w (put3 B W a b c) := ((h.setCell (p := ⟨B, 0, none⟩) hB a).setCell (p := ⟨B, 1, none⟩) hB b).setCell (p := ⟨B, 2, none⟩) hB c
theorem put3_size (B : Nat) (W : World) (a b c : Value) : (put3 B W a b c).heap.size = W.heap.size := by simp [put3]
theorem put3_far {W : World} {B b' : Nat} {l : List Value} (h : VAt W b' l) (hne : B ≠ b') (a b c : Value) : VAt (put3 B W a b c) b' l := ((h.far hne a).far hne b).far hne c
/-- A layout's box and a position's, just made. -/
structure LyPs (w W : World) (D S : Int) : Prop where
  bel : Below w.heap.size w W
  size : W.heap.size = w.heap.size + 1 + 1
  ly : VAt W w.heap.size [.int .i64 D, .int .i64 S]
theorem lyps_made (w : World) (D S : Int) (T T' : TypeId) (l : List Value) : LyPs w ((w.alloc (.cells #[.int .i64 D, .int .i64 S] T)).alloc (.cells l.toArray T')) D S ∧ VAt ((w.alloc (.cells #[.int .i64 D, .int .i64 S] T)).alloc (.cells l.toArray T')) (w.heap.size + 1) l := by
  refine ⟨⟨two_made w _ _, by simp, ?_⟩, ?_⟩
  · exact (vat_alloc w T [.int .i64 D, .int .i64 S]).below (boxed (w.alloc (.cells #[.int .i64 D, .int .i64 S] T)) (.cells l.toArray T')) (by simp)
  · have := vat_alloc (w.alloc (.cells #[.int .i64 D, .int .i64 S] T)) T' l
    rwa [World.size_alloc] at this
end Go.Proofs.Ytcfoclmkhippoaa.L16
