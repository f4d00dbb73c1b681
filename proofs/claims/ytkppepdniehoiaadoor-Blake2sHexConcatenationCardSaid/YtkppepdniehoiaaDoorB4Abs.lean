/- Operations over a frame that is a letter: of it only some slots are known. For the landed package's rounds (a frame of 221 slots). -/
import Derived.Test.YtkppepdniehoiaaDoorB4Own2
import Derived.Test.YtkppepdniehoiaaDoorB4Law3
namespace Go.Proofs.YtkppepdniehoiaaDoor.B4
open Go.RowKit Mem Parts
set_option linter.unusedVariables false
set_option linter.unusedSimpArgs false

/-- Slot n holds v. -/
def At (a : Act) (n : Nat) (v : Value) : Prop := a.tmps[n]? = some v
theorem At.eval {a : Act} {n : Nat} {v : Value} (h : At a n v) : a.eval (.tmp n) = v := by
  show a.tmps.getD n undef = v
  unfold At at h
  simp [h]
theorem At.ne {a : Act} {n k : Nat} {v : Value} (h : At a k v) (hne : n ≠ k) (u : Value) : At (a.put (some n) u) k v := by
  show (a.tmps.setIfInBounds n u)[k]? = some v
  rw [Array.getElem?_setIfInBounds_ne hne]
  exact h
theorem At.put {a : Act} {n : Nat} (h : n < a.tmps.size) (u : Value) : At (a.put (some n) u) n u := by
  show (a.tmps.setIfInBounds n u)[n]? = some u
  simp [h]
theorem put_size (a : Act) (n : Nat) (u : Value) : (a.put (some n) u).tmps.size = a.tmps.size := by
  show (a.tmps.setIfInBounds n u).size = _
  simp
/-- a' is a but for the slots from lo to hi - 1. -/
def Same (a a' : Act) (lo hi : Nat) : Prop := a'.tmps.size = a.tmps.size ∧ a'.defers = a.defers ∧ ∀ n, (n < lo ∨ hi ≤ n) → a'.tmps[n]? = a.tmps[n]?
theorem Same.refl (a : Act) (lo hi : Nat) : Same a a lo hi := ⟨rfl, rfl, fun _ _ => rfl⟩
theorem Same.put {a a' : Act} {lo hi n : Nat} (h : Same a a' lo hi) (h1 : lo ≤ n) (h2 : n < hi) (u : Value) : Same a (a'.put (some n) u) lo hi :=
  ⟨by rw [put_size]; exact h.1, h.2.1, fun k hk => by
    rw [← h.2.2 k hk]
    show (a'.tmps.setIfInBounds n u)[k]? = _
    rw [Array.getElem?_setIfInBounds_ne (by omega)]⟩
theorem Same.trans {a b c : Act} {lo hi lo' hi' : Nat} (h : Same a b lo hi) (k : Same b c lo' hi') (h1 : lo' ≤ hi) (h2 : lo ≤ lo') (h3 : hi ≤ hi') : Same a c lo hi' :=
  ⟨k.1.trans h.1, k.2.1.trans h.2.1, fun n hn => (k.2.2 n (by omega)).trans (h.2.2 n (by omega))⟩
theorem Same.at {a a' : Act} {lo hi n : Nat} {v : Value} (h : Same a a' lo hi) (hn : n < lo ∨ hi ≤ n) (k : At a n v) : At a' n v := (h.2.2 n hn).trans k

/-- What is looked at of an operation. -/
def sh (o : Oper) : Option Tmp × Op × Option (Nat × Bool) := (o.dst, o.op, o.guard)

section
variable {o : Oper} {a : Act}
theorem ex_idx16 {x ix : Operand} {g n : Nat} {k : IntKind} (ho : o.op = .indexAddr 48 x ix) (hx : a.eval x = .pointer (some ⟨g, 0, none⟩)) (hi : a.eval ix = .int k (n : Int)) (hn : n < 16) (w : World) :
    (execOp a.eval o).run Tryd.prog w = .ok (.value (.pointer (some ⟨g, n, none⟩))) w := by
  have h1 : (n : Int) < 16 := by omega
  have h0 : (0 : Int) ≤ (n : Int) := by omega
  unfold execOp
  simp only [ho, hx, hi]
  go_simp
theorem ex_idx16b {x ix : Operand} {g n : Nat} {k : IntKind} (ho : o.op = .indexAddr 60 x ix) (hx : a.eval x = .pointer (some ⟨g, 0, none⟩)) (hi : a.eval ix = .int k (n : Int)) (hn : n < 16) (w : World) :
    (execOp a.eval o).run Tryd.prog w = .ok (.value (.pointer (some ⟨g, n, none⟩))) w := by
  have h1 : (n : Int) < 16 := by omega
  have h0 : (0 : Int) ≤ (n : Int) := by omega
  unfold execOp
  simp only [ho, hx, hi]
  go_simp
theorem ex_load32 {x : Operand} {p : Addr} {v : Value} {w : World} (ho : o.op = .load 31 x) (hx : a.eval x = .pointer (some p)) (hc : w.cell? p = some v) : (execOp a.eval o).run Tryd.prog w = .ok (.value v) w := by
  unfold execOp
  simp only [ho, hx]
  go_simp
theorem ex_load8 {x : Operand} {p : Addr} {v : Value} {w : World} (ho : o.op = .load 5 x) (hx : a.eval x = .pointer (some p)) (hc : w.cell? p = some v) : (execOp a.eval o).run Tryd.prog w = .ok (.value v) w := by
  unfold execOp
  simp only [ho, hx]
  go_simp
theorem ex_move {x : Operand} {v : Value} (ho : o.op = .move x) (hx : a.eval x = v) (w : World) : (execOp a.eval o).run Tryd.prog w = .ok (.value v) w := by
  unfold execOp
  simp only [ho, hx]
  go_simp
theorem ex_extract {x : Operand} {n : Nat} {cs : Array Value} {v : Value} (ho : o.op = .extract x n) (hx : a.eval x = .tuple cs) (hv : cs[n]? = some v) (w : World) : (execOp a.eval o).run Tryd.prog w = .ok (.value v) w := by
  unfold execOp
  simp only [ho, hx]
  simp [Instr.extract, hv]
theorem ex_store32 {x y : Operand} {p : Addr} {n : Int} {v : Value} {w : World} (ho : o.op = .store 31 x y) (hx : a.eval x = .pointer (some p)) (hy : a.eval y = .int .u32 n) (hc : w.cell? p = some v) (hf : w.frozen? p = false) :
    (execOp a.eval o).run Tryd.prog w = .ok .skip (w.setCell p (.int .u32 n)) := by
  unfold execOp
  simp only [ho, hx, hy]
  go_simp
end
end Go.Proofs.YtkppepdniehoiaaDoor.B4
