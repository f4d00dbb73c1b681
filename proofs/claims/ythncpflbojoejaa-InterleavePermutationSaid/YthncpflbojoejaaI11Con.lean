/- What the functions of layer 11 hand back. -/
import Derived.Test.YthncpflbojoejaaMem
import Derived.Test.YthncpflbojoejaaI11Math
namespace Go.Proofs.Ythncpflbojoejaa.I11
open Go.RowKit Mem

/-- Index: the position, and the error. -/
def ixE (i n r : Int) : Int := if r < 1 ∨ n < 0 then 1 else if i < 0 ∨ n ≤ i then 2 else 0
def ixN (i n r : Int) : Int := if ixE i n r = 0 then (pos n.toNat r.toNat i.toNat : Int) else 0
/-- Interleave, Deinterleave: the string, and the error. -/
def pE (r : Int) : Int := if r < 1 then 1 else 0
def iS (c : ByteArray) (r : Int) : ByteArray := if r < 1 then ⟨#[]⟩ else ⟨(il r.toNat c.data.toList).toArray⟩
def dS (c : ByteArray) (r : Int) : ByteArray := if r < 1 then ⟨#[]⟩ else ⟨(dl r.toNat c.data.toList).toArray⟩
theorem ix_arg {i n r : Int} (h : r < 1 ∨ n < 0) : ixE i n r = 1 ∧ ixN i n r = 0 := by
  have h1 : ixE i n r = 1 := by unfold ixE; rw [if_pos h]
  exact ⟨h1, by unfold ixN; rw [h1]; rfl⟩
theorem ix_range {i n r : Int} (h : ¬ (r < 1 ∨ n < 0)) (h' : i < 0 ∨ n ≤ i) : ixE i n r = 2 ∧ ixN i n r = 0 := by
  have h1 : ixE i n r = 2 := by unfold ixE; rw [if_neg h, if_pos h']
  exact ⟨h1, by unfold ixN; rw [h1]; rfl⟩
theorem ix_ok {i n r : Nat} (h : 1 ≤ r) (h' : i < n) : ixE i n r = 0 ∧ ixN i n r = (pos n r i : Int) := by
  have h1 : ixE i n r = 0 := by unfold ixE; rw [if_neg (by omega), if_neg (by omega)]
  exact ⟨h1, by unfold ixN; rw [if_pos h1]; rfl⟩
theorem iS_at {c : ByteArray} {r : Nat} (h : 1 ≤ r) : iS c (r : Int) = ⟨(il r c.data.toList).toArray⟩ := by unfold iS; rw [if_neg (by omega)]; rfl
theorem dS_at {c : ByteArray} {r : Nat} (h : 1 ≤ r) : dS c (r : Int) = ⟨(dl r c.data.toList).toArray⟩ := by unfold dS; rw [if_neg (by omega)]; rfl
theorem p_ok {r : Nat} (h : 1 ≤ r) : pE (r : Int) = 0 := by unfold pE; rw [if_neg (by omega)]
theorem p_arg {c : ByteArray} {r : Int} (h : r < 1) : pE r = 1 ∧ iS c r = ⟨#[]⟩ ∧ dS c r = ⟨#[]⟩ := by
  unfold pE iS dS
  rw [if_pos h, if_pos h, if_pos h]
  exact ⟨rfl, rfl, rfl⟩
/-- What the functions hand back, and what they leave of the world. -/
def Ixed (i n r : Int) (w : World) (e : Ending) (w' : World) : Prop := e = .returned (.tuple #[.int .i64 (ixN i n r), .int .i64 (ixE i n r)]) ∧ ∃ k, w' = w.drewN k
def Iled (c : ByteArray) (r : Int) (w : World) (e : Ending) (w' : World) : Prop := e = .returned (.tuple #[.string (iS c r), .int .i64 (pE r)]) ∧ Below w.heap.size w w'
def Dled (c : ByteArray) (r : Int) (w : World) (e : Ending) (w' : World) : Prop := e = .returned (.tuple #[.string (dS c r), .int .i64 (pE r)]) ∧ Below w.heap.size w w'
/-- The parts of a position, as the walks have them. -/
structure Parts (n r i p q N M X : Nat) : Prop where
  rem : (i : Int) % (r : Int) = (p : Int)
  rem' : (i : Int).tmod (r : Int) = (p : Int)
  quo : (i : Int) / (r : Int) = (q : Int)
  quo' : (i : Int).tdiv (r : Int) = (q : Int)
  nquo : (n : Int) / (r : Int) = (N : Int)
  nquo' : (n : Int).tdiv (r : Int) = (N : Int)
  nrem : (n : Int) % (r : Int) = (M : Int)
  nrem' : (n : Int).tmod (r : Int) = (M : Int)
  mul : (p : Int) * (N : Int) = (X : Int)
  all : X + min p M + q = pos n r i
  lt : X + min p M + q < n
  pl : p ≤ i
  ql : q ≤ i
  Nl : N ≤ n
  Ml : M ≤ n
theorem parts {n r i : Nat} (hr : 1 ≤ r) (h : i < n) : ∃ p q N M X, Parts n r i p q N M X := by
  refine ⟨i % r, i / r, n / r, n % r, (i % r) * (n / r), ?_⟩
  refine ⟨rfl, ?_, rfl, ?_, rfl, ?_, rfl, ?_, (Int.natCast_mul _ _).symm, rfl, pos_lt (by omega) h, Nat.mod_le _ _, Nat.div_le_self _ _, Nat.div_le_self _ _, Nat.mod_le _ _⟩
  · exact Int.tmod_eq_emod_of_nonneg (by omega)
  · exact Int.tdiv_eq_ediv_of_nonneg (by omega)
  · exact Int.tdiv_eq_ediv_of_nonneg (by omega)
  · exact Int.tmod_eq_emod_of_nonneg (by omega)
end Go.Proofs.Ythncpflbojoejaa.I11
