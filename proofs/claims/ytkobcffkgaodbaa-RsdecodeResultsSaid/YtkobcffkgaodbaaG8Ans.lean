/- What the functions of layer 8 hand back. -/
import Derived.Test.YtkobcffkgaodbaaG8Math
import Derived.Test.YtkobcffkgaodbaaG8Ints
namespace Go.Proofs.Ytkobcffkgaodbaa.G8
open Go.Proofs.Ytkobcffkgaodbaa.G5
open Go.Proofs.Ytkobcffkgaodbaa.G7
open Go.RowKit Mem
set_option linter.unusedVariables false
set_option linter.unusedSimpArgs false

/-- What Decode hands back. -/
def Deco (u : List R) (p : Int) (zs : List Int) (w : World) (e : Ending) (w' : World) : Prop := ∃ (S : ByteArray) (n k : Int), DecQ u p zs S n k ∧ e = .returned (.tuple #[.string S, .int .i64 n, .int .i64 k]) ∧ Below w.heap.size w w'
/-- The places at which two words differ. -/
def locL (a b : List R) : List Int := ((List.range a.length).filter (differ a b)).map fun (i : Nat) => (i : Int)
def LocQ (a b : List R) (l : List Int) (k : Int) : Prop := (a.length ≠ b.length → l = [] ∧ k = 1) ∧ (a.length = b.length → l = locL a b ∧ k = 0)
def Loc (a b : List R) (w : World) (e : Ending) (w' : World) : Prop := ∃ (A : Option Addr) (n c : Nat) (l : List Int) (k : Int), LocQ a b l k ∧ l.length = n ∧ e = .returned (.tuple #[.slice A n c, .int .i64 k]) ∧ IsInts w' A c l ∧ Below w.heap.size w w'
def radB (p e s : Int) : Bool := decide (1 ≤ p ∧ p ≤ 64 ∧ 0 ≤ e ∧ 0 ≤ s ∧ 2 * e + s ≤ p)
def lk (a b : List R) (k : Nat) : List Int := ((List.range k).filter (differ a b)).map fun (i : Nat) => (i : Int)
theorem lk_len (a b : List R) (k : Nat) : (lk a b k).length ≤ k := by
  unfold lk
  rw [List.length_map]
  have := List.length_filter_le (differ a b) (List.range k)
  simpa using this
theorem lk_yes {a b : List R} {k : Nat} (h : differ a b k = true) : lk a b (k + 1) = lk a b k ++ [(k : Int)] := by
  unfold lk
  rw [List.range_succ, List.filter_append, List.map_append]
  simp [h]
theorem lk_no {a b : List R} {k : Nat} (h : differ a b k = false) : lk a b (k + 1) = lk a b k := by
  unfold lk
  rw [List.range_succ, List.filter_append, List.map_append]
  simp [h]
theorem lk_fit (a b : List R) (k : Nat) (hk : k ≤ 1000000) : ∀ z ∈ lk a b k, -9223372036854775808 ≤ z ∧ z ≤ 9223372036854775807 := by
  intro z hz
  unfold lk at hz
  obtain ⟨i, hi, rfl⟩ := List.mem_map.1 hz
  have := List.mem_range.1 (List.mem_filter.1 hi).1
  omega
theorem locL_lk (a b : List R) : locL a b = lk a b a.length := rfl
theorem dif_locL (a b : List R) : (locL a b).length = dif a b := by
  unfold locL dif cnt
  rw [List.length_map]
end Go.Proofs.Ytkobcffkgaodbaa.G8
