/- What the laws of layer 3 take of the package's own functions: their contracts, as one structure (in worlds that L lets by); and the laws' walks under them. -/
import Derived.Test.YtnafcicllcmbbaaK3Ref2
import Derived.DataShut
import Derived.Deep.RegionWith
namespace Go.Proofs.Ytnafcicllcmbbaa.K3
open Go.RowKit Mem
set_option linter.unusedVariables false

/-- The contracts of the package's functions. -/
structure Dev (L : World → Prop) : Prop where
  keep : ∀ {w w' : World}, L w → Below w.heap.size w w' → L w'
  update : ∀ (x : R) (s : ByteArray) (w : World), s.size ≤ 1000000 → L w → Calls Try.prog 12 #[.int .u32 (x.toNat : Int), .string s] w fun e w' => e = .returned (.int .u32 ((upd x s.data.toList).toNat : Int)) ∧ Below w.heap.size w w'
  sum : ∀ (A : Option Addr) (cap : Nat) (l : List (List UInt8)) (w : World), (∀ x ∈ l, x.length ≤ 1000000) → l.length ≤ 1000 → l.length ≤ cap → cap ≤ 9223372036854775807 → Rd w A (strVs l) → L w →
    Calls Try.prog 14 #[.slice A l.length cap] w fun e w' => e = .returned (.int .u32 ((sumL (joinL l)).toNat : Int)) ∧ Below w.heap.size w w'
  bytes : ∀ (x : R) (w : World), L w → Calls Try.prog 16 #[.int .u32 (x.toNat : Int)] w fun e w' => e = .returned (.string ⟨(byL x).toArray⟩) ∧ Below w.heap.size w w'
  combine : ∀ (a b : R) (n : Int) (w : World), -9223372036854775808 ≤ n → n ≤ 9223372036854775807 → L w →
    Calls Try.prog 18 #[.int .u32 (a.toNat : Int), .int .u32 (b.toNat : Int), .int .i64 n] w fun e w' => e = .returned (.int .u32 ((comb a b n).toNat : Int)) ∧ Below w.heap.size w w'

variable {L : World → Prop}
theorem Dev.drewN (D : Dev L) {w : World} (h : L w) (n : Nat) : L (w.drewN n) := D.keep h (chainN (Below.refl _ _) n)
theorem Dev.drew (D : Dev L) {w : World} (h : L w) : L w.drew := D.drewN h 1
theorem Dev.alloc (D : Dev L) {w : World} (h : L w) (o : Obj) : L (w.alloc o) := D.keep h ((Below.refl _ _).alloc (Nat.le_refl _) _)

/-- A row of strings just made. -/
theorem rd_made (w : World) (e : TypeId) (vs : List Value) (cs : Array Value) (h : cs.toList = vs) : Rd (w.alloc (.cells cs e)) (some ⟨w.heap.size, 0, none⟩) vs := fun j hj => by
  subst h
  refine ⟨w.heap.size, 0, rfl, by simp, ?_⟩
  rw [World.cell?_alloc_new, Nat.zero_add]
  simp at hj ⊢
theorem rd_made_at (w : World) (e : TypeId) (vs : List Value) (cs : Array Value) (N : Nat) (h : cs.toList = vs) (hN : w.heap.size = N) : Rd (w.alloc (.cells cs e)) (some ⟨N, 0, none⟩) vs := by
  subst hN
  exact rd_made w e vs cs h
theorem below_made (w : World) (o : Obj) : Below w.heap.size w (w.alloc o) := (Below.refl _ _).alloc (Nat.le_refl _) _
theorem sum0 (D : Dev L) (w : World) (hL : L w) : Calls Try.prog 14 #[.slice none 0 0] w fun e w' => e = .returned (.int .u32 4294967295) ∧ Below w.heap.size w w' :=
  D.sum none 0 [] w (fun x h => by cases h) (by decide) (by decide) (by decide) (fun j h => by simp [strVs] at h) hL
theorem sum1 (D : Dev L) (s : ByteArray) (w : World) (hs : s.size ≤ 1000000) (hL : L w) :
    Calls Try.prog 14 #[.slice (some ⟨w.heap.size, 0, none⟩) 1 1] (w.alloc (.cells #[.string s] 9)) fun e w' => e = .returned (.int .u32 ((sumL s.data.toList).toNat : Int)) ∧ Below w.heap.size w w' := by
  have h := D.sum (some ⟨w.heap.size, 0, none⟩) 1 [s.data.toList] _ (by simpa using hs) (by simp) (by simp) (by decide) (rd_made w 9 _ #[.string s] rfl) (D.alloc hL _)
  rw [show joinL [s.data.toList] = s.data.toList by simp [joinL]] at h
  exact h.mono fun e w' ⟨a, b⟩ => ⟨a, chain (below_made w _) b⟩
theorem sum2 (D : Dev L) (s t : ByteArray) (w : World) (hs : s.size ≤ 1000000) (ht : t.size ≤ 1000000) (hL : L w) :
    Calls Try.prog 14 #[.slice (some ⟨w.heap.size, 0, none⟩) 2 2] (w.alloc (.cells #[.string s, .string t] 9)) fun e w' => e = .returned (.int .u32 ((sumL (s.data.toList ++ t.data.toList)).toNat : Int)) ∧ Below w.heap.size w w' := by
  have h := D.sum (some ⟨w.heap.size, 0, none⟩) 2 [s.data.toList, t.data.toList] _ (by simp; exact ⟨hs, ht⟩) (by simp) (by simp) (by decide) (rd_made w 9 _ #[.string s, .string t] rfl) (D.alloc hL _)
  rw [show joinL [s.data.toList, t.data.toList] = s.data.toList ++ t.data.toList by simp [joinL]] at h
  exact h.mono fun e w' ⟨a, b⟩ => ⟨a, chain (below_made w _) b⟩

set_option maxHeartbeats 1000000 in
theorem awake_any (D : Dev L) (w : World) (hL0 : L w) : Calls Try.prog 11 #[] w fun e w' => e = .returned (.bool true) ∧ Below w.heap.size w w' := by
  have c1 := sum1 D ⟨#[49, 50, 51, 52, 53, 54, 55, 56, 57]⟩ w (by decide) hL0
  rw [show ((sumL (⟨#[49, 50, 51, 52, 53, 54, 55, 56, 57]⟩ : ByteArray).data.toList).toNat : Int) = 58124007 by decide +kernel] at c1
  have c2 := fun W (h : L W) => sum0 D W h
  have c3 := fun W (h : L W) => D.bytes 58124007#32 W h
  rw [show (((58124007#32 : R).toNat : Nat) : Int) = 58124007 by decide, show byL 58124007#32 = [3, 118, 230, 231] by decide +kernel] at c3
  have c1 := Lib.hid c1
  have c2 := Lib.hid c2
  have c3 := Lib.hid c3
  go_enter Try.func11, Try.ntmps11
  go_wp2_with fail
  refine c1.out.mono ?_
  rintro e w1 ⟨rfl, hb1⟩
  have hL := D.keep hL0 hb1
  go_wp2_with fail
  refine (c2.out _ (by exact hL)).mono ?_
  rintro e w2 ⟨rfl, hb2⟩
  have hL := D.keep hL hb2
  go_wp2_with fail
  refine (c3.out _ (by exact hL)).mono ?_
  rintro e w3 ⟨rfl, hb3⟩
  go_wp2
  go_ret
  exact ⟨rfl, chain (chain hb1 hb2) hb3⟩
end Go.Proofs.Ytnafcicllcmbbaa.K3
