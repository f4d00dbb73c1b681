/- What the laws of layer 4 take of the package's own functions: their contracts, as one structure (in worlds that L lets by). -/
import Derived.Test.YtkppepdniehoiaaDoorB4Ref3
import Derived.DataShut
namespace Go.Proofs.YtkppepdniehoiaaDoor.B4
open Go.RowKit Mem
set_option linter.unusedVariables false

/-- What Compress gives back. -/
def cmpV (h : List R) (block : List UInt8) (count : Nat) (last : Bool) : Value := if block.length = 64 then .tuple #[av (cmpL h block count last), .int .i64 0] else .tuple #[av [0, 0, 0, 0, 0, 0, 0, 0], .int .i64 1]
/-- The contracts of the package's functions. -/
structure Dev (L : World → Prop) : Prop where
  keep : ∀ {w w' : World}, L w → Below w.heap.size w w' → L w'
  sum : ∀ (A : Option Addr) (cap : Nat) (l : List (List UInt8)) (w : World), totl l ≤ 1000000 → l.length ≤ 1000000 → l.length ≤ cap → cap ≤ 9223372036854775807 → Rd w A (strVs l) → L w →
    Calls Tryd.prog 13 #[.slice A l.length cap] w fun e w' => e = .returned (.string ⟨(digL l.flatten).toArray⟩) ∧ Below w.heap.size w w'
  compress : ∀ (h : List R) (block : ByteArray) (count : Nat) (last : Bool) (w : World), h.length = 8 → block.size ≤ 140737488351232 → count < 18446744073709551616 → L w →
    Calls Tryd.prog 15 #[av h, .string block, .int .u64 (count : Int), .bool last] w fun e w' => e = .returned (cmpV h block.data.toList count last) ∧ Below w.heap.size w w'
  hex : ∀ (s : ByteArray) (w : World), s.size ≤ 1000000 → L w → Calls Tryd.prog 18 #[.string s] w fun e w' => e = .returned (.string ⟨(hexL s.data.toList).toArray⟩) ∧ Below w.heap.size w w'
  merkle : ∀ (A : Option Addr) (cap : Nat) (l : List (List UInt8)) (w : World), totl l ≤ 900000 → l.length ≤ 1000 → l.length ≤ cap → cap ≤ 9223372036854775807 → Rd w A (strVs l) → L w →
    Calls Tryd.prog 20 #[.slice A l.length cap] w fun e w' => e = .returned (.string ⟨(merL l).toArray⟩) ∧ Below w.heap.size w w'

variable {L : World → Prop}
theorem Dev.drewN (D : Dev L) {w : World} (h : L w) (n : Nat) : L (w.drewN n) := D.keep h (chainN (Below.refl _ _) n)
theorem Dev.drew (D : Dev L) {w : World} (h : L w) : L w.drew := D.drewN h 1
theorem Dev.alloc (D : Dev L) {w : World} (h : L w) (o : Obj) : L (w.alloc o) := D.keep h ((Below.refl _ _).alloc (Nat.le_refl _) o)

/-- A row of strings just made. -/
theorem rd_made (w : World) (e : TypeId) (vs : List Value) (cs : Array Value) (h : cs.toList = vs) : Rd (w.alloc (.cells cs e)) (some ⟨w.heap.size, 0, none⟩) vs := fun j hj => by
  subst h
  refine ⟨w.heap.size, 0, rfl, by simp, ?_⟩
  rw [World.cell?_alloc_new, Nat.zero_add]
  simp at hj ⊢
theorem below_made (w : World) (o : Obj) : Below w.heap.size w (w.alloc o) := (Below.refl _ _).alloc (Nat.le_refl _) o
theorem sum0 (D : Dev L) (w : World) (hL : L w) : Calls Tryd.prog 13 #[.slice none 0 0] w fun e w' => e = .returned (.string ⟨(digL []).toArray⟩) ∧ Below w.heap.size w w' :=
  D.sum none 0 [] w (by decide) (by decide) (by decide) (by decide) (fun j h => by simp [strVs] at h) hL
theorem sum2 (D : Dev L) (s t : ByteArray) (w : World) (hs : s.size + t.size ≤ 1000000) (hL : L w) :
    Calls Tryd.prog 13 #[.slice (some ⟨w.heap.size, 0, none⟩) 2 2] (w.alloc (.cells #[.string s, .string t] 9)) fun e w' => e = .returned (.string ⟨(digL (s.data.toList ++ t.data.toList)).toArray⟩) ∧ Below w.heap.size w w' := by
  have h := D.sum (some ⟨w.heap.size, 0, none⟩) 2 [s.data.toList, t.data.toList] _ (by simp [totl]; exact hs) (by simp) (by simp) (by decide) (rd_made w 9 _ #[.string s, .string t] rfl) (D.alloc hL _)
  rw [show [s.data.toList, t.data.toList].flatten = s.data.toList ++ t.data.toList by simp] at h
  exact h.mono fun e w' ⟨a, b⟩ => ⟨a, chain (below_made w _) b⟩

set_option maxHeartbeats 1000000 in
theorem alive_any (D : Dev L) (w : World) (hL0 : L w) : Calls Tryd.prog 11 #[] w fun e w' => e = .returned (.bool true) ∧ Below w.heap.size w w' := by
  have c1 := sum2 D ⟨#[97]⟩ ⟨#[98, 99]⟩ w (by decide) hL0
  rw [show (⟨#[97]⟩ : ByteArray).data.toList ++ (⟨#[98, 99]⟩ : ByteArray).data.toList = [97, 98, 99] from rfl] at c1
  have l1 := digL_len [97, 98, 99]
  have l0 := digL_len []
  have h1 := abc_hex
  have h0 := none_hex
  have c3 := fun W (h : L W) => sum0 D W h
  obtain ⟨X, hX⟩ : ∃ X, digL [97, 98, 99] = X := ⟨_, rfl⟩
  obtain ⟨Y, hY⟩ : ∃ Y, digL [] = Y := ⟨_, rfl⟩
  rw [hX] at c1 l1 h1
  rw [hY] at c3 l0 h0
  have c2 := fun W (h : L W) => D.hex ⟨X.toArray⟩ W (by rw [str_size]; omega) h
  have c4 := fun W (h : L W) => D.hex ⟨Y.toArray⟩ W (by rw [str_size]; omega) h
  rw [str_list, h1] at c2
  rw [str_list, h0] at c4
  have c1 := Lib.hid c1
  have c2 := Lib.hid c2
  have c3 := Lib.hid c3
  have c4 := Lib.hid c4
  clear hX hY h1 h0
  go_enter Tryd.func11, Tryd.ntmps11
  go_wp2_with fail
  refine c1.out.mono ?_
  rintro e w1 ⟨rfl, hb1⟩
  have hL := D.keep hL0 hb1
  go_wp2_with fail
  refine (c2.out _ hL).mono ?_
  rintro e w2 ⟨rfl, hb2⟩
  have hL := D.keep hL hb2
  go_wp2_with fail
  refine (c3.out _ hL).mono ?_
  rintro e w3 ⟨rfl, hb3⟩
  have hL := D.keep hL hb3
  go_wp2_with fail
  refine (c4.out _ hL).mono ?_
  rintro e w4 ⟨rfl, hb4⟩
  go_wp2
  go_ret
  exact ⟨rfl, chain (chain (chain hb1 hb2) hb3) hb4⟩
end Go.Proofs.YtkppepdniehoiaaDoor.B4
