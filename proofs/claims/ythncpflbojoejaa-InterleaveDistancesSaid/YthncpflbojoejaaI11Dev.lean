/- What the laws of layer 11 take of the package's own functions, as one structure; the laws' helper awake. -/
import Derived.DataShut
import Derived.Test.YthncpflbojoejaaRows
import Derived.Test.YthncpflbojoejaaI11Con
import Derived.Lib.Hide
import Derived.WalkKit
import Derived.BigQuiet
import Derived.Deep.QuietTactic
import Derived.Deep.RegionHeld3
import Derived.WalkSpells
import Derived.WalkLawsBesides
namespace Go.Proofs.Ythncpflbojoejaa.I11
open Go.RowKit Mem
set_option linter.unusedVariables false
set_option linter.unusedSimpArgs false

theorem str_beq_no {a b : ByteArray} (h : ¬ a = b) : (a.toList == b.toList) = false := beq_eq_false_iff_ne.2 fun e => h (by
  rw [ByteArray.toList_eq, ByteArray.toList_eq] at e
  exact ByteArray.ext (Array.toList_inj.1 e))
theorem str_beq_yes {a b : ByteArray} (h : a = b) : (a.toList == b.toList) = true := by
  rw [h]
  exact beq_self_eq_true _
/-- The contracts of the package's functions. -/
structure Dev : Prop where
  inter : ∀ (c : ByteArray) (r : Int) (w : World), c.size ≤ 100000 → -9223372036854775808 ≤ r → r ≤ 9223372036854775807 → Calls Try.prog 12 #[.string c, .int .i64 r] w (Iled c r w)
  deinter : ∀ (c : ByteArray) (r : Int) (w : World), c.size ≤ 100000 → -9223372036854775808 ≤ r → r ≤ 9223372036854775807 → Calls Try.prog 14 #[.string c, .int .i64 r] w (Dled c r w)
  index : ∀ (i n r : Int) (w : World), -9223372036854775808 ≤ i → i ≤ 9223372036854775807 → -9223372036854775808 ≤ n → n ≤ 9223372036854775807 → -9223372036854775808 ≤ r → r ≤ 9223372036854775807 → Calls Try.prog 16 #[.int .i64 i, .int .i64 n, .int .i64 r] w (Ixed i n r w)
theorem Dev.inter_as (D : Dev) {c S : ByteArray} {r k : Int} (hc : c.size ≤ 100000) (r1 : -9223372036854775808 ≤ r) (r2 : r ≤ 9223372036854775807) (h1 : iS c r = S) (h2 : pE r = k) (w : World) : Calls Try.prog 12 #[.string c, .int .i64 r] w fun e w' =>
    e = .returned (.tuple #[.string S, .int .i64 k]) ∧ Below w.heap.size w w' := by
  have h := D.inter c r w hc r1 r2
  unfold Iled at h
  rw [h1, h2] at h
  exact h
theorem Dev.deinter_as (D : Dev) {c S : ByteArray} {r k : Int} (hc : c.size ≤ 100000) (r1 : -9223372036854775808 ≤ r) (r2 : r ≤ 9223372036854775807) (h1 : dS c r = S) (h2 : pE r = k) (w : World) : Calls Try.prog 14 #[.string c, .int .i64 r] w fun e w' =>
    e = .returned (.tuple #[.string S, .int .i64 k]) ∧ Below w.heap.size w w' := by
  have h := D.deinter c r w hc r1 r2
  unfold Dled at h
  rw [h1, h2] at h
  exact h
theorem Dev.index_as (D : Dev) {i n r k f : Int} (i1 : -9223372036854775808 ≤ i) (i2 : i ≤ 9223372036854775807) (n1 : -9223372036854775808 ≤ n) (n2 : n ≤ 9223372036854775807) (r1 : -9223372036854775808 ≤ r) (r2 : r ≤ 9223372036854775807) (h1 : ixN i n r = k) (h2 : ixE i n r = f) (w : World) : Calls Try.prog 16 #[.int .i64 i, .int .i64 n, .int .i64 r] w fun e w' =>
    e = .returned (.tuple #[.int .i64 k, .int .i64 f]) ∧ ∃ q, w' = w.drewN q := by
  have h := D.index i n r w i1 i2 n1 n2 r1 r2
  unfold Ixed at h
  rw [h1, h2] at h
  exact h
set_option maxRecDepth 100000 in
set_option maxHeartbeats 2000000 in
theorem awake_any (D : Dev) (w : World) : Calls Try.prog 11 #[] w fun e w' => e = .returned (.bool true) ∧ Below w.heap.size w w' := by
  have c1 := Lib.hid (fun W => D.inter_as (c := ⟨#[97, 98, 99, 100, 101, 102, 103]⟩) (S := ⟨#[97, 100, 103, 98, 101, 99, 102]⟩) (r := 3) (k := 0) (by decide) (by decide) (by decide) (by decide +kernel) (by decide +kernel) W)
  have c2 := Lib.hid (fun W => D.index_as (i := 5) (n := 7) (r := 3) (k := 6) (f := 0) (by decide) (by decide) (by decide) (by decide) (by decide) (by decide) (by decide +kernel) (by decide +kernel) W)
  go_enter Try.func11, Try.ntmps11
  go_wp2_with fail
  refine (c1.out _).mono ?_
  rintro e w1 ⟨rfl, hB⟩
  go_wp2_with fail
  refine (c2.out _).mono ?_
  rintro e w2 ⟨rfl, q, rfl⟩
  replace hB := chainN hB q
  go_wp2
  go_ret
  exact ⟨rfl, hB⟩
/-- Strings by their bytes. -/
theorem str_eq {a b : ByteArray} (h : a.data.toList = b.data.toList) : a = b := ByteArray.ext (Array.toList_inj.1 h)
theorem size_list (a : ByteArray) : a.data.toList.length = a.size := by simp
theorem iS_size (c : ByteArray) {r : Nat} (h : 1 ≤ r) : (iS c (r : Int)).size = c.size := by
  rw [iS_at h]
  show (il r c.data.toList).length = _
  rw [il_len, size_list]
theorem dS_size (c : ByteArray) {r : Nat} (h : 1 ≤ r) : (dS c (r : Int)).size = c.size := by
  rw [dS_at h]
  show (dl r c.data.toList).length = _
  rw [dl_len, size_list]
theorem dS_iS (c : ByteArray) {r : Nat} (h : 1 ≤ r) : dS (iS c (r : Int)) (r : Int) = c := by
  rw [iS_at h, dS_at h]
  refine str_eq ?_
  show dl r (il r c.data.toList) = _
  rw [dl_il h]
theorem iS_dS (c : ByteArray) {r : Nat} (h : 1 ≤ r) : iS (dS c (r : Int)) (r : Int) = c := by
  rw [dS_at h, iS_at h]
  refine str_eq ?_
  show il r (dl r c.data.toList) = _
  rw [il_dl h]
end Go.Proofs.Ythncpflbojoejaa.I11
