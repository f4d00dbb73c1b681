/- What the laws of layer 12 take of the package's own functions, as one structure; the laws' helper alive. -/
import Derived.DataShut
import Derived.Test.YtpekdmplphpheaaM12Own2
import Derived.Deep.RegionHeld3
namespace Go.Proofs.Ytpekdmplphpheaa.M12
open Go.RowKit Mem
set_option linter.unusedVariables false
set_option linter.unusedSimpArgs false

theorem u8_of {a : Int} (h : (Lit.int .u8 a).wf = true) : ∃ x : UInt8, a = (x.toNat : Int) := by
  obtain ⟨h1, h2⟩ : 0 ≤ a ∧ a ≤ 255 := (Lit.wf_int_iff .u8 _).1 h
  refine ⟨UInt8.ofNat a.toNat, ?_⟩
  rw [UInt8.toNat_ofNat']
  omega
theorem str_beq_no {a b : ByteArray} (h : ¬ a = b) : (a.toList == b.toList) = false := beq_eq_false_iff_ne.2 fun e => h (by
  rw [ByteArray.toList_eq, ByteArray.toList_eq] at e
  exact ByteArray.ext (Array.toList_inj.1 e))
theorem str_beq_yes {a b : ByteArray} (h : a = b) : (a.toList == b.toList) = true := by
  rw [h]
  exact beq_self_eq_true _
/-- The contracts of the package's functions. -/
structure Dev : Prop where
  mark : ∀ (w : World), Calls Try.prog 15 #[] w fun e w' => e = .returned (.string mkB) ∧ w = w'
  plain : ∀ (w : World), Calls Try.prog 17 #[] w fun e w' => e = .returned (.string plB) ∧ w = w'
  dist : ∀ (c : ByteArray) (a : Int) (w : World), c.size ≤ 140737488351232 → -9223372036854775808 ≤ a → a ≤ 9223372036854775807 →
    Calls Try.prog 11 #[.string c, .int .i64 a] w fun e w' => e = .returned (.int .i64 (ds c.data.toList a : Int)) ∧ ∃ n, w' = w.drewN n
  isp : ∀ (c : ByteArray) (a : Int) (w : World), c.size ≤ 140737488351232 → -9223372036854775808 ≤ a → a ≤ 9223372036854775807 →
    Calls Try.prog 13 #[.string c, .int .i64 a] w fun e w' => e = .returned (.bool (pp c.data.toList a)) ∧ w = w'
  find : ∀ (c : ByteArray) (a : Int) (w : World), c.size ≤ 140737488351232 → -9223372036854775808 ≤ a → a ≤ 9223372036854775807 →
    Calls Try.prog 19 #[.string c, .int .i64 a] w fun e w' => e = .returned (.tuple #[.int .i64 (fdI c.data.toList a), .bool (fdB c.data.toList a)]) ∧ Below w.heap.size w w'
theorem Dev.dist_as (D : Dev) {c : ByteArray} {a : Int} {d : Nat} (hc : c.size ≤ 140737488351232) (a1 : -9223372036854775808 ≤ a) (a2 : a ≤ 9223372036854775807) (h : ds c.data.toList a = d) (w : World) :
    Calls Try.prog 11 #[.string c, .int .i64 a] w fun e w' => e = .returned (.int .i64 (d : Int)) ∧ ∃ n, w' = w.drewN n := by
  have := D.dist c a w hc a1 a2
  rwa [h] at this
theorem Dev.isp_as (D : Dev) {c : ByteArray} {a : Int} {b : Bool} (hc : c.size ≤ 140737488351232) (a1 : -9223372036854775808 ≤ a) (a2 : a ≤ 9223372036854775807) (h : pp c.data.toList a = b) (w : World) :
    Calls Try.prog 13 #[.string c, .int .i64 a] w fun e w' => e = .returned (.bool b) ∧ w = w' := by
  have := D.isp c a w hc a1 a2
  rwa [h] at this
theorem Dev.find_as (D : Dev) {c : ByteArray} {a i : Int} {b : Bool} (hc : c.size ≤ 140737488351232) (a1 : -9223372036854775808 ≤ a) (a2 : a ≤ 9223372036854775807) (h1 : fdI c.data.toList a = i) (h2 : fdB c.data.toList a = b) (w : World) :
    Calls Try.prog 19 #[.string c, .int .i64 a] w fun e w' => e = .returned (.tuple #[.int .i64 i, .bool b]) ∧ Below w.heap.size w w' := by
  have := D.find c a w hc a1 a2
  rwa [h1, h2] at this
set_option maxRecDepth 100000 in
set_option maxHeartbeats 2000000 in
theorem alive_any (D : Dev) (w : World) : Calls Try.prog 10 #[] w fun e w' => e = .returned (.bool true) ∧ Below w.heap.size w w' := by
  have c1 := Lib.hid (fun W => D.find_as (c := ⟨#[48, 49, 49, 49, 49, 49, 48, 48, 49, 49, 48, 49, 48, 49, 48, 48, 48]⟩) (a := 0) (i := 1) (b := true) (by decide) (by decide) (by decide) (by decide +kernel) (by decide +kernel) W)
  have c2 := Lib.hid (fun W => D.dist_as (c := ⟨#[]⟩) (a := 0) (d := 16) (by decide) (by decide) (by decide) (by decide +kernel) W)
  have c3 := Lib.hid (fun W => D.mark W)
  unfold mkB at c3
  go_enter Try.func10, Try.ntmps10
  go_wp2_with fail
  refine (c1.out _).mono ?_
  rintro e w1 ⟨rfl, hB⟩
  go_wp2_with fail
  refine (c2.out _).mono ?_
  rintro e w2 ⟨rfl, n, rfl⟩
  replace hB := chainN hB n
  go_wp2_with (go_at_call 15; refine (c3.out _).mono ?_; rintro e w1 ⟨rfl, rfl⟩)
  go_ret
  exact ⟨rfl, hB⟩
end Go.Proofs.Ytpekdmplphpheaa.M12
