/- What the laws of layer 10 take of the package's own functions, as one structure; the laws' helper awake. -/
import Derived.DataShut
import Derived.Test.YtmkmikegddafdaaRows
import Derived.Test.YtmkmikegddafdaaMem
import Derived.Test.YtmkmikegddafdaaV10Con
import Derived.Lib.Hide
import Derived.WalkKit
import Derived.BigQuiet
import Derived.Deep.QuietTactic
import Derived.Deep.RegionHeld3
import Derived.WalkSpells
import Derived.WalkLawsBesides
namespace Go.Proofs.Ytmkmikegddafdaa.V10
open Go.RowKit Mem C9
set_option linter.unusedVariables false
set_option linter.unusedSimpArgs false

def cA (c : ByteArray) (k : Int) (s1 s2 : Bool) : Int := if cE c k = 0 then cg c k.toNat s1 s2 else 0
def Cost (c : ByteArray) (k : Int) (w : World) (e : Ending) (w' : World) : Prop :=
  e = .returned (.tuple #[.agg #[.int .i64 (cA c k false false), .int .i64 (cA c k false true), .int .i64 (cA c k true false), .int .i64 (cA c k true true)], .int .i64 (cE c k)]) ∧ Below w.heap.size w w'
/-- The contracts of the package's functions. -/
structure Dev : Prop where
  decode : ∀ (c : ByteArray) (w : World), c.size ≤ 4000 → Calls Try.prog 12 #[.string c] w (Deco c w)
  costs : ∀ (c : ByteArray) (k : Int) (w : World), c.size ≤ 1000 → -9223372036854775808 ≤ k → k ≤ 9223372036854775807 → Calls Try.prog 14 #[.string c, .int .i64 k] w (Cost c k w)
theorem Dev.decode_as (D : Dev) {c S : ByteArray} {n k : Int} {b : Bool} (hc : c.size ≤ 4000) (h1 : dS c = S) (h2 : dN c = n) (h3 : dB c = b) (h4 : eB c = k) (w : World) : Calls Try.prog 12 #[.string c] w fun e w' =>
    e = .returned (.tuple #[.string S, .int .i64 n, .bool b, .int .i64 k]) ∧ Below w.heap.size w w' := by
  have h := D.decode c w hc
  unfold Deco at h
  rw [h1, h2, h3, h4] at h
  exact h
set_option maxRecDepth 100000 in
set_option maxHeartbeats 2000000 in
theorem awake_any (D : Dev) (w : World) : Calls Try.prog 11 #[] w fun e w' => e = .returned (.bool true) ∧ Below w.heap.size w w' := by
  have c1 := Lib.hid (fun W => D.decode_as (c := ⟨#[49, 49, 48, 48, 49, 49]⟩) (S := ⟨#[49]⟩) (n := 1) (b := true) (k := 0) (by decide) (by decide +kernel) (by decide +kernel) (by decide +kernel) (by decide +kernel) W)
  have c2 := Lib.hid (fun W => D.decode_as (c := ⟨#[63, 63, 63, 63, 63, 63]⟩) (S := ⟨#[48]⟩) (n := 0) (b := false) (k := 0) (by decide) (by decide +kernel) (by decide +kernel) (by decide +kernel) (by decide +kernel) W)
  go_enter Try.func11, Try.ntmps11
  go_wp2_with fail
  refine (c1.out _).mono ?_
  rintro e w1 ⟨rfl, hB⟩
  go_wp2_with fail
  refine (c2.out _).mono ?_
  rintro e w2 ⟨rfl, hb⟩
  replace hB := chain hB hb
  clear hb
  go_wp2
  go_ret
  exact ⟨rfl, hB⟩
end Go.Proofs.Ytmkmikegddafdaa.V10
