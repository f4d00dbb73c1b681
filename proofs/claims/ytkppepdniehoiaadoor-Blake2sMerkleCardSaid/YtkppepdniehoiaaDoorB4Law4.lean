/- The walks of the laws Blake2sDigest, Blake2sMerkle, under the package's contracts. -/
import Derived.Test.YtkppepdniehoiaaDoorB4Ref6
namespace Go.Proofs.YtkppepdniehoiaaDoor.B4
open Go.RowKit Mem
set_option linter.unusedVariables false
set_option linter.unusedSimpArgs false
variable {L : World → Prop}

theorem gr_small {l : List (List UInt8)} (h : ¬ gr l = 1) : gr l = 0 ∧ l.length ≤ 40 ∧ totl l ≤ 2000 := by
  unfold gr at h ⊢
  by_cases h1 : l.length ≤ 40 ∧ totl l ≤ 2000
  · exact ⟨if_pos h1, h1.1, h1.2⟩
  · rw [if_neg h1] at h
    exact absurd rfl h

set_option maxHeartbeats 1000000 in
theorem walk_digest (D : Dev L) (A : Option Addr) (len cap : Nat) (l : List (List UInt8)) (w : World) (hL0 : L w) (hl : IsStrs w A len cap l) (hx : ∀ x ∈ l, x.length ≤ 9223372036854775807) :
    Calls Tryd.prog 3 #[.slice A len cap] w fun e w' => e = .returned (.bool true) ∧ Below w.heap.size w w' := by
  obtain ⟨rfl, hle, hcap, hnil, hrd⟩ := hl
  have c1 := fun (W : World) (hW : Below w.heap.size w W) => rgreat_any A cap l W hle hcap hx (hrd.below hW)
  by_cases hg : gr l = 1
  · rw [hg] at c1
    have c1 := Lib.hid c1
    clear hx hrd hnil hg
    go_enter Tryd.func3, Tryd.ntmps3
    go_wp2_with fail
    refine (alive_any D _ hL0).mono ?_
    rintro e w1 ⟨rfl, hb1⟩
    go_wp2_with fail
    refine (c1.out _ hb1).mono ?_
    rintro e w2 ⟨rfl, rfl⟩
    go_wp2
    go_ret
    exact ⟨rfl, hb1⟩
  · obtain ⟨hg0, h40, h2000⟩ := gr_small hg
    rw [hg0] at c1
    have c2 := fun (W : World) (hW : Below w.heap.size w W) => D.sum A cap l W (by omega) (by omega) hle hcap (hrd.below hW) (D.keep hL0 hW)
    have c3 := fun (W : World) (hW : Below w.heap.size w W) => rsum_any A cap l W (by omega) (by omega) hle hcap (hrd.below hW)
    have c1 := Lib.hid c1
    have c2 := Lib.hid c2
    have c3 := Lib.hid c3
    clear hx hrd hnil hg hg0
    go_enter Tryd.func3, Tryd.ntmps3
    go_wp2_with fail
    refine (alive_any D _ hL0).mono ?_
    rintro e w1 ⟨rfl, hb1⟩
    go_wp2_with fail
    refine (c1.out _ hb1).mono ?_
    rintro e w2 ⟨rfl, rfl⟩
    go_wp2_with fail
    refine (c2.out _ hb1).mono ?_
    rintro e w3 ⟨rfl, hb3⟩
    have hb3 := chain hb1 hb3
    go_wp2_with fail
    refine (c3.out _ hb3).mono ?_
    rintro e w4 ⟨rfl, hb4⟩
    go_wp2
    go_ret
    exact ⟨ret_bool (by simp), chain hb3 hb4⟩

set_option maxHeartbeats 1000000 in
theorem walk_merkle (D : Dev L) (A : Option Addr) (len cap : Nat) (l : List (List UInt8)) (w : World) (hL0 : L w) (hl : IsStrs w A len cap l) (hx : ∀ x ∈ l, x.length ≤ 9223372036854775807) :
    Calls Tryd.prog 8 #[.slice A len cap] w fun e w' => e = .returned (.bool true) ∧ Below w.heap.size w w' := by
  obtain ⟨rfl, hle, hcap, hnil, hrd⟩ := hl
  have c1 := fun (W : World) (hW : Below w.heap.size w W) => rgreat_any A cap l W hle hcap hx (hrd.below hW)
  by_cases hg : gr l = 1
  · rw [hg] at c1
    have c1 := Lib.hid c1
    clear hx hrd hnil hg
    go_enter Tryd.func8, Tryd.ntmps8
    go_wp2_with fail
    refine (alive_any D _ hL0).mono ?_
    rintro e w1 ⟨rfl, hb1⟩
    go_wp2_with fail
    refine (c1.out _ hb1).mono ?_
    rintro e w2 ⟨rfl, rfl⟩
    go_wp2
    go_ret
    exact ⟨rfl, hb1⟩
  · obtain ⟨hg0, h40, h2000⟩ := gr_small hg
    rw [hg0] at c1
    have c2 := fun (W : World) (hW : Below w.heap.size w W) => D.merkle A cap l W (by omega) (by omega) hle hcap (hrd.below hW) (D.keep hL0 hW)
    have c3 := fun (W : World) (hW : Below w.heap.size w W) => rmerkle_any A cap l W (by omega) (by omega) hle hcap (hrd.below hW)
    have c1 := Lib.hid c1
    have c2 := Lib.hid c2
    have c3 := Lib.hid c3
    clear hx hrd hnil hg hg0
    go_enter Tryd.func8, Tryd.ntmps8
    go_wp2_with fail
    refine (alive_any D _ hL0).mono ?_
    rintro e w1 ⟨rfl, hb1⟩
    go_wp2_with fail
    refine (c1.out _ hb1).mono ?_
    rintro e w2 ⟨rfl, rfl⟩
    go_wp2_with fail
    refine (c2.out _ hb1).mono ?_
    rintro e w3 ⟨rfl, hb3⟩
    have hb3 := chain hb1 hb3
    go_wp2_with fail
    refine (c3.out _ hb3).mono ?_
    rintro e w4 ⟨rfl, hb4⟩
    go_wp2
    go_ret
    exact ⟨ret_bool (by simp), chain hb3 hb4⟩
end Go.Proofs.YtkppepdniehoiaaDoor.B4
