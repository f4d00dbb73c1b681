/- Literal of a number below 100. -/
import Derived.Test.YthmgocjmfhpafaaDoorShelf
import Derived.Test.YthmgocjmfhpafaaDoorMem
import Derived.Test.YthmgocjmfhpafaaDoorM17Lin
import Derived.WalkKit
import Derived.Below
import Derived.Lib.Hide
namespace Go.Proofs.YthmgocjmfhpafaaDoor.M17
set_option maxRecDepth 100000
open Go.RowKit Mem
set_option linter.unusedVariables false
set_option linter.unusedSimpArgs false

theorem digs_dec (n : Nat) : (digs n).map UInt8.ofNat = Lib.decDigits n := by
  induction n using Nat.strongRecOn with
  | _ n ih =>
    rw [digs, Lib.decDigits]
    by_cases h : n < 10
    · rw [if_pos h, dif_pos h]; rfl
    · rw [if_neg h, dif_neg h, List.map_append, ih (n / 10) (by omega)]; rfl
set_option maxHeartbeats 2000000 in
theorem fmt_in (n : Nat) (h : n < 100) (w : World) : Calls Tryd.prog 81 #[.int .u64 (n : Int), .int .i64 10] w fun e w' => e = .returned (.string ⟨((digs n).map UInt8.ofNat).toArray⟩) ∧ Below w.heap.size w w' := by
  have cS := fun W => Tryd.internal_strconv_small n h W
  obtain ⟨D, hD⟩ : ∃ D : ByteArray, ⟨((digs n).map UInt8.ofNat).toArray⟩ = D := ⟨_, rfl⟩
  rw [digs_dec] at hD
  rw [digs_dec, hD]
  have n0 : (0 : Int) ≤ (n : Int) := by omega
  have n1 : (n : Int) < 100 := by omega
  have d1 : decide ((n : Int) < 100) = true := decide_eq_true n1
  try rw [hD] at cS
  replace cS := Lib.hid cS
  go_enter Tryd.func81, Tryd.ntmps81
  go_wp2_with fail
  refine (cS.out _).mono ?_
  rintro e w1 ⟨rfl, hw⟩
  go_wp2
  first | go_ret | skip
  first | exact ⟨rfl, hw ▸ Below.refl _ _⟩ | exact ⟨rfl, hw⟩
set_option maxHeartbeats 2000000 in
theorem fmt_out (n : Nat) (h : n < 100) (w : World) : Calls Tryd.prog 52 #[.int .u64 (n : Int), .int .i64 10] w fun e w' => e = .returned (.string ⟨((digs n).map UInt8.ofNat).toArray⟩) ∧ Below w.heap.size w w' := by
  have cS := Lib.hid (fun W => fmt_in n h W)
  obtain ⟨D, hD⟩ : ∃ D : ByteArray, ⟨((digs n).map UInt8.ofNat).toArray⟩ = D := ⟨_, rfl⟩
  rw [hD] at cS ⊢
  go_enter Tryd.func52, Tryd.ntmps52
  go_wp2_with fail
  refine (cS.out _).mono ?_
  rintro e w1 ⟨rfl, hw⟩
  go_wp2
  first | go_ret | skip
  exact ⟨rfl, hw⟩
set_option maxHeartbeats 2000000 in
theorem lit_small (n : Nat) (h : n < 100) (w : World) : Calls Tryd.prog 25 #[.int .u32 (n : Int)] w fun e w' => e = .returned (.string ⟨((digs n).map UInt8.ofNat).toArray⟩) ∧ Below w.heap.size w w' := by
  have cS := Lib.hid (fun W => fmt_out n h W)
  obtain ⟨D, hD⟩ : ∃ D : ByteArray, ⟨((digs n).map UInt8.ofNat).toArray⟩ = D := ⟨_, rfl⟩
  rw [hD] at cS ⊢
  have n0 : (0 : Int) ≤ (n : Int) := by omega
  have n1 : (n : Int) < 100 := by omega
  have t1 : IntKind.u64.wrap (n : Int) = (n : Int) := by rw [IntKind.wrap_u64]; omega
  go_enter Tryd.func25, Tryd.ntmps25
  go_wp2_with fail
  refine (cS.out _).mono ?_
  rintro e w1 ⟨rfl, hw⟩
  go_wp2
  first | go_ret | skip
  exact ⟨rfl, hw⟩
end Go.Proofs.YthmgocjmfhpafaaDoor.M17
