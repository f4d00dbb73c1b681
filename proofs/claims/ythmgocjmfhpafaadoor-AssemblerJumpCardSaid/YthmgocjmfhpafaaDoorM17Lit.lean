/- Literal of any number of 32 bits, in worlds that hold the table of powers of ten. -/
import Derived.Test.YthmgocjmfhpafaaDoorM17LitS
import Derived.Test.YthmgocjmfhpafaaDoorM17Tab
import Derived.Test.YthmgocjmfhpafaaDoorLift
import Derived.Lib.AppendIntMem
import Derived.Lib.ItoaMem
import Derived.Lib.LaidTab
import Derived.Stop.LaidErr
import Derived.WalkSmall
namespace Go.Proofs.YthmgocjmfhpafaaDoor.M17
set_option maxRecDepth 100000
open Go.RowKit Mem Go.Sort Go.Shelf
set_option linter.unusedVariables false
set_option linter.unusedSimpArgs false

set_option maxHeartbeats 8000000 in
theorem fmt_big (u : Nat) (hu : 100 ≤ u) (hu64 : u < 18446744073709551616) (w : World) (htab : Laid w) : Calls Tryd.prog 81 #[.int .u64 (u : Int), .int .i64 10] w fun e w' => e = .returned (.string ⟨(Lib.decDigits u).toArray⟩) ∧ Below w.heap.size w w' := by
  have hu1 : 1 ≤ u := by omega
  have hnd20 : Lib.nDigits u ≤ 20 := by have := Lib.numDigits_eq u hu1 hu64; split at this <;> omega
  have hb3 : Lib.nDigits u ≤ 24 := by omega
  have hal : Tryd.prog.arrayLen 126 = 24 := by simp [Program.arrayLen, Tryd.underlying126]
  have hsl : ∀ W, (Instr.sliceAt 126 (.pointer (some ⟨w.heap.size, 0, none⟩)) none (some (.int .i64 (Lib.nDigits u : Int))) none).run Tryd.prog W = .ok (.slice (some ⟨w.heap.size, 0, none⟩) (Lib.nDigits u) 24) W := fun W => by
    rw [run_sliceAt_array_h W 126 ⟨w.heap.size, 0, none⟩ (by simp [Program.arrayLen, Program.elem, Tryd.underlying126]) .i64 (Lib.nDigits u : Int) (by omega) (by rw [hal]; omega)]
    go_simp
  have hH0 := Lib.holds_zero0 w 126 (Lib.nDigits u) (by omega)
  have hfmt := Tryd.internal_strconv_formatBase10 w.heap.size 0 24 u (Array.replicate (Lib.nDigits u) 0) (w.alloc (.cells Lib.zeros24 126)) hH0 (by rw [Array.size_replicate]; exact Lib.lt_pow_nDigits u) hu64 (by rw [Array.size_replicate]; omega)
  rw [Array.size_replicate] at hfmt
  have hnum := Tryd.internal_strconv_numDigits u hu1 hu64 (w.alloc (.cells Lib.zeros24 126)) (Lib.tabIs_alloc htab _)
  have HH0 := Lib.hid hH0
  have d1 : decide ((u : Int) < 100) = false := decide_eq_false (by omega)
  have d2 : decide (u < 100) = false := decide_eq_false (by omega)
  replace hfmt := Lib.hid hfmt
  replace hnum := Lib.hid hnum
  clear hH0 hal htab hu1 hu
  go_enter Tryd.func81, Tryd.ntmps81
  go_wp2_with fail
  refine (hnum.out).mono ?_
  rintro e w' ⟨rfl, rfl⟩
  go_wp2_with fail
  refine (hfmt.out).mono ?_
  rintro e w' ⟨rfl, k, v', dk, rfl, hF⟩
  have hcv : (convert 43 9 (.slice (some ⟨w.heap.size, 0, none⟩) (Lib.nDigits u) 24)).run Tryd.prog ((putRow (fun (b : UInt8) => Value.int .u8 (b.toNat : Int)) (w.alloc (.cells Lib.zeros24 126)) w.heap.size 0 dk).drewN k) = .ok (.string ⟨(Lib.decDigits u).toArray⟩) ((putRow (fun (b : UInt8) => Value.int .u8 (b.toNat : Int)) (w.alloc (.cells Lib.zeros24 126)) w.heap.size 0 dk).drewN k) := by
    have h := run_convert_bytes_back (P := Tryd.prog) ((putRow (fun (b : UInt8) => Value.int .u8 (b.toNat : Int)) (w.alloc (.cells Lib.zeros24 126)) w.heap.size 0 dk).drewN k) 43 9 5 ⟨w.heap.size, 0, none⟩ 24 (Lib.decDigits u) Tryd.underlying43 Tryd.underlying5 Tryd.underlying9 (fun j hj => by
      rw [Lib.row_is_numeral hF j hj, Lib.add_plain, World.cell?_drewN]
      exact cell?_putRow (fun (b : UInt8) => Value.int .u8 (b.toNat : Int)) _ w.heap.size 0 _ dk HH0.out (by rw [hF.size, Array.size_replicate]) j (by rw [hF.size]; rw [Lib.decDigits_length] at hj; exact hj))
    rw [Lib.decDigits_length] at h
    exact h
  obtain ⟨os, eo⟩ := Lib.fin_at w (.cells Lib.zeros24 126) dk k 0
  have hb : Below w.heap.size w ((putRow (fun (b : UInt8) => Value.int .u8 (b.toNat : Int)) (w.alloc (.cells Lib.zeros24 126)) w.heap.size 0 dk).drewN k) := by rw [eo]; exact Lib.below_grow _ w (Nat.le_refl _) k os
  generalize (putRow (fun (b : UInt8) => Value.int .u8 (b.toNat : Int)) (w.alloc (.cells Lib.zeros24 126)) w.heap.size 0 dk).drewN k = W2 at hcv hb ⊢
  replace hb := Lib.hid hb
  clear eo HH0 hfmt hnum hF
  go_wp2
  first | go_ret | skip
  exact ⟨rfl, hb.out⟩
theorem fmt_any (u : Nat) (hu64 : u < 18446744073709551616) (w : World) (htab : Laid w) : Calls Tryd.prog 81 #[.int .u64 (u : Int), .int .i64 10] w fun e w' => e = .returned (.string ⟨((digs u).map UInt8.ofNat).toArray⟩) ∧ Below w.heap.size w w' := by
  by_cases hu : u < 100
  · exact fmt_in u hu w
  · rw [digs_dec]
    exact fmt_big u (by omega) hu64 w htab
set_option maxHeartbeats 2000000 in
theorem fmt_pub (n : Nat) (h : n < 18446744073709551616) (w : World) (htab : Laid w) : Calls Tryd.prog 52 #[.int .u64 (n : Int), .int .i64 10] w fun e w' => e = .returned (.string ⟨((digs n).map UInt8.ofNat).toArray⟩) ∧ Below w.heap.size w w' := by
  have cS := Lib.hid (fmt_any n h w htab)
  obtain ⟨D, hD⟩ : ∃ D : ByteArray, ⟨((digs n).map UInt8.ofNat).toArray⟩ = D := ⟨_, rfl⟩
  rw [hD] at cS ⊢
  go_enter Tryd.func52, Tryd.ntmps52
  go_wp2_with fail
  refine (cS.out).mono ?_
  rintro e w1 ⟨rfl, hw⟩
  go_wp2
  first | go_ret | skip
  exact ⟨rfl, hw⟩
set_option maxHeartbeats 2000000 in
theorem lit_any (n : Nat) (h : n < 4294967296) (w : World) (htab : Laid w) : Calls Tryd.prog 25 #[.int .u32 (n : Int)] w fun e w' => e = .returned (.string ⟨((digs n).map UInt8.ofNat).toArray⟩) ∧ Below w.heap.size w w' := by
  have cS := Lib.hid (fmt_pub n (by omega) w htab)
  obtain ⟨D, hD⟩ : ∃ D : ByteArray, ⟨((digs n).map UInt8.ofNat).toArray⟩ = D := ⟨_, rfl⟩
  rw [hD] at cS ⊢
  have n0 : (0 : Int) ≤ (n : Int) := by omega
  have n1 : (n : Int) < 4294967296 := by omega
  have t1 : IntKind.u64.wrap (n : Int) = (n : Int) := by rw [IntKind.wrap_u64]; omega
  go_enter Tryd.func25, Tryd.ntmps25
  go_wp2_with fail
  refine (cS.out).mono ?_
  rintro e w1 ⟨rfl, hw⟩
  go_wp2
  first | go_ret | skip
  exact ⟨rfl, hw⟩
end Go.Proofs.YthmgocjmfhpafaaDoor.M17
