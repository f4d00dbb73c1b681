/- Literal of any number of 32 bits, in worlds that hold the table of powers of ten. -/
import Derived.Test.YtfdlgdgjbfoogaaDoorM17LitS
import Derived.Test.YtfdlgdgjbfoogaaDoorLift
import Derived.Lib.AppendIntMem
import Derived.Lib.ItoaMem
import Derived.Lib.LaidTab
import Derived.Stop.LaidErr
import Derived.WalkSmall
namespace Go.Proofs.YtfdlgdgjbfoogaaDoor.M17
set_option maxRecDepth 100000
open Go.RowKit Mem Go.Sort Go.Shelf
set_option linter.unusedVariables false
set_option linter.unusedSimpArgs false

/-- The table of powers of ten is in the world. -/
def Laid (w : World) : Prop := Lib.TabIs Tryd.prog w "internal/strconv.uint64pow10" .u64 Lib.pow10Tab
theorem gPow : Tryd.prog.globalNamed "internal/strconv.uint64pow10" = some 0 := by kernel_rfl
theorem Laid.below {w w' : World} (h : Laid w) (k : Below w.heap.size w w') : Laid w' := by
  unfold Laid Lib.TabIs at h ⊢
  have hlt : 0 < w.heap.size := World.block_lt_of_cell? _ _ (World.var?_cell gPow h 0)
  exact var?_below k gPow hlt h
theorem tPow : (Tryd.prog.globals[0]?).map (·.type) = some 92 := by kernel_rfl
theorem cPow : Tryd.prog.cellsOf 92 = 20 := by kernel_rfl
theorem cU64 : Tryd.prog.cellsOf 42 = 1 := by kernel_rfl
theorem laid_of {W : World} (h : laidMetH Tryd.prog Rows.machineTextsRow.laid W) : Laid W := by
  rw [MakeChecks.laidMetH_plain _ _ _ (by kernel_rfl)] at h
  have h3 : laidMet Tryd.prog (("internal/strconv.uint64pow10", Lib.tabData .u64 Lib.pow10Tab) :: []) W := h.tail.tail
  exact Lib.tabIs_of_head gPow tPow Tryd.underlying92 Tryd.underlying42 cU64 cPow h3
set_option maxHeartbeats 8000000 in
theorem fmt_big (u : Nat) (hu : 100 ≤ u) (hu64 : u < 18446744073709551616) (w : World) (htab : Laid w) : Calls Tryd.prog 27 #[.int .u64 (u : Int), .int .i64 10] w fun e w' => e = .returned (.string ⟨(Lib.decDigits u).toArray⟩) ∧ Below w.heap.size w w' := by
  have hu1 : 1 ≤ u := by omega
  have hnd20 : Lib.nDigits u ≤ 20 := by have := Lib.numDigits_eq u hu1 hu64; split at this <;> omega
  have hb3 : Lib.nDigits u ≤ 24 := by omega
  have hal : Tryd.prog.arrayLen 77 = 24 := by simp [Program.arrayLen, Tryd.underlying77]
  have hsl : ∀ W, (Instr.sliceAt 77 (.pointer (some ⟨w.heap.size, 0, none⟩)) none (some (.int .i64 (Lib.nDigits u : Int))) none).run Tryd.prog W = .ok (.slice (some ⟨w.heap.size, 0, none⟩) (Lib.nDigits u) 24) W := fun W => by
    rw [run_sliceAt_array_h W 77 ⟨w.heap.size, 0, none⟩ (by simp [Program.arrayLen, Program.elem, Tryd.underlying77]) .i64 (Lib.nDigits u : Int) (by omega) (by rw [hal]; omega)]
    go_simp
  have hH0 := Lib.holds_zero0 w 77 (Lib.nDigits u) (by omega)
  have hfmt := Tryd.internal_strconv_formatBase10 w.heap.size 0 24 u (Array.replicate (Lib.nDigits u) 0) (w.alloc (.cells Lib.zeros24 77)) hH0 (by rw [Array.size_replicate]; exact Lib.lt_pow_nDigits u) hu64 (by rw [Array.size_replicate]; omega)
  rw [Array.size_replicate] at hfmt
  have hnum := Tryd.internal_strconv_numDigits u hu1 hu64 (w.alloc (.cells Lib.zeros24 77)) (Lib.tabIs_alloc htab _)
  have HH0 := Lib.hid hH0
  have d1 : decide ((u : Int) < 100) = false := decide_eq_false (by omega)
  have d2 : decide (u < 100) = false := decide_eq_false (by omega)
  replace hfmt := Lib.hid hfmt
  replace hnum := Lib.hid hnum
  clear hH0 hal htab hu1 hu
  go_enter Tryd.func27, Tryd.ntmps27
  go_wp2_with fail
  refine (hnum.out).mono ?_
  rintro e w' ⟨rfl, rfl⟩
  go_wp2_with fail
  refine (hfmt.out).mono ?_
  rintro e w' ⟨rfl, k, v', dk, rfl, hF⟩
  have hcv : (convert 37 9 (.slice (some ⟨w.heap.size, 0, none⟩) (Lib.nDigits u) 24)).run Tryd.prog ((putRow (fun (b : UInt8) => Value.int .u8 (b.toNat : Int)) (w.alloc (.cells Lib.zeros24 77)) w.heap.size 0 dk).drewN k) = .ok (.string ⟨(Lib.decDigits u).toArray⟩) ((putRow (fun (b : UInt8) => Value.int .u8 (b.toNat : Int)) (w.alloc (.cells Lib.zeros24 77)) w.heap.size 0 dk).drewN k) := by
    have h := run_convert_bytes_back (P := Tryd.prog) ((putRow (fun (b : UInt8) => Value.int .u8 (b.toNat : Int)) (w.alloc (.cells Lib.zeros24 77)) w.heap.size 0 dk).drewN k) 37 9 5 ⟨w.heap.size, 0, none⟩ 24 (Lib.decDigits u) Tryd.underlying37 Tryd.underlying5 Tryd.underlying9 (fun j hj => by
      rw [Lib.row_is_numeral hF j hj, Lib.add_plain, World.cell?_drewN]
      exact cell?_putRow (fun (b : UInt8) => Value.int .u8 (b.toNat : Int)) _ w.heap.size 0 _ dk HH0.out (by rw [hF.size, Array.size_replicate]) j (by rw [hF.size]; rw [Lib.decDigits_length] at hj; exact hj))
    rw [Lib.decDigits_length] at h
    exact h
  obtain ⟨os, eo⟩ := Lib.fin_at w (.cells Lib.zeros24 77) dk k 0
  have hb : Below w.heap.size w ((putRow (fun (b : UInt8) => Value.int .u8 (b.toNat : Int)) (w.alloc (.cells Lib.zeros24 77)) w.heap.size 0 dk).drewN k) := by rw [eo]; exact Lib.below_grow _ w (Nat.le_refl _) k os
  generalize (putRow (fun (b : UInt8) => Value.int .u8 (b.toNat : Int)) (w.alloc (.cells Lib.zeros24 77)) w.heap.size 0 dk).drewN k = W2 at hcv hb ⊢
  replace hb := Lib.hid hb
  clear eo HH0 hfmt hnum hF
  go_wp2
  first | go_ret | skip
  exact ⟨rfl, hb.out⟩
theorem fmt_any (u : Nat) (hu64 : u < 18446744073709551616) (w : World) (htab : Laid w) : Calls Tryd.prog 27 #[.int .u64 (u : Int), .int .i64 10] w fun e w' => e = .returned (.string ⟨((digs u).map UInt8.ofNat).toArray⟩) ∧ Below w.heap.size w w' := by
  by_cases hu : u < 100
  · exact fmt_in u hu w
  · rw [digs_dec]
    exact fmt_big u (by omega) hu64 w htab
set_option maxHeartbeats 2000000 in
theorem fmt_pub (n : Nat) (h : n < 18446744073709551616) (w : World) (htab : Laid w) : Calls Tryd.prog 15 #[.int .u64 (n : Int), .int .i64 10] w fun e w' => e = .returned (.string ⟨((digs n).map UInt8.ofNat).toArray⟩) ∧ Below w.heap.size w w' := by
  have cS := Lib.hid (fmt_any n h w htab)
  obtain ⟨D, hD⟩ : ∃ D : ByteArray, ⟨((digs n).map UInt8.ofNat).toArray⟩ = D := ⟨_, rfl⟩
  rw [hD] at cS ⊢
  go_enter Tryd.func15, Tryd.ntmps15
  go_wp2_with fail
  refine (cS.out).mono ?_
  rintro e w1 ⟨rfl, hw⟩
  go_wp2
  first | go_ret | skip
  exact ⟨rfl, hw⟩
set_option maxHeartbeats 2000000 in
theorem lit_any (n : Nat) (h : n < 4294967296) (w : World) (htab : Laid w) : Calls Tryd.prog 10 #[.int .u32 (n : Int)] w fun e w' => e = .returned (.string ⟨((digs n).map UInt8.ofNat).toArray⟩) ∧ Below w.heap.size w w' := by
  have cS := Lib.hid (fmt_pub n (by omega) w htab)
  obtain ⟨D, hD⟩ : ∃ D : ByteArray, ⟨((digs n).map UInt8.ofNat).toArray⟩ = D := ⟨_, rfl⟩
  rw [hD] at cS ⊢
  have n0 : (0 : Int) ≤ (n : Int) := by omega
  have n1 : (n : Int) < 4294967296 := by omega
  have t1 : IntKind.u64.wrap (n : Int) = (n : Int) := by rw [IntKind.wrap_u64]; omega
  go_enter Tryd.func10, Tryd.ntmps10
  go_wp2_with fail
  refine (cS.out).mono ?_
  rintro e w1 ⟨rfl, hw⟩
  go_wp2
  first | go_ret | skip
  exact ⟨rfl, hw⟩
end Go.Proofs.YtfdlgdgjbfoogaaDoor.M17
