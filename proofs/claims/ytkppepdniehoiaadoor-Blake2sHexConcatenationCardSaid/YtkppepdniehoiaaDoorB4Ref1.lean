/- The contracts of the reference's small functions of layer 4: rotate, digit, permutation, columns, Initial. -/
import Derived.Test.YtkppepdniehoiaaDoorRows
import Derived.Test.YtkppepdniehoiaaDoorMem
import Derived.Test.YtkppepdniehoiaaDoorB4Math
import Derived.BigQuiet
import Derived.Deep.QuietTactic
import Derived.WalkSpells
import Derived.WalkLawsBesides
import Derived.Laws.BitsAllLaws
import Derived.Lib.Hide
namespace Go.Proofs.YtkppepdniehoiaaDoor.B4
open Go.RowKit Mem
set_option linter.unusedVariables false

def wv (x : R) : Value := .int .u32 (x.toNat : Int)
def wvs (l : List R) : List Value := l.map wv
theorem wvs_len (l : List R) : (wvs l).length = l.length := by simp [wvs]
def av (l : List R) : Value := .agg (wvs l).toArray

theorem bor (x y : R) : bits .or .u32 (x.toNat : Int) (y.toNat : Int) = ((x ||| y).toNat : Int) := by
  rw [BitVec.toNat_or]
  exact u32_or_nat _ _ x.isLt y.isLt
theorem bxr (x y : R) : bits .xor .u32 (x.toNat : Int) (y.toNat : Int) = ((x ^^^ y).toNat : Int) := by
  rw [BitVec.toNat_xor]
  exact u32_xor_nat _ _ x.isLt y.isLt
theorem shr_nat (x : R) (r : Nat) : ((x >>> r).toNat : Int) = (x.toNat : Int) / 2 ^ r := by
  rw [BitVec.toNat_ushiftRight, Nat.shiftRight_eq_div_pow]
  simp
theorem shl_nat (x : R) (r : Nat) : ((x <<< r).toNat : Int) = (x.toNat : Int) * 2 ^ r % 4294967296 := by
  rw [BitVec.toNat_shiftLeft, Nat.shiftLeft_eq]
  simp
theorem ror_bits (x : R) (r : Nat) : bits .or .u32 ((x.toNat : Int) / 2 ^ r) ((x.toNat : Int) * 2 ^ (32 - r) % 4294967296) = ((ror x r).toNat : Int) := by
  rw [← shr_nat, ← shl_nat, bor]
  rfl

set_option maxHeartbeats 400000 in
theorem rrot16 (x : R) (w : World) : Calls Tryd.prog 33 #[.int .u32 (x.toNat : Int), .int .u64 16] w fun e w' => e = .returned (.int .u32 ((ror x 16).toNat : Int)) ∧ w = w' := by
  have hx := x.isLt
  have hb := ror_bits x 16
  obtain ⟨y, hy⟩ : ∃ y, ror x 16 = y := ⟨_, rfl⟩
  rw [hy] at hb ⊢
  have hb := Lib.hid hb
  go_enter Tryd.func33, Tryd.ntmps33
  go_wp2
  go_ret
  exact ⟨ret_i (by rw [← hb.out]; rfl), rfl⟩
set_option maxHeartbeats 400000 in
theorem rrot12 (x : R) (w : World) : Calls Tryd.prog 33 #[.int .u32 (x.toNat : Int), .int .u64 12] w fun e w' => e = .returned (.int .u32 ((ror x 12).toNat : Int)) ∧ w = w' := by
  have hx := x.isLt
  have hb := ror_bits x 12
  obtain ⟨y, hy⟩ : ∃ y, ror x 12 = y := ⟨_, rfl⟩
  rw [hy] at hb ⊢
  have hb := Lib.hid hb
  go_enter Tryd.func33, Tryd.ntmps33
  go_wp2
  go_ret
  exact ⟨ret_i (by rw [← hb.out]; rfl), rfl⟩
set_option maxHeartbeats 400000 in
theorem rrot8 (x : R) (w : World) : Calls Tryd.prog 33 #[.int .u32 (x.toNat : Int), .int .u64 8] w fun e w' => e = .returned (.int .u32 ((ror x 8).toNat : Int)) ∧ w = w' := by
  have hx := x.isLt
  have hb := ror_bits x 8
  obtain ⟨y, hy⟩ : ∃ y, ror x 8 = y := ⟨_, rfl⟩
  rw [hy] at hb ⊢
  have hb := Lib.hid hb
  go_enter Tryd.func33, Tryd.ntmps33
  go_wp2
  go_ret
  exact ⟨ret_i (by rw [← hb.out]; rfl), rfl⟩
set_option maxHeartbeats 400000 in
theorem rrot7 (x : R) (w : World) : Calls Tryd.prog 33 #[.int .u32 (x.toNat : Int), .int .u64 7] w fun e w' => e = .returned (.int .u32 ((ror x 7).toNat : Int)) ∧ w = w' := by
  have hx := x.isLt
  have hb := ror_bits x 7
  obtain ⟨y, hy⟩ : ∃ y, ror x 7 = y := ⟨_, rfl⟩
  rw [hy] at hb ⊢
  have hb := Lib.hid hb
  go_enter Tryd.func33, Tryd.ntmps33
  go_wp2
  go_ret
  exact ⟨ret_i (by rw [← hb.out]; rfl), rfl⟩

set_option maxHeartbeats 400000 in
theorem rdigit_any (c : UInt8) (w : World) (h : 48 ≤ c.toNat) : Calls Tryd.prog 28 #[.int .u8 (c.toNat : Int)] w fun e w' => e = .returned (.int .i64 (dgt c : Int)) ∧ w = w' := by
  have hc := c.toNat_lt
  by_cases h97 : 97 ≤ c.toNat
  · have hd : decide ((97 : Int) ≤ (c.toNat : Int)) = true := decide_eq_true (by omega)
    have hr := Lib.hid (show (dgt c : Int) = (c.toNat : Int) - 87 by unfold dgt; rw [if_pos h97]; omega)
    go_enter Tryd.func28, Tryd.ntmps28
    go_wp2
    go_ret
    exact ⟨ret_i hr.out.symm, rfl⟩
  · have hd : decide ((97 : Int) ≤ (c.toNat : Int)) = false := decide_eq_false (by omega)
    have hr := Lib.hid (show (dgt c : Int) = (c.toNat : Int) - 48 by unfold dgt; rw [if_neg h97]; omega)
    go_enter Tryd.func28, Tryd.ntmps28
    go_wp2
    go_ret
    exact ⟨ret_i hr.out.symm, rfl⟩

set_option maxHeartbeats 1000000 in
theorem rperm_any (r : Nat) (w : World) (h : r < 10) : Calls Tryd.prog 25 #[.int .i64 (r : Int)] w fun e w' => e = .returned (.string ⟨(permS r).toArray⟩) ∧ w = w' := by
  match r, h with
  | 0, _ | 1, _ | 2, _ | 3, _ | 4, _ | 5, _ | 6, _ | 7, _ | 8, _ | 9, _ =>
    go_enter Tryd.func25, Tryd.ntmps25
    go_wp2
    go_ret
    exact ⟨rfl, rfl⟩

theorem info_4i : (Tryd.prog.info? 50).map (·.size) = some 4 := by kernel_rfl
theorem info_8w : (Tryd.prog.info? 32).map (·.size) = some 8 := by kernel_rfl
theorem info_16w : (Tryd.prog.info? 48).map (·.size) = some 16 := by kernel_rfl
/-- Four indices as an array of ints. -/
def iv4 (l : List Nat) : Value := .agg (nats l).toArray
set_option maxHeartbeats 1000000 in
theorem rcol_any (k : Nat) (w : World) (h : k < 8) : Calls Tryd.prog 26 #[.int .i64 (k : Int)] w fun e w' => e = .returned (iv4 (colL k)) ∧ Below w.heap.size w w' := by
  match k, h with
  | 0, _ | 1, _ | 2, _ | 3, _ | 4, _ | 5, _ | 6, _ | 7, _ =>
    go_enter Tryd.func26, Tryd.ntmps26
    go_wp2
    exact bodyPost_ret (results_cell_row rfl _ _ w.heap.size 50 _ (0, 0) _ rfl (heap_alloc_new w _) Tryd.underlying50 rfl info_4i) rfl ⟨rfl, (Below.refl _ _).alloc (Nat.le_refl _) _⟩

set_option maxHeartbeats 1000000 in
theorem rinit_any (w : World) : Calls Tryd.prog 17 #[] w fun e w' => e = .returned (av ivL) ∧ Below w.heap.size w w' := by
  go_enter Tryd.func17, Tryd.ntmps17
  go_wp2
  exact bodyPost_ret (results_cell_row rfl _ _ w.heap.size 32 _ (0, 0) _ rfl (heap_alloc_new w _) Tryd.underlying32 rfl info_8w) rfl ⟨rfl, (Below.refl _ _).alloc (Nat.le_refl _) _⟩
end Go.Proofs.YtkppepdniehoiaaDoor.B4
