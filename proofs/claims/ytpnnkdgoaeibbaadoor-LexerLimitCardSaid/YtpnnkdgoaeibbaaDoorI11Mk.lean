/- 'make([]byte, n)': a new block of bytes. -/
import Derived.Test.YtpnnkdgoaeibbaaDoorRows
import Derived.Test.YtpnnkdgoaeibbaaDoorMem
import Derived.Lib.Hide
import Derived.WalkKit
import Derived.Laws.MakeOwn
import Derived.RangeFuncRecord
namespace Go.Proofs.YtpnnkdgoaeibbaaDoor.I11
open Go.RowKit Mem
set_option linter.unusedVariables false
set_option linter.unusedSimpArgs false

theorem info_byteI : (Tryd.prog.info? 5).map (fun i => (i.zero, i.size, i.bytes)) = some (some (.int .u8 0), 1, 1) := by kernel_rfl
theorem make_bytesI (w : World) (n : Nat) (h : n ≤ 1000000) : ∃ l : List Value, l = bys (List.replicate n 0) ∧ (Instr.makeSlice 23 (.int .i64 (n : Int)) (.int .i64 (n : Int))).run Tryd.prog w = .ok (.slice (some ⟨w.heap.size, 0, none⟩) n n) (w.alloc (.cells l.toArray 5)) := by
  obtain ⟨i0, hi, hz0, hz1, hz2⟩ := info_parts info_byteI
  have hr := run_make (P := Tryd.prog) w 23 5 i0 _ Tryd.underlying23 hi hz0 .i64 .i64 (n : Int) (n : Int) (by omega) (Int.le_refl _) (by rw [hz2]; omega) (by omega)
  simp only [Int.toNat_natCast] at hr
  rw [hz1] at hr
  refine ⟨_, rfl, ?_⟩
  rw [Nat.mul_one] at hr
  have e : (madeCells (Value.int .u8 0).cells n) = (bys (List.replicate n 0)).toArray := by
    apply Array.toList_inj.1
    apply List.ext_getElem
    · simp [size_madeCells, bys]
    · intro i h1 h2
      simp [madeCells, Value.cells, bys]
      rw [Nat.mod_one]
      rfl
  rw [e] at hr
  exact hr
theorem blk_bat {W : World} {g : Nat} {l : List UInt8} {T : TypeId} (h : W.heap[g]? = some (.cells (bys l).toArray T (0, 0))) : BAt W g l := fun j hj => by
  have q := bys_get l j hj
  refine ⟨?_, ?_⟩
  · simp [World.cell?, h, q]
  · simp [World.frozen?, h]
theorem made_at (w : World) (T : TypeId) (l : List UInt8) : BAt (w.alloc (.cells (bys l).toArray T)) w.heap.size l := blk_bat (World.alloc_heap_new w (.cells (bys l).toArray T))
end Go.Proofs.YtpnnkdgoaeibbaaDoor.I11
