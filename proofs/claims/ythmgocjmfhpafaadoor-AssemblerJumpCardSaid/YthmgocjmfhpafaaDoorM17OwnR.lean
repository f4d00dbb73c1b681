/- The landed closure that recovers, layer 17. -/
import Derived.Test.YthmgocjmfhpafaaDoorM17Mem
import Derived.Recover
namespace Go.Proofs.YthmgocjmfhpafaaDoor.M17
set_option maxRecDepth 100000
open Go.RowKit Mem
set_option linter.unusedVariables false
set_option linter.unusedSimpArgs false

/-! ### The closure that recovers -/
theorem ta_hit (v : Value) (w : World) : (Instr.typeAssert (.iface 116 v) 20 116 true).run Tryd.prog w = .ok (.tuple #[v, .bool true]) w := by
  unfold Instr.typeAssert
  simp [run_underlying Tryd.underlying116, Result.andThen]
theorem ta_nil (w : World) : (Instr.typeAssert .nilIface 20 116 true).run Tryd.prog w = .ok (.tuple #[.agg #[], .bool false]) w := by
  have hi : ∃ i, Tryd.prog.info? 116 = some i ∧ i.zero = some (.agg #[]) := ⟨_, rfl, by kernel_rfl⟩
  obtain ⟨i, hi, hz⟩ := hi
  have hzv : (zeroValue 116).run Tryd.prog w = .ok (.agg #[]) w := by unfold zeroValue; simp only [Sem.run_bind, run_typeInfo w hi, hz, Result.andThen]; rfl
  unfold Instr.typeAssert
  simp [run_underlying Tryd.underlying116, hzv, Result.andThen]
set_option maxHeartbeats 2000000 in
theorem catch_trap (r : Nat) (x : Int) (older : List PanicEntry) (w : World) (hc : w.cell? ⟨r, 0, none⟩ = some (.int .i64 x)) (hz : w.frozen? ⟨r, 0, none⟩ = false) :
    CallsD Tryd.prog 83 #[.pointer (some ⟨r, 0, none⟩)] (.panicking (tr :: older)) w fun e u' w' =>
      e = .returned (.tuple #[]) ∧ u' = .panicking ({ tr with recovered := true } :: older) ∧ w' = (w.alloc (.cells #[] 116)).setCell ⟨r, 0, none⟩ (.int .i64 12) := by
  refine callsD_of_wpS Tryd.func83 rfl fun c₀ cs hu => ?_
  have t1 := ta_hit
  apply wpS_seq
  apply wpS_region
  unfold tr at hu
  simp only [Tryd.ntmps83, List.size_toArray, List.length_cons, List.length_nil, Nat.reduceAdd, Nat.reduceSub, Array.replicate_succ, Array.replicate_zero, List.push_toArray, List.append_toArray, List.nil_append, List.cons_append]
  simp [wpOpsS, go_sem, recoverD, hu, Exit.thenS, t1]
  apply wpS_seq
  apply wpS_region
  simp [wpOpsS, go_sem, Exit.thenS]
  refine wpS_cond (t := true) (by simp [Act.eval]) ?_
  simp only [if_true]
  have hb : r < w.heap.size := World.block_lt_of_cell? _ _ hc
  have hc2 : (w.alloc (.cells #[] 116)).cell? ⟨r, 0, none⟩ = some (.int .i64 x) := (World.grownBy_alloc w (.cells #[] 116) none).cell hc (by simp)
  have hz2 : (w.alloc (.cells #[] 116)).frozen? ⟨r, 0, none⟩ = false := (World.frozen?_of_block (w := w) (a := ⟨r, 0, none⟩) (Below.heap_alloc w _ r hb)).trans hz
  apply wpS_region
  simp [wpOpsS, go_sem, hc2, hz2, bodyPostS, results, Tryd.results83]
  exact ⟨rfl, rfl⟩
set_option maxHeartbeats 2000000 in
theorem catch_idle (r : Nat) (w : World) :
    CallsD Tryd.prog 83 #[.pointer (some ⟨r, 0, none⟩)] .returning w fun e u' w' => e = .returned (.tuple #[]) ∧ u' = .returning ∧ w' = w.alloc (.cells #[] 116) := by
  refine callsD_of_wpS Tryd.func83 rfl fun c₀ cs hu => ?_
  have t1 := ta_nil
  apply wpS_seq
  apply wpS_region
  simp only [Tryd.ntmps83, List.size_toArray, List.length_cons, List.length_nil, Nat.reduceAdd, Nat.reduceSub, Array.replicate_succ, Array.replicate_zero, List.push_toArray, List.append_toArray, List.nil_append, List.cons_append]
  simp [wpOpsS, go_sem, recoverD, hu, Exit.thenS, t1]
  apply wpS_seq
  apply wpS_region
  simp [wpOpsS, go_sem, Exit.thenS]
  refine wpS_cond (t := false) (by simp [Act.eval]) ?_
  simp only [Bool.false_eq_true, if_false]
  refine wpS_of_wp (wp_skip ?_)
  cases c₀
  simp_all [bodyPostS, results, Tryd.results83]
end Go.Proofs.YthmgocjmfhpafaaDoor.M17
