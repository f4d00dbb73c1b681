/- The contract of the landed package's compress. -/
import Derived.Test.YtkppepdniehoiaaDoorB4Own3
import Derived.Test.YtkppepdniehoiaaDoorB4Own5
namespace Go.Proofs.YtkppepdniehoiaaDoor.B4
open Go.RowKit Mem Parts
set_option linter.unusedVariables false
set_option linter.unusedSimpArgs false

section
variable {P : Program} {ops : Array Oper} {Q : Exit → Act → World → Prop} {md : Region.Mode} {S : World → Prop} {fuel : Nat} {listed : Array Bool} {a : Act} {w : World} {i : Nat} {o : Oper} {rs : List Nat}
theorem wp_at {c : Code} (h : ∀ b, b = a → c.wp P Q b w) : c.wp P Q a w := h a rfl
theorem all_enter {f : FuncId} {args : Array Value} {v : Value} {R : World → Prop} (ho : ops[i]? = some o) (hg : o.guard = none) (hrun : (execOp a.eval o).run P w = .ok (.enter f args) w) (hc : Calls P f args w fun e w' => e = .returned v ∧ R w')
    (h : ∀ w', R w' → S w' ∧ wpAnyH P md ops Q S fuel (listed.setIfInBounds i true) (a.put o.dst v) w') (hs : AllReadyH P md ops Q S fuel listed a w rs) : AllReadyH P md ops Q S fuel listed a w (i :: rs) :=
  AllReadyH.cons ho (fun K hK => by
    rw [if_pos (wanted_none hg)]
    unfold Oper.wp
    rw [hrun]
    refine hc.mono ?_
    rintro e w' ⟨rfl, hR⟩
    exact hK.out _ _ (h w' hR).1 (fun _ => (h w' hR).2)) hs
theorem all_val {v : Value} {w' : World} (ho : ops[i]? = some o) (hg : o.guard = none) (hrun : (execOp a.eval o).run P w = .ok (.value v) w') (hS : S w') (h : wpAnyH P md ops Q S fuel (listed.setIfInBounds i true) (a.put o.dst v) w') (hs : AllReadyH P md ops Q S fuel listed a w rs) : AllReadyH P md ops Q S fuel listed a w (i :: rs) :=
  AllReadyH.cons ho (fun K hK => by
    rw [if_pos (wanted_none hg)]
    unfold Oper.wp
    rw [hrun]
    exact hK.out _ _ hS (fun _ => h)) hs
theorem all_skip {w' : World} (ho : ops[i]? = some o) (hg : o.guard = none) (hd : o.dst = none) (hrun : (execOp a.eval o).run P w = .ok .skip w') (hS : S w') (h : wpAnyH P md ops Q S fuel (listed.setIfInBounds i true) a w') (hs : AllReadyH P md ops Q S fuel listed a w rs) : AllReadyH P md ops Q S fuel listed a w (i :: rs) :=
  AllReadyH.cons ho (fun K hK => by
    rw [if_pos (wanted_none hg)]
    unfold Oper.wp
    rw [hrun]
    have : a.put o.dst undef = a := by rw [hd]; rfl
    simp only [Oper.upon, this]
    exact hK.out _ _ hS (fun _ => h)) hs
end
theorem ex_storerow {o : Oper} {a : Act} {x y : Operand} {w : World} {ty : TypeId} {g : Nat} {cs old : Array Value} (ho : o.op = .store ty x y) (hx : a.eval x = .pointer (some ⟨g, 0, none⟩)) (hy : a.eval y = .agg cs)
    (hg : w.heap[g]? = some (.cells old ty (0, 0))) (hi : (Tryd.prog.info? ty).map (·.size) = some cs.size) (hold : old.size = cs.size) (h1 : cs.all (·.oneCell') = true) : (execOp a.eval o).run Tryd.prog w = .ok .skip (w.setRow g cs) := by
  have := run_storeVar_row (P := Tryd.prog) w g ty ty old cs hg hi hold h1
  unfold execOp
  simp only [ho, hx, hy, Instr.storeAt, Instr.sureAddr, Sem.run_bind, Sem.run_pure, Result.andThen_ok, this]
theorem ex_loadrow {o : Oper} {a : Act} {x : Operand} {w : World} {ty : TypeId} {g : Nat} {cs : Array Value} {t : TypeId} {fr : Nat × Nat} {n : Nat} {e : TypeId} (ho : o.op = .load ty x) (hx : a.eval x = .pointer (some ⟨g, 0, none⟩)) (hg : w.heap[g]? = some (.cells cs t fr))
    (hu : Tryd.prog.underlying ty = some (.array n e)) (hi : (Tryd.prog.info? ty).map (·.size) = some cs.size) : (execOp a.eval o).run Tryd.prog w = .ok (.value (.agg cs)) w := by
  have := run_loadVar_row (P := Tryd.prog) w g t ty cs fr _ hg hu rfl hi
  unfold execOp
  simp only [ho, hx, Instr.loadAt, Instr.sureAddr, Sem.run_bind, Sem.run_pure, Result.andThen_ok, this]
theorem ex_alloc16 {o : Oper} {a : Act} (ho : o.op = .alloc 48) (w : World) : (execOp a.eval o).run Tryd.prog w = .ok (.value (.pointer (some ⟨w.heap.size, 0, none⟩))) (w.alloc (.cells (wvs zeros16).toArray 48)) := by
  unfold execOp
  simp only [ho]
  go_simp
  rfl
theorem ex_idx8 {o : Oper} {a : Act} {x ix : Operand} {g n : Nat} {k : IntKind} (ho : o.op = .indexAddr 32 x ix) (hx : a.eval x = .pointer (some ⟨g, 0, none⟩)) (hi : a.eval ix = .int k (n : Int)) (hn : n < 8) (w : World) :
    (execOp a.eval o).run Tryd.prog w = .ok (.value (.pointer (some ⟨g, n, none⟩))) w := by
  have h1 : (n : Int) < 8 := by omega
  have h0 : (0 : Int) ≤ (n : Int) := by omega
  unfold execOp
  simp only [ho, hx, hi]
  go_simp
theorem ex_add {o : Oper} {a : Act} {t : Nat} {k c : Nat} (ho : o.op = .binOp .add 3 (.tmp t) (.const (.int .i64 (c : Int))) 3) (h : At a t (.int .i64 (k : Int))) (hk : k < 1000000) (hc : c < 1000000) (w : World) :
    (execOp a.eval o).run Tryd.prog w = .ok (.value (.int .i64 ((k + c : Nat) : Int))) w := by
  have e : a.tmps[t]?.getD undef = .int .i64 (k : Int) := by unfold At at h; rw [h]; rfl
  clear h
  have h1 : (k : Int) < 1000000 := by omega
  have hn : (((k + c : Nat)) : Int) = (k : Int) + (c : Int) := by omega
  rw [hn]
  clear hn
  have hw : IntKind.i64.wrap ((k : Int) + (c : Int)) = (k : Int) + (c : Int) := IntWalk.i64_in _ (by omega)
  unfold execOp
  simp only [ho]
  go_simp
theorem ex_xor {o : Oper} {a : Act} {s t : Nat} {x y : R} (ho : o.op = .binOp .xor 31 (.tmp s) (.tmp t) 31) (hs : At a s (wv x)) (ht : At a t (wv y)) (w : World) : (execOp a.eval o).run Tryd.prog w = .ok (.value (wv (x ^^^ y))) w := by
  have e1 : a.tmps[s]?.getD undef = .int .u32 (x.toNat : Int) := by unfold At at hs; rw [hs]; rfl
  have e2 : a.tmps[t]?.getD undef = .int .u32 (y.toNat : Int) := by unfold At at ht; rw [ht]; rfl
  clear hs ht
  have hb := bxr x y
  obtain ⟨z, hz⟩ : ∃ z, x ^^^ y = z := ⟨_, rfl⟩
  rw [hz] at hb ⊢
  clear hz
  unfold execOp wv
  simp only [ho]
  go_simp
theorem ex_vec {o : Oper} {a : Act} {t1 t2 t3 : Nat} {ts : Array TypeId} {x y z : Value} (ho : o.op = .call { callee := .value (.func 31), args := #[.tmp t1, .tmp t2, .tmp t3], argTypes := ts }) (h1 : At a t1 x) (h2 : At a t2 y) (h3 : At a t3 z) (w : World) :
    (execOp a.eval o).run Tryd.prog w = .ok (.enter 31 #[x, y, z]) w := by
  have e1 : a.tmps[t1]?.getD undef = x := by unfold At at h1; rw [h1]; rfl
  have e2 : a.tmps[t2]?.getD undef = y := by unfold At at h2; rw [h2]; rfl
  have e3 : a.tmps[t3]?.getD undef = z := by unfold At at h3; rw [h3]; rfl
  clear h1 h2 h3
  unfold execOp
  simp only [ho]
  go_simp
theorem ex_words {o : Oper} {a : Act} {t1 : Nat} {ts : Array TypeId} {x : Value} (ho : o.op = .call { callee := .value (.func 32), args := #[.tmp t1], argTypes := ts }) (h1 : At a t1 x) (w : World) :
    (execOp a.eval o).run Tryd.prog w = .ok (.enter 32 #[x]) w := by
  have e1 : a.tmps[t1]?.getD undef = x := by unfold At at h1; rw [h1]; rfl
  clear h1
  unfold execOp
  simp only [ho]
  go_simp
theorem ex_rounds {o : Oper} {a : Act} {t1 t2 : Nat} {ts : Array TypeId} {x y : Value} (ho : o.op = .call { callee := .value (.func 30), args := #[.tmp t1, .tmp t2], argTypes := ts }) (h1 : At a t1 x) (h2 : At a t2 y) (w : World) :
    (execOp a.eval o).run Tryd.prog w = .ok (.enter 30 #[x, y]) w := by
  have e1 : a.tmps[t1]?.getD undef = x := by unfold At at h1; rw [h1]; rfl
  have e2 : a.tmps[t2]?.getD undef = y := by unfold At at h2; rw [h2]; rfl
  clear h1 h2
  unfold execOp
  simp only [ho]
  go_simp
theorem Laid.below {w w' : World} (h : Laid w) (k : Below w.heap.size w w') : Laid w' := by
  obtain ⟨h1, h2⟩ := h
  obtain ⟨t1, f1, b1⟩ := block_of_var gInit h1
  obtain ⟨t2, f2, b2⟩ := block_of_var gPerm h2
  have c1 := below_block b1 k
  have c2 := below_block b2 k
  unfold Laid World.var?
  rw [gInit, gPerm]
  simp only [Option.bind_some, c1, c2]
  exact ⟨trivial, trivial⟩
end Go.Proofs.YtkppepdniehoiaaDoor.B4
