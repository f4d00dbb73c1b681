/- What the landed package's Sum has absorbed; the operations that it needs, over a frame that is a letter. -/
import Derived.Test.YtkppepdniehoiaaDoorB4Own9
namespace Go.Proofs.YtkppepdniehoiaaDoor.B4
open Go.RowKit Mem
set_option linter.unusedVariables false
set_option linter.unusedSimpArgs false

/-- The state behind the first q blocks. -/
def hq (T : List UInt8) : Nat → List R
  | 0 => h0L
  | q + 1 => cmpL (hq T q) ((T.drop (64 * q)).take 64) (64 * q + 64) false
theorem hq_len (T : List UInt8) : ∀ q, (hq T q).length = 8
  | 0 => rfl
  | q + 1 => cmpL_len _ _ _ _
theorem digF_hq (T : List UInt8) : ∀ (q f : Nat), (q = 0 ∨ 64 * q < T.length) → digF T (f + q) 0 h0L = digF T f (64 * q) (hq T q)
  | 0, f, _ => rfl
  | q + 1, f, h => by
    rw [show f + (q + 1) = (f + 1) + q by omega, digF_hq T q (f + 1) (by omega), digF_more f _ (show ¬ T.length ≤ 64 * q + 64 by omega)]
    rfl
theorem dig_end (T : List UInt8) (q f : Nat) (hl : T.length = 64 * q + f) (hf : f ≤ 64) (h0 : q = 0 ∨ 0 < f) : digL T = outL (cmpL (hq T q) (pad (T.drop (64 * q))) T.length true) := by
  unfold digL
  rw [show T.length + 1 = (T.length - q + 1) + q by omega, digF_hq T q _ (by omega), digF_last _ _ (by omega)]
/-- What has been absorbed: c bytes of T, in q blocks and f bytes of the block at hand. -/
structure St (T : List UInt8) (c q f : Nat) (blk : List UInt8) : Prop where
  sum : c = 64 * q + f
  le : f ≤ 64
  len : blk.length = 64
  all : c ≤ T.length
  blk : blk.take f = (T.drop (64 * q)).take f
theorem St.full {T : List UInt8} {c q : Nat} {blk : List UInt8} (h : St T c q 64 blk) : cmpL (hq T q) blk c false = hq T (q + 1) ∧ St T c (q + 1) 0 blk := by
  refine ⟨?_, ⟨by have := h.sum; omega, by omega, h.len, h.all, by simp⟩⟩
  have hb := h.blk
  rw [List.take_of_length_le (by rw [h.len]; omega)] at hb
  show _ = cmpL (hq T q) ((T.drop (64 * q)).take 64) (64 * q + 64) false
  rw [← hb, h.sum]
theorem St.copy {T : List UInt8} {c q f n : Nat} {blk s r : List UInt8} (h : St T c q f blk) (hs : T.drop c = s ++ r) (hn : n = min s.length (64 - f)) : St T (c + n) q (f + n) (blk.take f ++ s.take n ++ blk.drop (f + n)) ∧ T.drop (c + n) = s.drop n ++ r := by
  have hl := congrArg List.length hs
  simp only [List.length_drop, List.length_append] at hl
  have h1 := h.le
  have h2 := h.len
  have h3 := h.all
  have h4 := h.sum
  refine ⟨⟨by omega, by omega, ?_, by omega, ?_⟩, ?_⟩
  · simp only [List.length_append, List.length_take, List.length_drop]
    omega
  · have e : (blk.take f ++ s.take n).length = f + n := by
      simp only [List.length_append, List.length_take]
      omega
    rw [List.take_append_of_le_length (by omega), List.take_of_length_le (by omega), h.blk, List.take_add, List.drop_drop, ← h4, hs, List.take_append_of_le_length (by omega)]
  · rw [← List.drop_drop, hs, List.drop_append_of_le_length (by omega)]
theorem St.fin {T : List UInt8} {c q f : Nat} {blk : List UInt8} (h : St T c q f blk) (hc : c = T.length) : blk.take f ++ List.replicate (64 - f) 0 = pad (T.drop (64 * q)) := by
  have h4 := h.sum
  have hl : (T.drop (64 * q)).length = f := by rw [List.length_drop]; omega
  rw [h.blk, List.take_of_length_le (by omega)]
  unfold pad
  rw [hl]

section
variable {P : Program} {ops : Array Oper} {w w' : World} {o : Oper} {rest : List Oper} {a : Act} {v : Value}
theorem list_enter {Q : Exit → Act → World → Prop} {f : FuncId} {args : Array Value} {R : World → Prop} (hg : o.guard = none) (h : (execOp a.eval o).run P w = .ok (.enter f args) w) (hc : Calls P f args w fun e w' => e = .returned v ∧ R w')
    (hr : ∀ w', R w' → wpList P ops Q rest (a.put o.dst v) w') : wpList P ops Q (o :: rest) a w :=
  wpList_plain hg fun _ hK => by
    unfold Oper.wp
    rw [h]
    refine hc.mono ?_
    rintro e w' ⟨rfl, hR⟩
    exact hK _ _ (hr w' hR)
end
section
variable {o : Oper} {a : Act}
theorem At.get {n : Nat} {v : Value} (h : At a n v) : a.tmps[n]?.getD undef = v := by
  unfold At at h
  rw [h]
  rfl
theorem ex_less2 {s t : Nat} {n k : Nat} (ho : o.op = .binOp .lss 3 (.tmp s) (.tmp t) 3) (h : At a s (.int .i64 (k : Int))) (h' : At a t (.int .i64 (n : Int))) (w : World) :
    (execOp a.eval o).run Tryd.prog w = .ok (.value (.bool (decide (k < n)))) w := by
  have e := h.get
  have e' := h'.get
  clear h h'
  unfold execOp
  simp only [ho]
  go_simp
theorem ex_lenStr {t : Nat} {s : ByteArray} (ho : o.op = .call { callee := .builtin .len, args := #[.tmp t], argTypes := #[9] }) (h : At a t (.string s)) (w : World) :
    (execOp a.eval o).run Tryd.prog w = .ok (.value (.int .i64 (s.size : Int))) w := by
  have e := h.get
  clear h
  unfold execOp
  simp only [ho]
  go_simp
theorem ex_pos {t n : Nat} (ho : o.op = .binOp .gtr 3 (.tmp t) (.const (.int .i64 0)) 3) (h : At a t (.int .i64 (n : Int))) (w : World) : (execOp a.eval o).run Tryd.prog w = .ok (.value (.bool (decide (0 < n)))) w := by
  have e := h.get
  clear h
  unfold execOp
  simp only [ho]
  go_simp
theorem ex_is64 {t n : Nat} (ho : o.op = .binOp .eql 3 (.tmp t) (.const (.int .i64 64)) 3) (h : At a t (.int .i64 (n : Int))) (w : World) : (execOp a.eval o).run Tryd.prog w = .ok (.value (.bool (decide (n = 64)))) w := by
  have e := h.get
  clear h
  have hd : ((n : Int) == 64) = decide (n = 64) := by rw [Bool.eq_iff_iff]; simp; omega
  unfold execOp
  simp only [ho]
  go_simp
theorem ex_idxStr {x ix : Operand} {b of n cap k : Nat} (ho : o.op = .indexAddr 22 x ix) (hx : a.eval x = .slice (some ⟨b, of, none⟩) n cap) (hi : a.eval ix = .int .i64 (k : Int)) (hn : k < n) (w : World) :
    (execOp a.eval o).run Tryd.prog w = .ok (.value (.pointer (some ⟨b, of + k, none⟩))) w := by
  have h1 : (k : Int) < (n : Int) := by omega
  have h0 : (0 : Int) ≤ (k : Int) := by omega
  unfold execOp
  simp only [ho, hx, hi]
  go_simp
theorem ex_loadStr {x : Operand} {p : Addr} {v : Value} {w : World} (ho : o.op = .load 9 x) (hx : a.eval x = .pointer (some p)) (hc : w.cell? p = some v) : (execOp a.eval o).run Tryd.prog w = .ok (.value v) w := by
  unfold execOp
  simp only [ho, hx]
  go_simp
theorem ex_slArr {x : Operand} {t : Nat} {g n : Nat} (ho : o.op = .slice 44 x (some (.tmp t)) none none) (hx : a.eval x = .pointer (some ⟨g, 0, none⟩)) (hi : At a t (.int .i64 (n : Int))) (hn : n < 64) (w : World) :
    (execOp a.eval o).run Tryd.prog w = .ok (.value (.slice (some ⟨g, n, none⟩) (64 - n) (64 - n))) w := by
  have e := hi.get
  have h1 : (n : Int) ≤ 64 := by omega
  have h0 : (0 : Int) ≤ (n : Int) := by omega
  have h2 : (n : Int) < 64 := by omega
  clear hi
  unfold execOp
  simp only [ho, hx]
  go_simp
  intro h
  omega
theorem ex_slArrEnd {x : Operand} {t : Nat} {g : Nat} (ho : o.op = .slice 44 x (some (.tmp t)) none none) (hx : a.eval x = .pointer (some ⟨g, 0, none⟩)) (hi : At a t (.int .i64 ((64 : Nat) : Int))) (w : World) :
    (execOp a.eval o).run Tryd.prog w = .ok (.value (.slice (some ⟨g, 0, none⟩) 0 0)) w := by
  have e := hi.get
  clear hi
  unfold execOp
  simp only [ho, hx]
  go_simp
theorem ex_clear {t : Nat} {g off n : Nat} {cur : List UInt8} {ty : TypeId} {w : World} (ho : o.op = .call { callee := .builtin .clear, args := #[.tmp t], argTypes := #[46] }) (h : At a t (.slice (some ⟨g, off, none⟩) n n))
    (hg : w.heap[g]? = some (.cells (bys cur).toArray ty (0, 0))) (hn : 0 < n) (hfit : off + n = cur.length) :
    (execOp a.eval o).run Tryd.prog w = .ok (.value (.tuple #[])) (w.setRow g (bys (cur.take off ++ List.replicate n 0)).toArray) := by
  have e := h.get
  have hcell : ∀ j, j < n → (w.cell? ⟨g, off + j, none⟩).isSome = true := fun j hj => by
    rw [Lib.cell_of_heap hg]
    simp [bys]
    omega
  have hrun := Lib.run_clear_slice (P := Tryd.prog) w 46 5 o.type (.int .u8 0) Tryd.underlying46 (fun w => by rfl) rfl rfl g off n n hn hcell (fun j hj => Lib.frozen_of_heap hg _)
  have hst := run_storeCells_at (P := Tryd.prog) g off ty (List.replicate n (.int .u8 0)) 0 _ w hg (by simp [bys_len]; omega) (fun v hv => by rw [List.eq_of_mem_replicate hv]; rfl)
  have hst2 := run_storeCells_cells (P := Tryd.prog) g off (List.replicate n (.int .u8 0)) 0 w (by simpa using hcell) (fun j hj => Lib.frozen_of_heap hg _) (fun v hv => by rw [List.eq_of_mem_replicate hv]; rfl)
  have hw := Result.ok.inj (hst2.symm.trans hst)
  have hcat : ((bys cur).toArray.toList.take (off + 0) ++ List.replicate n (Value.int .u8 0) ++ (bys cur).toArray.toList.drop (off + 0 + (List.replicate n (Value.int .u8 0)).length)) = bys (cur.take off ++ List.replicate n 0) := by
    rw [bys_append, List.drop_of_length_le (by simp [bys_len]; omega), List.append_nil]
    simp [bys, List.map_take]
  rw [hcat] at hw
  simp only [Nat.add_zero] at hw
  rw [hw.2] at hrun
  clear h hst hst2 hw hcat hcell hg
  obtain ⟨X, hX⟩ : ∃ X, w.setRow g (bys (cur.take off ++ List.replicate n 0)).toArray = X := ⟨_, rfl⟩
  rw [hX] at hrun ⊢
  simp [execOp, ho, resolve, invoke, builtin, Act.eval, e, hrun, Result.andThen]
theorem ex_clearNone {t : Nat} {g : Nat} {w : World} (ho : o.op = .call { callee := .builtin .clear, args := #[.tmp t], argTypes := #[46] }) (h : At a t (.slice (some ⟨g, 0, none⟩) 0 0)) :
    (execOp a.eval o).run Tryd.prog w = .ok (.value (.tuple #[])) w := by
  have e := h.get
  have hrun : (Builtin.clear_ #[46] o.type #[.slice (some ⟨g, 0, none⟩) 0 0]).run Tryd.prog w = .ok (.tuple #[]) w := by rfl
  simp [execOp, ho, resolve, invoke, builtin, Act.eval, e, hrun, Result.andThen]
theorem ex_slStr {t u : Nat} {n : Nat} {s : ByteArray} (ho : o.op = .slice 9 (.tmp t) (some (.tmp u)) none none) (hx : At a t (.string s)) (hi : At a u (.int .i64 (n : Int))) (hn : n ≤ s.size) (w : World) :
    (execOp a.eval o).run Tryd.prog w = .ok (.value (.string (s.extract n s.size))) w := by
  have e := hx.get
  have e' := hi.get
  have h1 : (n : Int) ≤ (s.size : Int) := by omega
  have h0 : (0 : Int) ≤ (n : Int) := by omega
  clear hx hi
  unfold execOp
  simp only [ho]
  go_simp
theorem ex_add2 {s t k n : Nat} (ho : o.op = .binOp .add 3 (.tmp s) (.tmp t) 3) (h : At a s (.int .i64 (k : Int))) (h' : At a t (.int .i64 (n : Int))) (hk : k < 1000000000) (hn : n < 1000000000) (w : World) :
    (execOp a.eval o).run Tryd.prog w = .ok (.value (.int .i64 ((k + n : Nat) : Int))) w := by
  have e := h.get
  have e' := h'.get
  clear h h'
  have hc : (((k + n : Nat)) : Int) = (k : Int) + (n : Int) := by omega
  rw [hc]
  clear hc
  have hw : IntKind.i64.wrap ((k : Int) + (n : Int)) = (k : Int) + (n : Int) := IntWalk.i64_in _ (by omega)
  unfold execOp
  simp only [ho]
  go_simp
theorem ex_cvt {t k : Nat} (ho : o.op = .convert 3 33 (.tmp t)) (h : At a t (.int .i64 (k : Int))) (hk : k < 1000000000) (w : World) : (execOp a.eval o).run Tryd.prog w = .ok (.value (.int .u64 (k : Int))) w := by
  have e := h.get
  clear h
  have hw : IntKind.u64.wrap (k : Int) = (k : Int) := IntWalk.u64_in _ (by omega)
  unfold execOp
  simp only [ho]
  go_simp
theorem ex_addu {s t k n : Nat} (ho : o.op = .binOp .add 33 (.tmp s) (.tmp t) 33) (h : At a s (.int .u64 (k : Int))) (h' : At a t (.int .u64 (n : Int))) (hk : k < 1000000000) (hn : n < 1000000000) (w : World) :
    (execOp a.eval o).run Tryd.prog w = .ok (.value (.int .u64 ((k + n : Nat) : Int))) w := by
  have e := h.get
  have e' := h'.get
  clear h h'
  have hc : (((k + n : Nat)) : Int) = (k : Int) + (n : Int) := by omega
  rw [hc]
  clear hc
  have hw : IntKind.u64.wrap ((k : Int) + (n : Int)) = (k : Int) + (n : Int) := IntWalk.u64_in _ (by omega)
  unfold execOp
  simp only [ho]
  go_simp
theorem ex_comp {t1 t2 t3 : Nat} {ts : Array TypeId} {x y z : Value} {b : Bool} (ho : o.op = .call { callee := .value (.func 22), args := #[.tmp t1, .tmp t2, .tmp t3, .const (.bool b)], argTypes := ts }) (h1 : At a t1 x) (h2 : At a t2 y) (h3 : At a t3 z) (w : World) :
    (execOp a.eval o).run Tryd.prog w = .ok (.enter 22 #[x, y, z, .bool b]) w := by
  have e1 := h1.get
  have e2 := h2.get
  have e3 := h3.get
  clear h1 h2 h3
  unfold execOp
  simp only [ho]
  go_simp
theorem ex_bytes {t1 : Nat} {ts : Array TypeId} {x : Value} (ho : o.op = .call { callee := .value (.func 23), args := #[.tmp t1], argTypes := ts }) (h1 : At a t1 x) (w : World) :
    (execOp a.eval o).run Tryd.prog w = .ok (.enter 23 #[x]) w := by
  have e1 := h1.get
  clear h1
  unfold execOp
  simp only [ho]
  go_simp
end
end Go.Proofs.YtkppepdniehoiaaDoor.B4
