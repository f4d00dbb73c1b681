/- The builtins copy and clear on an array of bytes, and the contract of the landed package's Compress. -/
import Derived.Test.YtkppepdniehoiaaDoorB4Own7
import Derived.Test.YtkppepdniehoiaaDoorB4Own8
import Derived.Lib.SliceRun
import Derived.Lib.BufferWrite
namespace Go.Proofs.YtkppepdniehoiaaDoor.B4
open Go.RowKit Mem
set_option linter.unusedVariables false
set_option linter.unusedSimpArgs false

theorem results_cell_tmp {P : Program} {fn : Func} {p q : Tmp} {ty : TypeId} (h : fn.results = #[.cell p ty, .tmp q]) (tmps : Array Value) (w : World) (g : Nat) (t : TypeId) (cs : Array Value) (fr : Nat × Nat) (d : TypeDesc) (v : Value)
    (hp : tmps.getD p undef = .pointer (some ⟨g, 0, none⟩)) (hq : tmps.getD q undef = v) (hg : w.heap[g]? = some (.cells cs t fr))
    (hu : P.underlying ty = some d) (hd : (match d with | .struct _ | .array _ _ => true | _ => false) = true) (hi : (P.info? ty).map (·.size) = some cs.size) :
    (results fn tmps).run P w = .ok (.tuple #[.agg cs, v]) w := by
  have hp' : tmps[p]?.getD undef = .pointer (some ⟨g, 0, none⟩) := by simpa using hp
  have hq' : tmps[q]?.getD undef = v := by simpa using hq
  simp [results, h, hp', hq', asAddr, run_loadVar_row w g t ty cs fr d hg hu hd hi]

theorem run_copy_part (w : World) (dT sT ty elem : TypeId) (g o dLen dCap n : Nat) (s : ByteArray) (cur : List UInt8) (t : TypeId)
    (hu : Tryd.prog.underlying dT = some (.slice elem)) (hs : (Tryd.prog.info? elem).map (·.size) = some 1) (hg : w.heap[g]? = some (.cells (bys cur).toArray t (0, 0))) (hn : Nat.min s.size dLen = n) (hfit : o + dLen = cur.length) :
    (Builtin.copy_ #[dT, sT] ty #[.slice (some ⟨g, o, none⟩) dLen dCap, .string s]).run Tryd.prog w = .ok (goInt n) (w.setRow g (bys (cur.take o ++ s.data.toList.take n ++ cur.drop (o + n))).toArray) := by
  have hnl : (bys (s.data.toList.take n)).length = n := by
    rw [bys_len, List.length_take]
    have : s.data.toList.length = s.size := rfl
    have h1 : n ≤ s.size := by rw [← hn]; exact Nat.min_le_left _ _
    omega
  have hnd : n ≤ dLen := by rw [← hn]; exact Nat.min_le_right _ _
  have hst := run_storeCells_at (P := Tryd.prog) g o t (bys (s.data.toList.take n)) 0 _ w hg (by rw [hnl]; simp [bys_len]; omega) (bys_one _)
  have htk : List.take n (List.map (fun b : UInt8 => Value.int IntKind.u8 (b.toNat : Int)) s.data.toList) = bys (s.data.toList.take n) := by
    unfold bys
    rw [List.map_take]
  rw [hnl] at hst
  simp only [Nat.add_zero] at hst
  have hcat : (bys cur).toArray.toList.take o ++ bys (s.data.toList.take n) ++ (bys cur).toArray.toList.drop (o + n) = bys (cur.take o ++ s.data.toList.take n ++ cur.drop (o + n)) := by
    rw [bys_append, bys_append]
    simp [bys, List.map_take, List.map_drop]
  rw [hcat] at hst
  cases hq : Tryd.prog.info? elem with
  | none => simp [hq] at hs
  | some i =>
    simp [Builtin.copy_, run_underlying hu, Builtin.lenOf, Builtin.firstCells, sizeOf, typeInfo, hq, hn]
    rw [htk, hst]
    simp [Result.andThen]
theorem ex_copy {o : Oper} {a : Act} {d x : Operand} {g off dLen dCap n : Nat} {s : ByteArray} {cur : List UInt8} {t : TypeId} {w : World}
    (ho : o.op = .call { callee := .builtin .copy, args := #[d, x], argTypes := #[46, 9] }) (hd : a.eval d = .slice (some ⟨g, off, none⟩) dLen dCap) (hx : a.eval x = .string s)
    (hg : w.heap[g]? = some (.cells (bys cur).toArray t (0, 0))) (hn : Nat.min s.size dLen = n) (hfit : off + dLen = cur.length) :
    (execOp a.eval o).run Tryd.prog w = .ok (.value (.int .i64 (n : Int))) (w.setRow g (bys (cur.take off ++ s.data.toList.take n ++ cur.drop (off + n))).toArray) := by
  have hrun := run_copy_part w 46 9 o.type 5 g off dLen dCap n s cur t Tryd.underlying46 (by kernel_rfl) hg hn hfit
  simp [execOp, ho, resolve, invoke, builtin, hd, hx, hrun, Result.andThen]
  rfl

def zeros64 : List UInt8 := List.replicate 64 0
set_option maxRecDepth 100000 in
set_option maxHeartbeats 2000000 in
theorem ocompressX (h : List R) (block : ByteArray) (count : Nat) (last : Bool) (w : World) (hh : h.length = 8) (hs : block.size ≤ 140737488351232) (hcount : count < 18446744073709551616) (hL : Laid w) :
    Calls Tryd.prog 15 #[av h, .string block, .int .u64 (count : Int), .bool last] w fun e w' => e = .returned (cmpV h block.data.toList count last) ∧ Below w.heap.size w w' := by
  have hsz : (wvs h).toArray.size = 8 := by simp [wvs_len, hh]
  have hA0 : Arr 32 ((w.alloc (.cells (wvs h).toArray 32)).alloc (.cells (wvs zeros8).toArray 32)) w.heap.size h := arr_old (arr_new w h _) _
  have hR0 : Arr 32 ((w.alloc (.cells (wvs h).toArray 32)).alloc (.cells (wvs zeros8).toArray 32)) (w.heap.size + 1) zeros8 := by
    have := arr_new (w.alloc (.cells (wvs h).toArray 32)) zeros8 32
    rw [show (w.alloc (.cells (wvs h).toArray 32)).heap.size = w.heap.size + 1 by simp] at this
    exact this
  have hB0 : Below w.heap.size w ((w.alloc (.cells (wvs h).toArray 32)).alloc (.cells (wvs zeros8).toArray 32)) := ((Below.refl _ _).alloc (Nat.le_refl _) _).alloc (by simp) _
  unfold cmpV av
  by_cases h64 : block.size = 64
  · have d1 : ((block.size : Int) != 64) = false := by rw [bne_eq_false_iff_eq]; omega
    have hbl : block.data.toList.length = 64 := h64
    rw [if_pos hbl]
    have hgsz : ((w.alloc (.cells (wvs h).toArray 32)).alloc (.cells (wvs zeros8).toArray 32)).heap.size = w.heap.size + 1 + 1 := by simp
    have hA1 := arr_old hA0 (.cells (bys zeros64).toArray 44)
    have hR1 := arr_old hR0 (.cells (bys zeros64).toArray 44)
    have hB1 := hB0.alloc hB0.size (.cells (bys zeros64).toArray 44)
    have hZ1 := heap_alloc_new ((w.alloc (.cells (wvs h).toArray 32)).alloc (.cells (wvs zeros8).toArray 32)) (.cells (bys zeros64).toArray 44)
    rw [hgsz] at hZ1
    have hl : zeros64.take 0 ++ block.data.toList.take 64 ++ zeros64.drop (0 + 64) = block.data.toList := by
      rw [List.take_of_length_le (l := block.data.toList) (by omega), show zeros64.drop (0 + 64) = [] by decide, List.take_zero, List.nil_append, List.append_nil]
    have hn : Nat.min block.size 64 = 64 := by rw [h64]; rfl
    have hA2 := arr_row (cs := (bys block.data.toList).toArray) hA1 (show w.heap.size ≠ w.heap.size + 1 + 1 by omega)
    have hR2 := arr_row (cs := (bys block.data.toList).toArray) hR1 (show w.heap.size + 1 ≠ w.heap.size + 1 + 1 by omega)
    have hB2 := below_setRow hB1 (show w.heap.size ≤ w.heap.size + 1 + 1 by omega) (bys block.data.toList).toArray
    have hZ2 := setRow_heap _ (w.heap.size + 1 + 1) _ (bys block.data.toList).toArray _ _ hZ1
    have hL2 := hL.below hB2
    have hz8 : (Tryd.prog.info? 32).map (·.size) = some (wvs h).toArray.size := by rw [info_8w]; simp [wvs_len, hh]
    have hz64 : (Tryd.prog.info? 44).map (·.size) = some (bys block.data.toList).toArray.size := by
      have : (Tryd.prog.info? 44).map (·.size) = some 64 := by kernel_rfl
      rw [this]; simp only [List.size_toArray, bys_len]; rw [hbl]
    have hcy : ∀ (o : Oper) (a : Act), o.op = .call { callee := .builtin .copy, args := #[.tmp 15, .tmp 16], argTypes := #[46, 9] } → a.eval (.tmp 15) = .slice (some ⟨w.heap.size + 1 + 1, 0, none⟩) 64 64 → a.eval (.tmp 16) = .string block →
        (execOp a.eval o).run Tryd.prog (((w.alloc (.cells (wvs h).toArray 32)).alloc (.cells (wvs zeros8).toArray 32)).alloc (.cells (bys zeros64).toArray 44)) = .ok (.value (.int .i64 64)) ((((w.alloc (.cells (wvs h).toArray 32)).alloc (.cells (wvs zeros8).toArray 32)).alloc (.cells (bys zeros64).toArray 44)).setRow (w.heap.size + 1 + 1) (bys block.data.toList).toArray) := fun o a h1 h2 h3 => by
      have := ex_copy h1 h2 h3 hZ1 hn (by rfl)
      rw [hl] at this
      exact this
    have hcm := Lib.hid (fun W (hLW : Laid W) => ocompress_any h block.data.toList count last W hh hbl hcount hLW)
    have hcyh := Lib.hid hcy
    have hA2h := Lib.hid hA2
    have hZ2h := Lib.hid hZ2
    clear hcy hl hn hbl hA1 hR1 hZ1 hA0 hR0
    go_enter Tryd.func15, Tryd.ntmps15
    go_wp2_with (first | (refine list_any rfl (hcyh.out _ _ rfl rfl rfl) ?_) | (refine wpList_load_row rfl 32 (.tmp 4) rfl w.heap.size rfl 32 _ (0, 0) _ hA2h.out Tryd.underlying32 rfl hz8 ?_) | (refine wpList_load_row rfl 44 (.tmp 10) rfl (w.heap.size + 1 + 1) rfl 44 _ (0, 0) _ hZ2h.out Tryd.underlying44 rfl hz64 ?_))
    refine (hcm.out _ hL2).mono ?_
    rintro e w1 ⟨rfl, hb1⟩
    unfold av
    have hR3 := hR2.below hb1
    have hB3 := chain hB2 hb1
    obtain ⟨N, hN⟩ : ∃ x, cmpL h block.data.toList count last = x := ⟨_, rfl⟩
    have hNl : N.length = 8 := by rw [← hN, cmpL_len]
    rw [hN]
    have hzN : (Tryd.prog.info? 32).map (·.size) = some (wvs N).toArray.size := by rw [info_8w]; simp [wvs_len, hNl]
    have holdN : (wvs zeros8).toArray.size = (wvs N).toArray.size := by simp [wvs_len, hNl]; rfl
    have hR9 := setRow_heap _ (w.heap.size + 1) _ (wvs N).toArray _ _ hR3
    have hB9 := below_setRow hB3 (show w.heap.size ≤ w.heap.size + 1 by omega) (wvs N).toArray
    clear hA2h hZ2h hcyh hcm
    go_wp2_with (refine wpList_store_row rfl 32 (.tmp 8) (.tmp 22) rfl (w.heap.size + 1) (wvs N).toArray rfl rfl 32 _ hR3 hzN holdN (wvs_one _) ?_)
    exact bodyPost_ret (results_cell_tmp rfl _ _ (w.heap.size + 1) 32 _ (0, 0) _ _ rfl rfl hR9 Tryd.underlying32 rfl hzN) rfl ⟨by rw [hN]; rfl, hB9⟩
  · have d1 : ((block.size : Int) != 64) = true := by rw [bne_iff_ne]; omega
    rw [if_neg (show ¬ block.data.toList.length = 64 from h64)]
    have hz8 : (Tryd.prog.info? 32).map (·.size) = some (wvs zeros8).toArray.size := by rw [info_8w]; rfl
    have hR9 := setRow_heap _ (w.heap.size + 1) _ (wvs zeros8).toArray _ _ hR0
    have hB9 := below_setRow hB0 (show w.heap.size ≤ w.heap.size + 1 by omega) (wvs zeros8).toArray
    go_enter Tryd.func15, Tryd.ntmps15
    go_wp2_with (refine wpList_store_row rfl 32 (.tmp 8) (.tmp 14) rfl (w.heap.size + 1) (wvs zeros8).toArray rfl rfl 32 _ hR0 hz8 rfl (wvs_one _) ?_)
    exact bodyPost_ret (results_cell_tmp rfl _ _ (w.heap.size + 1) 32 _ (0, 0) _ _ rfl rfl hR9 Tryd.underlying32 rfl hz8) rfl ⟨rfl, hB9⟩
end Go.Proofs.YtkppepdniehoiaaDoor.B4
