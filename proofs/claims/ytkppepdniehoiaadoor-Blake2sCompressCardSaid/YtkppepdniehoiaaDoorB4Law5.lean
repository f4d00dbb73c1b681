/- The walk of the law Blake2sCompress, under the package's contracts. -/
import Derived.Test.YtkppepdniehoiaaDoorB4Ref6
namespace Go.Proofs.YtkppepdniehoiaaDoor.B4
open Go.RowKit Mem
set_option linter.unusedVariables false
set_option linter.unusedSimpArgs false
variable {L : World → Prop}

/-- Compress gives back eight words and a code. -/
theorem cmpV_form (h : List R) (block : List UInt8) (count : Nat) (last : Bool) : ∃ (N : List R) (c : Nat), N.length = 8 ∧ c ≤ 1 ∧ cmpV h block count last = .tuple #[av N, .int .i64 (c : Int)] := by
  unfold cmpV
  split
  · exact ⟨_, 0, cmpL_len _ _ _ _, by omega, rfl⟩
  · exact ⟨_, 1, rfl, by omega, rfl⟩

theorem eq8 (a0 a1 a2 a3 a4 a5 a6 a7 : Int) (w : World) : (Op.equalIn 10000 32 (.agg #[.int .u32 a0, .int .u32 a1, .int .u32 a2, .int .u32 a3, .int .u32 a4, .int .u32 a5, .int .u32 a6, .int .u32 a7]) (.agg #[.int .u32 a0, .int .u32 a1, .int .u32 a2, .int .u32 a3, .int .u32 a4, .int .u32 a5, .int .u32 a6, .int .u32 a7])).run Tryd.prog w = .ok true w := by
  have u3 := Tryd.underlying31
  have a3 := Tryd.isAgg31
  have z3 := Tryd.sizeOf31
  rw [show (10000 : Nat) = 9999 + 1 from rfl, Op.equalIn]
  simp only [Sem.run_bind, run_underlying Tryd.underlying32, Result.andThen_ok]
  simp only [Std.Legacy.Range.forIn_eq_forIn_range', Std.Legacy.Range.size, Nat.sub_zero, Nat.add_sub_cancel, Nat.div_one, List.range'_succ, List.range'_zero, List.forIn_cons, List.forIn_nil]
  go_simp
  try simp

/-- Two arrays of the same words are equal. -/
theorem ex_eqW {o : Oper} {a : Act} {x y : Operand} {N : List R} (hN : N.length = 8) (ho : o.op = .binOp .eql 32 x y 32) (hx : a.eval x = .agg (wvs N).toArray) (hy : a.eval y = .agg (wvs N).toArray) (w : World) :
    (execOp a.eval o).run Tryd.prog w = .ok (.value (.bool true)) w := by
  obtain ⟨a0, a1, a2, a3, a4, a5, a6, a7, rfl⟩ := list8 N hN
  have hv : (wvs [a0, a1, a2, a3, a4, a5, a6, a7]).toArray = #[.int .u32 (a0.toNat : Int), .int .u32 (a1.toNat : Int), .int .u32 (a2.toNat : Int), .int .u32 (a3.toNat : Int), .int .u32 (a4.toNat : Int), .int .u32 (a5.toNat : Int), .int .u32 (a6.toNat : Int), .int .u32 (a7.toNat : Int)] := rfl
  rw [hv] at hx hy
  unfold execOp
  simp only [ho, hx, hy]
  go_simp
  rw [eq8]
  rfl

set_option maxRecDepth 100000 in
set_option maxHeartbeats 4000000 in
theorem walk_compress (D : Dev L) (h : List R) (block : ByteArray) (count : Nat) (last : Bool) (w : World) (hL0 : L w) (hh : h.length = 8) (hs : block.size ≤ 140737488351232) (hcount : count < 18446744073709551616) :
    Calls Tryd.prog 5 #[av h, .string block, .int .u64 (count : Int), .bool last] w fun e w' => e = .returned (.bool true) ∧ Below w.heap.size w w' := by
  have c2 := fun (W : World) (hW : L W) => D.compress h block count last W hh hs hcount hW
  have c3 := fun (W : World) => rcompress_any h block count last W hh hs hcount
  obtain ⟨N, c, hN, hc, hV⟩ := cmpV_form h block.data.toList count last
  rw [hV] at c2 c3
  clear hV
  unfold av at c2 c3 ⊢
  have hz8 : (Tryd.prog.info? 32).map (·.size) = some (wvs h).toArray.size := ir8 h hh
  have hzN : (Tryd.prog.info? 32).map (·.size) = some (wvs N).toArray.size := ir8 N hN
  have hold : zeros8.length = N.length := by rw [hN]; rfl
  have hold2 : (wvs zeros8).toArray.size = (wvs N).toArray.size := by simp [wvs_len, hN]; rfl
  have hA0 : Arr 32 (w.alloc (.cells (wvs h).toArray 32)) w.heap.size h := arr_new w h _
  have hb0 := (Below.refl w.heap.size w).alloc (Nat.le_refl _) (.cells (wvs h).toArray 32)
  have hL1 := D.alloc hL0 (.cells (wvs h).toArray 32)
  have c2 := Lib.hid c2
  have c3 := Lib.hid c3
  have hsz : (wvs h).toArray.size = 8 := by simp [wvs_len, hh]
  go_enter Tryd.func5, Tryd.ntmps5
  go_wp2_with fail
  refine (alive_any D _ hL1).mono ?_
  rintro e w1 ⟨rfl, hb1⟩
  have hL2 := D.keep hL1 hb1
  have hA1 := hA0.below hb1
  have hb1 := chain hb0 hb1
  go_wp2_with (refine wpList_load_row rfl 32 (.tmp 4) rfl w.heap.size rfl 32 _ (0, 0) _ hA1 Tryd.underlying32 rfl hz8 ?_)
  refine (c2.out _ hL2).mono ?_
  rintro e w2 ⟨rfl, hb2⟩
  have hA2 := hA1.below hb2
  have hb2 := chain hb1 hb2
  have hZ3 : Arr 32 (w2.alloc (.cells #[.int .u32 0, .int .u32 0, .int .u32 0, .int .u32 0, .int .u32 0, .int .u32 0, .int .u32 0, .int .u32 0] 32)) w2.heap.size zeros8 := arr_new w2 zeros8 _
  have hA3 := arr_row (cs := (wvs N).toArray) (arr_old hA2 (.cells #[.int .u32 0, .int .u32 0, .int .u32 0, .int .u32 0, .int .u32 0, .int .u32 0, .int .u32 0, .int .u32 0] 32)) (Nat.ne_of_lt hA2.lt)
  have hB3 := below_setRow (hb2.alloc hb2.size (.cells #[.int .u32 0, .int .u32 0, .int .u32 0, .int .u32 0, .int .u32 0, .int .u32 0, .int .u32 0, .int .u32 0] 32)) hb2.size (wvs N).toArray
  have hN3 : Arr 32 ((w2.alloc (.cells #[.int .u32 0, .int .u32 0, .int .u32 0, .int .u32 0, .int .u32 0, .int .u32 0, .int .u32 0, .int .u32 0] 32)).setRow w2.heap.size (wvs N).toArray) w2.heap.size N := setRow_heap _ _ _ (wvs N).toArray _ _ hZ3
  have hGlt := hA2.lt
  go_wp2_with (first | (refine wpList_store_row rfl 32 (.tmp 9) (.tmp 21) rfl w2.heap.size (wvs N).toArray rfl rfl 32 _ hZ3 hzN hold2 (wvs_one _) ?_) | (refine wpList_load_row rfl 32 (.tmp 4) rfl w.heap.size rfl 32 _ (0, 0) _ hA3 Tryd.underlying32 rfl hz8 ?_))
  refine (c3.out _).mono ?_
  rintro e w4 ⟨rfl, hb4⟩
  have hN4 := hN3.below hb4
  have hB4 := chain hB3 hb4
  obtain ⟨Ga, hGa⟩ : ∃ x, w2.heap.size = x := ⟨_, rfl⟩
  rw [hGa] at hN4 ⊢
  have hZ5 : Arr 32 (w4.alloc (.cells #[.int .u32 0, .int .u32 0, .int .u32 0, .int .u32 0, .int .u32 0, .int .u32 0, .int .u32 0, .int .u32 0] 32)) w4.heap.size zeros8 := arr_new w4 zeros8 _
  have hN5 := arr_row (cs := (wvs N).toArray) (arr_old hN4 (.cells #[.int .u32 0, .int .u32 0, .int .u32 0, .int .u32 0, .int .u32 0, .int .u32 0, .int .u32 0, .int .u32 0] 32)) (Nat.ne_of_lt hN4.lt)
  have hB5 := below_setRow (hB4.alloc hB4.size (.cells #[.int .u32 0, .int .u32 0, .int .u32 0, .int .u32 0, .int .u32 0, .int .u32 0, .int .u32 0, .int .u32 0] 32)) hB4.size (wvs N).toArray
  have hM5 : Arr 32 ((w4.alloc (.cells #[.int .u32 0, .int .u32 0, .int .u32 0, .int .u32 0, .int .u32 0, .int .u32 0, .int .u32 0, .int .u32 0] 32)).setRow w4.heap.size (wvs N).toArray) w4.heap.size N := setRow_heap _ _ _ (wvs N).toArray _ _ hZ5
  have hcI : ((c : Int) == (c : Int)) = true := by simp
  clear hA0 hA1 hA2 hA3 hZ3 hN3 c2 c3 hGa hb0 hb1 hb2 hB3
  go_wp2_with (first | (refine wpList_store_row rfl 32 (.tmp 11) (.tmp 29) rfl w4.heap.size (wvs N).toArray rfl rfl 32 _ hZ5 hzN hold2 (wvs_one _) ?_) | (refine wpList_load_row rfl 32 (.tmp 9) rfl Ga rfl 32 _ (0, 0) _ hN5 Tryd.underlying32 rfl hzN ?_) | (refine wpList_load_row rfl 32 (.tmp 11) rfl w4.heap.size rfl 32 _ (0, 0) _ hM5 Tryd.underlying32 rfl hzN ?_) | (refine list_val rfl (ex_eqW hN rfl rfl rfl _) ?_))
  go_ret
  exact ⟨rfl, hB5⟩
theorem walk_compress' (D : Dev L) (z0 : List R) (a1 : ByteArray) (a2 : Int) (a3 : Bool) (W : World) (hL0 : L W) (w0 : z0.length = 8) (w1 : a1.size ≤ 140737488351232) (w2 : (Lit.int .u64 a2).wf = true) :
    Calls Tryd.prog 5 #[av z0, .string a1, .int .u64 a2, .bool a3] W fun e w' => e = .returned (.bool true) ∧ Below W.heap.size W w' := by
  obtain ⟨w2a, w2b⟩ : 0 ≤ a2 ∧ a2 ≤ 18446744073709551615 := (Lit.wf_int_iff .u64 _).1 w2
  obtain ⟨n, rfl⟩ : ∃ n : Nat, a2 = (n : Int) := ⟨a2.toNat, by omega⟩
  exact walk_compress D z0 a1 n a3 W hL0 w0 w1 (by omega)
end Go.Proofs.YtkppepdniehoiaaDoor.B4
