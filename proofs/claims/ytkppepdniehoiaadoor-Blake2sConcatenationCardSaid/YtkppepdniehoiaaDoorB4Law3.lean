/- The walk of the law Blake2sIteration, under the package's contracts. -/
import Derived.Test.YtkppepdniehoiaaDoorB4Law2
import Derived.Test.YtkppepdniehoiaaDoorB4Ref2
import Derived.Deep.RegionHeld3
import Derived.Deep.WholeRow
namespace Go.Proofs.YtkppepdniehoiaaDoor.B4
open Go.RowKit Mem
set_option linter.unusedVariables false
set_option linter.unusedSimpArgs false
variable {L : World → Prop}

theorem digF_more {l : List UInt8} {k : Nat} (f : Nat) (h : List R) (hk : ¬ l.length ≤ k + 64) : digF l (f + 1) k h = digF l f (k + 64) (cmpL h ((l.drop k).take 64) (k + 64) false) := by
  show (if _ then _ else _) = _
  rw [if_neg hk]
theorem digF_last {l : List UInt8} {k : Nat} (f : Nat) (h : List R) (hk : l.length ≤ k + 64) : digF l (f + 1) k h = cmpL h (pad (l.drop k)) l.length true := by
  show (if _ then _ else _) = _
  rw [if_pos hk]
def zeros8 : List R := [0, 0, 0, 0, 0, 0, 0, 0]
theorem row_take (s : ByteArray) (n : Nat) : (s.extract 0 n).data.toList = s.data.toList.take n := by
  simp [List.extract_eq_take_drop]
theorem row_drop (s : ByteArray) (n : Nat) : (s.extract n s.size).data.toList = s.data.toList.drop n := by
  simp only [ByteArray.data_extract, Array.toList_extract, List.extract_eq_take_drop]
  rw [List.take_of_length_le (by simp)]
theorem hi8 (l : List R) (h : l.length = 8) : (Tryd.prog.info? 32).map (·.size) = some (wvs l).toArray.size := by rw [info_8w]; simp [wvs_len, h]
theorem yieldsIf_load_row {P : Program} {ops : Array Oper} {S : World → Prop} {o : Oper} {a : Act} (hw : Region.wanted o (yielded ops a.tmps) = true) (ty : TypeId) (x : Operand) (ho : o.op = .load ty x)
    (G : Nat) (hx : a.eval x = .pointer (some ⟨G, 0, none⟩)) (t : TypeId) (cs : Array Value) (fr : Nat × Nat) (d : TypeDesc) (hS : ∀ w, S w → w.heap[G]? = some (.cells cs t fr))
    (hu : P.underlying ty = some d) (hd : (match d with | .struct _ | .array _ _ => true | _ => false) = true) (hi : (P.info? ty).map (·.size) = some cs.size) : YieldsIf P ops S o (.agg cs) a :=
  .inl ⟨hw, fun w hw' => by
    unfold execOp
    simp only [ho, hx, Instr.loadAt, Instr.sureAddr, Sem.run_bind, Sem.run_pure, Result.andThen_ok, run_loadVar_row w G t ty cs fr d (hS w hw') hu hd hi]⟩
def strLen : Value → Nat
  | .string b => b.size
  | _ => 0
theorem list8 (l : List R) (h : l.length = 8) : ∃ a0 a1 a2 a3 a4 a5 a6 a7, l = [a0, a1, a2, a3, a4, a5, a6, a7] := by
  match l, h with
  | [a0, a1, a2, a3, a4, a5, a6, a7], _ => exact ⟨a0, a1, a2, a3, a4, a5, a6, a7, rfl⟩
theorem cells8 {t : TypeId} {w : World} {H : Nat} {a0 a1 a2 a3 a4 a5 a6 a7 : R} (h : Arr t w H [a0, a1, a2, a3, a4, a5, a6, a7]) :
    w.cell? ⟨H, 0, none⟩ = some (.int .u32 (a0.toNat : Int)) ∧ w.cell? ⟨H, 1, none⟩ = some (.int .u32 (a1.toNat : Int)) ∧ w.cell? ⟨H, 2, none⟩ = some (.int .u32 (a2.toNat : Int)) ∧ w.cell? ⟨H, 3, none⟩ = some (.int .u32 (a3.toNat : Int)) ∧
    w.cell? ⟨H, 4, none⟩ = some (.int .u32 (a4.toNat : Int)) ∧ w.cell? ⟨H, 5, none⟩ = some (.int .u32 (a5.toNat : Int)) ∧ w.cell? ⟨H, 6, none⟩ = some (.int .u32 (a6.toNat : Int)) ∧ w.cell? ⟨H, 7, none⟩ = some (.int .u32 (a7.toNat : Int)) :=
  ⟨h.cell 0 (by simp), h.cell 1 (by simp), h.cell 2 (by simp), h.cell 3 (by simp), h.cell 4 (by simp), h.cell 5 (by simp), h.cell 6 (by simp), h.cell 7 (by simp)⟩
theorem frz8 {t : TypeId} {w : World} {H : Nat} {l : List R} (h : Arr t w H l) :
    w.frozen? ⟨H, 0, none⟩ = false ∧ w.frozen? ⟨H, 1, none⟩ = false ∧ w.frozen? ⟨H, 2, none⟩ = false ∧ w.frozen? ⟨H, 3, none⟩ = false ∧ w.frozen? ⟨H, 4, none⟩ = false ∧ w.frozen? ⟨H, 5, none⟩ = false ∧ w.frozen? ⟨H, 6, none⟩ = false ∧ w.frozen? ⟨H, 7, none⟩ = false :=
  ⟨h.froz 0, h.froz 1, h.froz 2, h.froz 3, h.froz 4, h.froz 5, h.froz 6, h.froz 7⟩
theorem arr_row {t : TypeId} {w : World} {G H : Nat} {l : List R} {cs : Array Value} (h : Arr t w G l) (hne : G ≠ H) : Arr t (w.setRow H cs) G l := (setRow_other w H G cs hne).trans h
theorem wvs_mem (l : List R) : ∀ v ∈ wvs l, v.oneCell' = true := by
  intro v hv
  simp [wvs] at hv
  obtain ⟨x, _, rfl⟩ := hv
  rfl
theorem store8 (w : World) (G : Nat) (b0 b1 b2 b3 b4 b5 b6 b7 : R) (h : Arr 32 w G zeros8) :
    (Instr.storeAt 32 (.pointer (some ⟨G, 0, none⟩)) (.agg #[.int .u32 (b0.toNat : Int), .int .u32 (b1.toNat : Int), .int .u32 (b2.toNat : Int), .int .u32 (b3.toNat : Int), .int .u32 (b4.toNat : Int), .int .u32 (b5.toNat : Int), .int .u32 (b6.toNat : Int), .int .u32 (b7.toNat : Int)])).run Tryd.prog w = .ok () (w.setRow G #[.int .u32 (b0.toNat : Int), .int .u32 (b1.toNat : Int), .int .u32 (b2.toNat : Int), .int .u32 (b3.toNat : Int), .int .u32 (b4.toNat : Int), .int .u32 (b5.toNat : Int), .int .u32 (b6.toNat : Int), .int .u32 (b7.toNat : Int)]) := by
  have := run_storeVar_row (P := Tryd.prog) w G 32 32 _ #[.int .u32 (b0.toNat : Int), .int .u32 (b1.toNat : Int), .int .u32 (b2.toNat : Int), .int .u32 (b3.toNat : Int), .int .u32 (b4.toNat : Int), .int .u32 (b5.toNat : Int), .int .u32 (b6.toNat : Int), .int .u32 (b7.toNat : Int)] h (hi8 [b0, b1, b2, b3, b4, b5, b6, b7] rfl) rfl (wvs_one [b0, b1, b2, b3, b4, b5, b6, b7])
  simp only [Instr.storeAt, Instr.sureAddr, Sem.run_bind, Sem.run_pure, Result.andThen]
  exact this
theorem store8c (w : World) (G : Nat) (b0 b1 b2 b3 b4 b5 b6 b7 : R) (h : Arr 32 w G zeros8) :
    (storeCells ⟨G, 0, none⟩ [.int .u32 (b0.toNat : Int), .int .u32 (b1.toNat : Int), .int .u32 (b2.toNat : Int), .int .u32 (b3.toNat : Int), .int .u32 (b4.toNat : Int), .int .u32 (b5.toNat : Int), .int .u32 (b6.toNat : Int), .int .u32 (b7.toNat : Int)] 0).run Tryd.prog w = .ok () (w.setRow G #[.int .u32 (b0.toNat : Int), .int .u32 (b1.toNat : Int), .int .u32 (b2.toNat : Int), .int .u32 (b3.toNat : Int), .int .u32 (b4.toNat : Int), .int .u32 (b5.toNat : Int), .int .u32 (b6.toNat : Int), .int .u32 (b7.toNat : Int)]) :=
  run_storeCells_from (P := Tryd.prog) G 32 [.int .u32 (b0.toNat : Int), .int .u32 (b1.toNat : Int), .int .u32 (b2.toNat : Int), .int .u32 (b3.toNat : Int), .int .u32 (b4.toNat : Int), .int .u32 (b5.toNat : Int), .int .u32 (b6.toNat : Int), .int .u32 (b7.toNat : Int)] 0 _ w h rfl (wvs_mem [b0, b1, b2, b3, b4, b5, b6, b7])
theorem Arr.lt {t : TypeId} {w : World} {G : Nat} {l : List R} (h : Arr t w G l) : G < w.heap.size := by
  rcases Nat.lt_or_ge G w.heap.size with h' | h'
  · exact h'
  · unfold Arr at h
    simp [Array.getElem?_eq_none h'] at h

set_option maxHeartbeats 2000000 in
theorem walk_iteration (D : Dev L) (s : ByteArray) (w : World) (hL0 : L w) (hs : s.size ≤ 140737488351232) :
    Calls Tryd.prog 6 #[.string s] w fun e w' => e = .returned (.bool true) ∧ Below w.heap.size w w' := by
  by_cases h1 : 1000 < s.size
  · have d1 : decide ((1000 : Int) < (s.size : Int)) = true := decide_eq_true (by omega)
    go_enter Tryd.func6, Tryd.ntmps6
    go_wp2_with fail
    refine (alive_any D _ hL0).mono ?_
    rintro e w7 ⟨rfl, hb7⟩
    go_wp2
    go_ret
    exact ⟨rfl, hb7⟩
  · have d1 : decide ((1000 : Int) < (s.size : Int)) = false := decide_eq_false (by omega)
    have hs1 : s.size ≤ 1000 := by omega
    clear h1
    have c1 := Lib.hid (fun W (h : L W) => sum1 D s W (by omega) h)
    go_enter Tryd.func6, Tryd.ntmps6
    go_wp2_with fail
    refine (alive_any D _ hL0).mono ?_
    rintro e w7 ⟨rfl, hb7⟩
    have hL7 := D.keep hL0 hb7
    go_wp2_with fail
    refine (rinit_any _).mono ?_
    rintro e w8 ⟨rfl, hb8⟩
    have hL8 := D.keep hL7 hb8
    unfold av
    obtain ⟨H, hH⟩ : ∃ H, w8.heap.size = H := ⟨_, rfl⟩
    have hA0 : Arr 32 (w8.alloc (.cells #[.int .u32 0, .int .u32 0, .int .u32 0, .int .u32 0, .int .u32 0, .int .u32 0, .int .u32 0, .int .u32 0] 32)) H zeros8 := by rw [← hH]; exact arr_new _ zeros8 _
    have hA1 : Arr 32 ((w8.alloc (.cells #[.int .u32 0, .int .u32 0, .int .u32 0, .int .u32 0, .int .u32 0, .int .u32 0, .int .u32 0, .int .u32 0] 32)).setRow H (wvs ivL).toArray) H ivL := setRow_heap _ H _ (wvs ivL).toArray _ _ hA0
    have hb9 := below_setRow ((Below.refl w8.heap.size w8).alloc (Nat.le_refl _) (.cells #[.int .u32 0, .int .u32 0, .int .u32 0, .int .u32 0, .int .u32 0, .int .u32 0, .int .u32 0, .int .u32 0] 32)) (show w8.heap.size ≤ H by omega) (wvs ivL).toArray
    have e1 : ((w8.alloc (.cells #[.int .u32 0, .int .u32 0, .int .u32 0, .int .u32 0, .int .u32 0, .int .u32 0, .int .u32 0, .int .u32 0] 32)).setRow H (wvs ivL).toArray).cell? ⟨H, 0, none⟩ = some (.int .u32 1779033703) := hA1.cell 0 (by decide)
    have e2 : ((w8.alloc (.cells #[.int .u32 0, .int .u32 0, .int .u32 0, .int .u32 0, .int .u32 0, .int .u32 0, .int .u32 0, .int .u32 0] 32)).setRow H (wvs ivL).toArray).frozen? ⟨H, 0, none⟩ = false := hA1.froz 0
    have e3 : bits .xor .u32 1779033703 16842784 = 1795745351 := by decide
    have hA2 : Arr 32 (((w8.alloc (.cells #[.int .u32 0, .int .u32 0, .int .u32 0, .int .u32 0, .int .u32 0, .int .u32 0, .int .u32 0, .int .u32 0] 32)).setRow H (wvs ivL).toArray).setCell ⟨H, 0, none⟩ (.int .u32 1795745351)) H h0L := hA1.set 0 1795745351#32
    have hb10 := hb9.setCell (p := ⟨H, 0, none⟩) (show w8.heap.size ≤ H by omega) (.int .u32 1795745351)
    go_wp2_with (refine wpList_store_row rfl 32 (.tmp 3) (.tmp 15) rfl H _ rfl rfl 32 _ hA0 (hi8 _ (by rfl)) rfl (wvs_one _) ?_)
    change Code.wp _ _ _ _ (((w8.alloc (.cells #[.int .u32 0, .int .u32 0, .int .u32 0, .int .u32 0, .int .u32 0, .int .u32 0, .int .u32 0, .int .u32 0] 32)).setRow H (wvs ivL).toArray).setCell ⟨H, 0, none⟩ (.int .u32 1795745351))
    generalize (((w8.alloc (.cells #[.int .u32 0, .int .u32 0, .int .u32 0, .int .u32 0, .int .u32 0, .int .u32 0, .int .u32 0, .int .u32 0] 32)).setRow H (wvs ivL).toArray).setCell ⟨H, 0, none⟩ (.int .u32 1795745351)) = w9 at hA2 hb10 ⊢
    clear hA0 hA1 hb9 e1 e2 e3
    have hL9 := D.keep hL8 hb10
    have hHge : w8.heap.size ≤ H := by omega
    go_loopw [4] (fun r wr => ∃ (k f : Nat) (Q : ByteArray) (h : List R), k ≤ s.size ∧ r = .string Q ∧ Hid (Q.data.toList = s.data.toList.drop k) ∧ Q.size + k = s.size ∧ s.size < f + k ∧ h.length = 8 ∧
      Hid (digF s.data.toList (s.size + 1) 0 h0L = digF s.data.toList f k h) ∧ Arr 32 wr H h ∧ Below w8.heap.size w8 wr) (fun r _ => strLen r)
    case atStart => exact ⟨0, s.size + 1, s, h0L, Nat.zero_le _, rfl, Lib.hid rfl, rfl, by omega, rfl, Lib.hid rfl, hA2, hb10⟩
    case round =>
      obtain ⟨k, f, Q, h, hk, rfl, hQ, hQs, hf, hl, hD, hA, hb⟩ := hrel
      obtain ⟨a0, a1, a2, a3, a4, a5, a6, a7, rfl⟩ := list8 h hl
      by_cases h64 : 64 < Q.size
      · have d2 : decide ((64 : Int) < (Q.size : Int)) = true := decide_eq_true (by omega)
        obtain ⟨f, rfl⟩ : ∃ g, f = g + 1 := ⟨f - 1, by omega⟩
        have hD' := hD.out.trans (digF_more f _ (show ¬ s.data.toList.length ≤ k + 64 by show ¬ s.size ≤ k + 64; omega))
        obtain ⟨P, hP⟩ : ∃ P, Q.extract 0 64 = P := ⟨_, rfl⟩
        obtain ⟨Z, hZ⟩ : ∃ Z, Q.extract 64 Q.size = Z := ⟨_, rfl⟩
        have hPs : P.size = 64 := by rw [← hP]; simp; omega
        have hPl : (s.data.toList.drop k).take 64 = P.data.toList := by rw [← hP, row_take, hQ.out]
        have hZs : Z.size + (k + 64) = s.size := by rw [← hZ]; simp; omega
        have hZl : Z.data.toList = s.data.toList.drop (k + 64) := by rw [← hZ, row_drop, hQ.out, List.drop_drop]
        rw [hPl] at hD'
        have c2 := fun W (h : L W) => D.compress [a0, a1, a2, a3, a4, a5, a6, a7] P (k + 64) false W rfl (by omega) (by omega) h
        unfold cmpV at c2
        rw [show P.data.toList.length = 64 from hPs, if_pos rfl] at c2
        obtain ⟨N, hN⟩ : ∃ N, cmpL [a0, a1, a2, a3, a4, a5, a6, a7] P.data.toList (k + 64) false = N := ⟨_, rfl⟩
        have hNl : N.length = 8 := by rw [← hN, cmpL_len]
        rw [hN] at c2 hD'
        obtain ⟨b0, b1, b2, b3, b4, b5, b6, b7, rfl⟩ := list8 N hNl
        have hcount' : (((k + 64 : Nat)) : Int) = (k : Int) + 64 := by omega
        rw [hcount'] at c2
        have c2 : ∀ (W : World), L W → Calls Tryd.prog 15 #[.agg #[.int .u32 (a0.toNat : Int), .int .u32 (a1.toNat : Int), .int .u32 (a2.toNat : Int), .int .u32 (a3.toNat : Int), .int .u32 (a4.toNat : Int), .int .u32 (a5.toNat : Int), .int .u32 (a6.toNat : Int), .int .u32 (a7.toNat : Int)], .string P, .int .u64 ((k : Int) + 64), .bool false] W fun e w' => e = .returned (.tuple #[.agg #[.int .u32 (b0.toNat : Int), .int .u32 (b1.toNat : Int), .int .u32 (b2.toNat : Int), .int .u32 (b3.toNat : Int), .int .u32 (b4.toNat : Int), .int .u32 (b5.toNat : Int), .int .u32 (b6.toNat : Int), .int .u32 (b7.toNat : Int)], .int .i64 0]) ∧ Below W.heap.size W w' := c2
        have hst := fun (w : World) (G : Nat) (h : Arr 32 w G zeros8) => store8c w G b0 b1 b2 b3 b4 b5 b6 b7 h
        have hst : ∀ (w : World) (G : Nat), Arr 32 w G zeros8 → (storeCells ⟨G, 0, none⟩ (#[.int .u32 (b0.toNat : Int), .int .u32 (b1.toNat : Int), .int .u32 (b2.toNat : Int), .int .u32 (b3.toNat : Int), .int .u32 (b4.toNat : Int), .int .u32 (b5.toNat : Int), .int .u32 (b6.toNat : Int), .int .u32 (b7.toNat : Int)] : Array Value).toList 0).run Tryd.prog w = .ok () (w.setRow G #[.int .u32 (b0.toNat : Int), .int .u32 (b1.toNat : Int), .int .u32 (b2.toNat : Int), .int .u32 (b3.toNat : Int), .int .u32 (b4.toNat : Int), .int .u32 (b5.toNat : Int), .int .u32 (b6.toNat : Int), .int .u32 (b7.toNat : Int)]) := hst
        have hnew : ∀ w : World, (storeCells ⟨w.heap.size, 0, none⟩ (#[.int .u32 (b0.toNat : Int), .int .u32 (b1.toNat : Int), .int .u32 (b2.toNat : Int), .int .u32 (b3.toNat : Int), .int .u32 (b4.toNat : Int), .int .u32 (b5.toNat : Int), .int .u32 (b6.toNat : Int), .int .u32 (b7.toNat : Int)] : Array Value).toList 0).run Tryd.prog (w.alloc (.cells #[.int .u32 0, .int .u32 0, .int .u32 0, .int .u32 0, .int .u32 0, .int .u32 0, .int .u32 0, .int .u32 0] 32)) = .ok () (w.alloc (.cells #[.int .u32 (b0.toNat : Int), .int .u32 (b1.toNat : Int), .int .u32 (b2.toNat : Int), .int .u32 (b3.toNat : Int), .int .u32 (b4.toNat : Int), .int .u32 (b5.toNat : Int), .int .u32 (b6.toNat : Int), .int .u32 (b7.toNat : Int)] 32)) := fun w =>
          run_storeCells_new w 32 _ _ (hi8 [b0, b1, b2, b3, b4, b5, b6, b7] rfl) rfl (wvs_one [b0, b1, b2, b3, b4, b5, b6, b7])
        obtain ⟨cs, hcs⟩ : ∃ cs : Array Value, cs = #[.int .u32 (b0.toNat : Int), .int .u32 (b1.toNat : Int), .int .u32 (b2.toNat : Int), .int .u32 (b3.toNat : Int), .int .u32 (b4.toNat : Int), .int .u32 (b5.toNat : Int), .int .u32 (b6.toNat : Int), .int .u32 (b7.toNat : Int)] := ⟨_, rfl⟩
        have hcz : cs.size = 8 := by rw [hcs]; rfl
        rw [← hcs] at c2 hst hnew
        have hcsh := Lib.hid hcs
        clear hcs
        have hst := Lib.hid hst
        have c2 := Lib.hid c2
        have hD' := Lib.hid hD'
        have hZlh := Lib.hid hZl
        clear hZl
        have hcount : (s.size : Int) - (Q.size : Int) = (k : Int) := by omega
        have u1 : IntKind.i64.wrap ((s.size : Int) - (Q.size : Int)) = (k : Int) := by rw [hcount]; exact IntWalk.i64_in _ (by omega)
        have u2 : IntKind.i64.wrap ((k : Int) + 64) = (k : Int) + 64 := IntWalk.i64_in _ (by omega)
        have u3 : IntKind.u64.wrap ((k : Int) + 64) = (k : Int) + 64 := IntWalk.u64_in _ (by omega)
        have i1 : (64 : Int) ≤ (Q.size : Int) := by omega
        have hLr := D.keep hL8 hb
        clear hD hPl hN hcount hcount'
        have hHne : H ≠ wr.heap.size := Nat.ne_of_lt hA.lt
        go_wp2_with fail
        go_region_held3 (fun W => W.cell? ⟨H, 0, none⟩ = some (.int .u32 (a0.toNat : Int)) ∧ W.cell? ⟨H, 1, none⟩ = some (.int .u32 (a1.toNat : Int)) ∧ W.cell? ⟨H, 2, none⟩ = some (.int .u32 (a2.toNat : Int)) ∧ W.cell? ⟨H, 3, none⟩ = some (.int .u32 (a3.toNat : Int)) ∧ W.cell? ⟨H, 4, none⟩ = some (.int .u32 (a4.toNat : Int)) ∧ W.cell? ⟨H, 5, none⟩ = some (.int .u32 (a5.toNat : Int)) ∧ W.cell? ⟨H, 6, none⟩ = some (.int .u32 (a6.toNat : Int)) ∧ W.cell? ⟨H, 7, none⟩ = some (.int .u32 (a7.toNat : Int))) (first | (with_reducible exact cells8 hA) | (with_reducible exact cells8 hA.drew) | (with_reducible exact cells8 (arr_old hA _)) | (with_reducible exact cells8 (arr_old hA.drew _)) | (with_reducible exact cells8 (arr_row hA hHne))) (first
          | (go_at_call 15; refine (c2.out _ ?_).mono ?_; (· (first | exact D.drew hLr | exact D.alloc (D.drew hLr) _)); rintro e w1 ⟨rfl, hb1⟩; have hBw := chain (by first | exact (Below.refl wr.heap.size wr).drew | exact ((Below.refl wr.heap.size wr).drew).alloc (Nat.le_refl _) _) hb1; have hA := hA.below hBw; try (have hZ : Arr 32 w1 wr.heap.size zeros8 := (arr_new wr.drew zeros8 32).below hb1; have hstB := hst.out _ _ hZ)))
        all_goals
          first
          | (have hH2 := arr_row (cs := cs) hA hHne
             have hG2 := setRow_heap w1 wr.heap.size _ cs _ _ hZ
             have hB2 := below_setRow hBw (Nat.le_refl wr.heap.size) cs
             generalize w1.setRow wr.heap.size cs = w2 at hH2 hG2 hB2 ⊢
             generalize wr.heap.size = Gb at hG2 hHne ⊢
             clear hA hBw)
          | (have hH2 := arr_old hA (.cells cs 32)
             have hG2 : (w1.alloc (.cells cs 32)).heap[w1.heap.size]? = some (.cells cs 32 (0, 0)) := heap_alloc_new w1 _
             have hB2 := hBw.alloc hBw.size (.cells cs 32)
             generalize w1.alloc (.cells cs 32) = w2 at hH2 hG2 hB2 ⊢
             have hHne : H ≠ w1.heap.size := Nat.ne_of_lt hA.lt
             generalize w1.heap.size = Gb at hG2 hHne ⊢
             clear hA hBw)
          have hm8 : ∀ v ∈ cs.toList, v.oneCell' = true := by rw [hcsh.out]; exact wvs_mem [b0, b1, b2, b3, b4, b5, b6, b7]
          have hH3 : Arr 32 (w2.drew.setRow H cs) H [b0, b1, b2, b3, b4, b5, b6, b7] := by
            have := setRow_heap w2.drew H _ cs _ _ hH2
            rw [hcsh.out] at this ⊢
            exact this
          have hB3 := below_setRow (chain hb hB2).drew hHge cs
          have hG3 := (setRow_other w2.drew H Gb cs hHne.symm).trans hG2
          have hz8 : (Tryd.prog.info? 32).map (·.size) = some cs.size := by rw [hcz]; exact info_8w
          have ho8 : (wvs [a0, a1, a2, a3, a4, a5, a6, a7]).toArray.size = cs.size := hcz.symm
          have hone8 : cs.all (·.oneCell') = true := by rw [hcsh.out]; exact wvs_one [b0, b1, b2, b3, b4, b5, b6, b7]
          go_wp2_with fail
          refine wp_region_noPanic ?_
          refine wp_region_held_drew (S := fun W => W.heap[Gb]? = some (.cells cs 32 (0, 0))) (by kernel_rfl) hG2 (fun hHeld => ?_)
          refine wpAnyH_take (i := 0) (oi := ⟨some 40, _, _, _, _, _⟩) (v := .agg cs) rfl (by kernel_rfl) (by kernel_rfl) (by kernel_rfl) (fun _ _ _ h => h) (yieldsIf_load_row rfl 32 (.tmp 5) rfl Gb rfl 32 cs (0, 0) _ (fun W h => h) Tryd.underlying32 rfl hz8) hHeld ?_
          simp only [Act.put, List.setIfInBounds_toArray, List.set_cons_zero, List.set_cons_succ]
          refine wpAnyH_take (i := 1) (oi := ⟨some 41, _, _, _, _, _⟩) (v := .string Q) rfl (by kernel_rfl) (by kernel_rfl) (by kernel_rfl) (fun _ _ _ h => h) (.inl ⟨rfl, fun W h => rfl⟩) hHeld ?_
          simp only [Act.put, List.setIfInBounds_toArray, List.set_cons_zero, List.set_cons_succ]
          refine wpAnyH_take (i := 2) (oi := ⟨some 42, _, _, _, _, _⟩) (v := .string Z) rfl (by kernel_rfl) (by kernel_rfl) (by kernel_rfl) (fun _ _ _ h => h) (.inl ⟨rfl, fun W h => by clear h; go_simp⟩) hHeld ?_
          simp only [Act.put, List.setIfInBounds_toArray, List.set_cons_zero, List.set_cons_succ]
          refine wpAnyH_ready (rs := [3]) (by kernel_rfl) (by simp) ?_
          refine AllReadyH.cons (o := ⟨none, _, _, _, _, _⟩) rfl (fun K hK => ?_) AllReadyH.nil
          rw [if_pos (by rfl)]
          refine wp_store_row 32 (.tmp 3) (.tmp 40) rfl H cs rfl rfl 32 _ hH2 hz8 ho8 hone8 ?_
          refine hK.out _ _ hG3 (fun hHeld => ?_)
          clear hK K
          simp only [Act.put, List.setIfInBounds_toArray, List.set_cons_zero, List.set_cons_succ]
          refine wpAnyH_take (i := 4) (oi := ⟨some 4, _, _, _, _, _⟩) (v := .string Z) rfl (by kernel_rfl) (by kernel_rfl) (by kernel_rfl) (fun _ _ _ h => h) (.inl ⟨rfl, fun W h => rfl⟩) hHeld ?_
          simp only [Act.put, List.setIfInBounds_toArray, List.set_cons_zero, List.set_cons_succ]
          refine wpAnyH_done (by kernel_rfl) ?_ _
          refine NoPanic.normal ?_
          go_wp2
          go_roundw
          case rel => exact ⟨k + 64, f, Z, [b0, b1, b2, b3, b4, b5, b6, b7], by omega, rfl, hZlh, hZs, by omega, rfl, hD', hH3, hB3⟩
          case measure => simp only [strLen]; omega
      · have d2 : decide ((64 : Int) < (Q.size : Int)) = false := decide_eq_false (by omega)
        obtain ⟨f, rfl⟩ : ∃ g, f = g + 1 := ⟨f - 1, by omega⟩
        have hD' := hD.out.trans (digF_last f _ (show s.data.toList.length ≤ k + 64 by show s.size ≤ k + 64; omega))
        rw [← hQ.out] at hD'
        have hq64 : Q.size ≤ 64 := by omega
        have hpl : (pad Q.data.toList).length = 64 := by
          unfold pad
          rw [List.length_append, List.length_replicate]
          show Q.size + (64 - Q.size) = 64
          omega
        have hpd : pad Q.data.toList = Q.data.toList ++ List.replicate (64 - Q.size) 0 := rfl
        obtain ⟨T, hT⟩ : ∃ T, pad Q.data.toList = T := ⟨_, rfl⟩
        rw [hT] at hD' hpl hpd
        rw [show s.data.toList.length = s.size from rfl] at hD'
        have c2 := fun W (h : L W) => D.compress [a0, a1, a2, a3, a4, a5, a6, a7] ⟨T.toArray⟩ s.size true W rfl (by rw [str_size]; omega) (by omega) h
        unfold cmpV at c2
        rw [str_list, if_pos hpl] at c2
        obtain ⟨N, hN⟩ : ∃ N, cmpL [a0, a1, a2, a3, a4, a5, a6, a7] T s.size true = N := ⟨_, rfl⟩
        have hNl : N.length = 8 := by rw [← hN, cmpL_len]
        rw [hN] at c2 hD'
        obtain ⟨cs, hcs⟩ : ∃ cs : Array Value, cs = (wvs N).toArray := ⟨_, rfl⟩
        have hcz : cs.size = 8 := by rw [hcs]; simp [wvs_len, hNl]
        have hone8 : cs.all (·.oneCell') = true := by rw [hcs]; exact wvs_one N
        have c2 : ∀ (W : World), L W → Calls Tryd.prog 15 #[.agg #[.int .u32 (a0.toNat : Int), .int .u32 (a1.toNat : Int), .int .u32 (a2.toNat : Int), .int .u32 (a3.toNat : Int), .int .u32 (a4.toNat : Int), .int .u32 (a5.toNat : Int), .int .u32 (a6.toNat : Int), .int .u32 (a7.toNat : Int)], .string ⟨T.toArray⟩, .int .u64 (s.size : Int), .bool true] W fun e w' => e = .returned (.tuple #[.agg cs, .int .i64 0]) ∧ Below W.heap.size W w' := by
          rw [hcs]; exact c2
        have hdig : digL s.data.toList = outL N := by
          show outL (digF s.data.toList (s.size + 1) 0 h0L) = _
          rw [hD']
        have hcsh := Lib.hid hcs
        have c2 := Lib.hid c2
        have hdigh := Lib.hid hdig
        have hpdh := Lib.hid hpd
        clear hdig hpd
        have hLr := D.keep hL8 hb
        clear hcs hN hT hD' hD
        go_wp2_with fail
        go_loopw [4] (fun r wq => ∃ (j d : Nat) (l : List UInt8), Q.size + j ≤ 64 ∧ l.length = Q.size + j ∧ Hid (l = Q.data.toList ++ List.replicate j 0) ∧ r = .string ⟨l.toArray⟩ ∧ wq = wr.drewN d) (fun r _ => 64 - strLen r)
        case atStart => exact ⟨0, 0, Q.data.toList, by omega, rfl, Lib.hid (by simp), rfl, rfl⟩
        case round =>
          obtain ⟨j, d, l, hj, hll, hlv, rfl, rfl⟩ := hrel
          by_cases hlt : l.length < 64
          · have d3 : decide ((l.length : Int) < 64) = true := decide_eq_true (by omega)
            have hsa := Lib.hid (sapp l [0])
            have hl2 := Lib.hid (show l ++ [0] = Q.data.toList ++ List.replicate (j + 1) 0 by rw [hlv.out, List.append_assoc, List.replicate_succ'])
            have hl3 : (l ++ [0]).length = Q.size + (j + 1) := by rw [List.length_append, hll]; rfl
            go_wp2
            go_roundw
            case rel => exact ⟨j + 1, d, l ++ [0], by omega, hl3, hl2, by rw [← sapp], rfl⟩
            case measure => simp only [strLen, ByteArray.size_append, str_size]; simp [ByteArray.size]; omega
          · have hje : j = 64 - Q.size := by omega
            have hlT : l = T := by rw [hlv.out, hpdh.out, hje]
            subst hlT
            clear hje
            have hLd := D.drewN hLr d
            have hH2 : Arr 32 (wr.drewN d) H [a0, a1, a2, a3, a4, a5, a6, a7] := hA
            obtain ⟨k0, k1, k2, k3, k4, k5, k6, k7⟩ := cells8 hH2
            have hb2 : Below w8.heap.size w8 (wr.drewN d) := chainN hb d
            generalize wr.drewN d = w2 at hH2 k0 k1 k2 k3 k4 k5 k6 k7 hb2 hLd ⊢
            go_wp2_with fail
            refine (c2.out _ hLd).mono ?_
            rintro e w3 ⟨rfl, hb3⟩
            have hL3 := D.keep hLd hb3
            have hH3 := hH2.below hb3
            have hz8 : (Tryd.prog.info? 32).map (·.size) = some cs.size := by rw [hcz]; exact info_8w
            have ho8 : (wvs [a0, a1, a2, a3, a4, a5, a6, a7]).toArray.size = cs.size := hcz.symm
            have hH4 : Arr 32 (w3.setRow H cs) H N := by
              have := setRow_heap w3 H _ cs _ _ hH3
              rw [hcsh.out] at this ⊢
              exact this
            have hb4 := below_setRow (chain hb2 hb3) hHge cs
            have hL4 := D.keep hL8 hb4
            clear k0 k1 k2 k3 k4 k5 k6 k7
            go_wp2_with (refine wpList_store_row rfl 32 (.tmp 3) (.tmp 55) rfl H cs rfl rfl 32 _ hH3 hz8 ho8 hone8 ?_)
            have hsz : (w3.setRow H cs).heap.size = w3.heap.size := by simp [World.setRow]
            rw [← hsz]
            refine (c1.out _ hL4).mono ?_
            clear hsz
            rintro e w5 ⟨rfl, hb5⟩
            rw [hdigh.out]
            have hH5 := hH4.below hb5
            have hb5' := chain hb4 hb5
            have hB32 : (outL N).length = 32 := by simp [outL]
            have hBi : ∀ i (h : i < 32), (outL N)[i]'(by rw [hB32]; exact h) = outB N i := fun i h => by simp [outL]
            obtain ⟨B, hB⟩ : ∃ B : ByteArray, (⟨(outL N).toArray⟩ : ByteArray) = B := ⟨_, rfl⟩
            have hBs : B.size = 32 := by rw [← hB, str_size]; exact hB32
            have hBj : ∀ i (h : i < B.size), B[i] = outB N i := fun i h => by subst hB; exact hBi i (by rw [← hB32]; exact h)
            rw [hB]
            have hBsI : (B.size : Int) = 32 := by omega
            have hBjh := Lib.hid hBj
            clear hBj hBi hB hB32
            go_wp2_with fail
            go_loopw [9] (fun i wq => ∃ k d : Nat, k ≤ 32 ∧ i = .int .i64 k ∧ wq = w5.drewN d) (fun i _ => 32 - (intOf i).toNat)
            case atStart => exact ⟨0, 0, by omega, rfl, rfl⟩
            case round =>
              obtain ⟨m, dm, hm, rfl, rfl⟩ := hrel
              by_cases hlt : m < 32
              · have hmB : m < B.size := by omega
                have hbv := hBjh.out m hmB
                obtain ⟨p, hp⟩ : ∃ p, m / 4 = p := ⟨_, rfl⟩
                obtain ⟨q, hq⟩ : ∃ q, m % 4 = q := ⟨_, rfl⟩
                unfold outB at hbv
                rw [hp, hq] at hbv
                have hpI : (m : Int) / 4 = (p : Int) := by omega
                have hqI : (m : Int) % 4 = (q : Int) := by omega
                have hp8 : p < 8 := by omega
                have hq4 : q < 4 := by omega
                have e1 := hH5.cell p (by omega)
                obtain ⟨x, hx⟩ : ∃ x, g N p = x := ⟨_, rfl⟩
                rw [hx] at e1 hbv
                have i0 : (0 : Int) ≤ (p : Int) := by omega
                have i1 : (p : Int) < 8 := by omega
                have j0 : (0 : Int) ≤ (m : Int) := by omega
                have j1 : (m : Int) < (B.size : Int) := by omega
                have d4 : decide ((m : Int) < 32) = true := decide_eq_true (by omega)
                have hbvh := Lib.hid hbv
                have bI : (B[m].toNat : Int) = (x.toNat : Int) / 2 ^ (8 * q) % 256 := by
                  rw [hbvh.out, UInt8.toNat_ofNat']
                  simp
                clear hbv hp hq hx hBsI hBs
                match q, hq4 with
                | 0, _ | 1, _ | 2, _ | 3, _ =>
                  go_wp2_with fail
                  go_region
                  go_wp2
                  go_roundw
                  case rel => exact ⟨m + 1, _, by omega, by go_num, rfl⟩
                  case measure => simp [intOf]; omega
              · have d4 : decide ((m : Int) < 32) = false := decide_eq_false (by omega)
                go_wp2
                go_ret
                exact ⟨rfl, chain (chain hb7 hb8) (chainN hb5' _)⟩
end Go.Proofs.YtkppepdniehoiaaDoor.B4
