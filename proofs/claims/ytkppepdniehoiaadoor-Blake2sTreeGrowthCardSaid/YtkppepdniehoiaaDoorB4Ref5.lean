/- The contract of the reference's Digest. -/
import Derived.Test.YtkppepdniehoiaaDoorB4Ref4
namespace Go.Proofs.YtkppepdniehoiaaDoor.B4
open Go.RowKit Mem
set_option linter.unusedVariables false
set_option linter.unusedSimpArgs false
section
variable {o : Oper} {a : Act}
theorem ex_notB {t : Nat} {b : Bool} (ho : o.op = .unOp .not 4 (.tmp t)) (h : At a t (.bool b)) (w : World) : (execOp a.eval o).run Tryd.prog w = .ok (.value (.bool (!b))) w := by
  have e := h.get
  clear h
  unfold execOp
  simp only [ho]
  go_simp
theorem ex_sub2 {s t k n : Nat} (ho : o.op = .binOp .sub 3 (.tmp s) (.tmp t) 3) (h : At a s (.int .i64 (k : Int))) (h' : At a t (.int .i64 (n : Int))) (hk : k < 1000000000) (hn : n ≤ k) (w : World) :
    (execOp a.eval o).run Tryd.prog w = .ok (.value (.int .i64 ((k - n : Nat) : Int))) w := by
  have e := h.get
  have e' := h'.get
  clear h h'
  have hc : (((k - n : Nat)) : Int) = (k : Int) - (n : Int) := by omega
  rw [hc]
  clear hc
  have hw : IntKind.i64.wrap ((k : Int) - (n : Int)) = (k : Int) - (n : Int) := IntWalk.i64_in _ (by omega)
  unfold execOp
  simp only [ho]
  go_simp
theorem ex_gtr {t n c : Nat} (ho : o.op = .binOp .gtr 3 (.tmp t) (.const (.int .i64 (c : Int))) 3) (h : At a t (.int .i64 (n : Int))) (w : World) : (execOp a.eval o).run Tryd.prog w = .ok (.value (.bool (decide (c < n)))) w := by
  have e := h.get
  clear h
  unfold execOp
  simp only [ho]
  go_simp
theorem ex_eql2 {s t k n : Nat} (ho : o.op = .binOp .eql 3 (.tmp s) (.tmp t) 3) (h : At a s (.int .i64 (k : Int))) (h' : At a t (.int .i64 (n : Int))) (w : World) : (execOp a.eval o).run Tryd.prog w = .ok (.value (.bool (decide (k = n)))) w := by
  have e := h.get
  have e' := h'.get
  clear h h'
  have hd : ((k : Int) == (n : Int)) = decide (k = n) := by rw [Bool.eq_iff_iff]; simp; omega
  unfold execOp
  simp only [ho]
  go_simp
theorem ex_slStr2 {t u v : Nat} {n m : Nat} {s : ByteArray} (ho : o.op = .slice 9 (.tmp t) (some (.tmp u)) (some (.tmp v)) none) (hx : At a t (.string s)) (hi : At a u (.int .i64 (n : Int))) (hj : At a v (.int .i64 (m : Int))) (hn : n ≤ m) (hm : m ≤ s.size) (w : World) :
    (execOp a.eval o).run Tryd.prog w = .ok (.value (.string (s.extract n m))) w := by
  have e := hx.get
  have e' := hi.get
  have e'' := hj.get
  have h1 : (n : Int) ≤ (m : Int) := by omega
  have h2 : (m : Int) ≤ (s.size : Int) := by omega
  have h0 : (0 : Int) ≤ (n : Int) := by omega
  have h3 : (0 : Int) ≤ (m : Int) := by omega
  clear hx hi hj
  unfold execOp
  simp only [ho]
  go_simp
theorem ex_cat {t : Nat} {s : ByteArray} {c : ByteArray} (ho : o.op = .binOp .add 9 (.tmp t) (.const (.string c)) 9) (h : At a t (.string s)) (hs : s.size ≤ 1000000) (hc : c.size ≤ 1000000) (w : World) : (execOp a.eval o).run Tryd.prog w = .ok (.value (.string (s ++ c))) w := by
  have e := h.get
  clear h
  have h1 : s.size + c.size ≤ 9223372036854775807 := by omega
  unfold execOp
  simp only [ho]
  go_simp
theorem ex_shrV {s t r : Nat} {x : R} (ho : o.op = .binOp .shr 31 (.tmp s) (.tmp t) 39) (h : At a s (wv x)) (h' : At a t (.int .u64 (r : Int))) (hr : r = 0 ∨ r = 8 ∨ r = 16 ∨ r = 24) (w : World) :
    (execOp a.eval o).run Tryd.prog w = .ok (.value (wv (x >>> r))) w := by
  have e : a.tmps[s]?.getD undef = .int .u32 (x.toNat : Int) := h.get
  have e' := h'.get
  clear h h'
  have hx := x.isLt
  have hs := (shr_nat x r).symm
  obtain ⟨y, hy⟩ : ∃ y, x >>> r = y := ⟨_, rfl⟩
  rw [hy] at hs ⊢
  clear hy
  unfold wv
  rcases hr with rfl | rfl | rfl | rfl
  all_goals
    unfold execOp
    simp only [ho]
    simp only [Nat.reducePow, Int.reducePow, Int.ediv_one] at hs
    go_simp
theorem ex_low {t : Nat} {x : R} (ho : o.op = .convert 31 5 (.tmp t)) (h : At a t (wv x)) (w : World) : (execOp a.eval o).run Tryd.prog w = .ok (.value (.int .u8 ((UInt8.ofNat x.toNat).toNat : Int))) w := by
  have e : a.tmps[t]?.getD undef = .int .u32 (x.toNat : Int) := h.get
  clear h
  have hw : IntKind.u8.wrap (x.toNat : Int) = ((UInt8.ofNat x.toNat).toNat : Int) := by
    rw [UInt8.toNat_ofNat', show IntKind.u8.wrap (x.toNat : Int) = (x.toNat : Int) % 256 from rfl]
    simp
  obtain ⟨c, hc⟩ : ∃ c, UInt8.ofNat x.toNat = c := ⟨_, rfl⟩
  rw [hc] at hw ⊢
  unfold execOp
  simp only [ho]
  go_simp
theorem ex_build1 {t : Nat} {v : Value} (ho : o.op = .buildSlice 46 1 #[(0, .tmp t)]) {n : Int} (hv : v = .int .u8 n) (h : At a t v) (w : World) :
    (execOp a.eval o).run Tryd.prog w = .ok (.value (.slice (some ⟨w.heap.size, 0, none⟩) 1 1)) (w.alloc (.cells #[v] 5)) := by
  subst hv
  have e := h.get
  clear h
  unfold execOp
  simp only [ho]
  go_simp
theorem ex_str {t : Nat} {v : Value} {s : ByteArray} {w : World} (ho : o.op = .convert 46 9 (.tmp t)) (h : At a t v) (hc : (convert 46 9 v).run Tryd.prog w = .ok (.string s) w) : (execOp a.eval o).run Tryd.prog w = .ok (.value (.string s)) w := by
  have e := h.get
  clear h
  unfold execOp
  simp only [ho, Act.eval]
  rw [show a.tmps.getD t undef = v by simpa using e]
  simp [hc, Result.andThen]
end
def MUD (n : Nat) (a : Act) (_ : World) : Nat := match a.eval (.tmp 5) with
  | .bool true => 0
  | _ => n - (intOf (a.eval (.tmp 4))).toNat + 1
def DI (w : World) (s : ByteArray) (H : Nat) (a : Act) (wr : World) : Prop :=
  ∃ (c q : Nat) (d : Bool) (l : List R), a.tmps.size = 69 ∧ a.defers = [] ∧ At a 0 (.string s) ∧ At a 3 (.pointer (some ⟨H, 0, none⟩)) ∧ At a 4 (.int .i64 (c : Int)) ∧ At a 5 (.bool d) ∧ l.length = 8 ∧
    ((d = false ∧ c = 64 * q ∧ (q = 0 ∨ 64 * q < s.data.toList.length) ∧ l = hq s.data.toList q) ∨ (d = true ∧ digL s.data.toList = outL l)) ∧ Arr 32 wr H l ∧ Below w.heap.size w wr
def DJ (w : World) (s : ByteArray) (H c q n : Nat) (a : Act) (wr : World) : Prop :=
  a.tmps.size = 69 ∧ a.defers = [] ∧ At a 0 (.string s) ∧ At a 3 (.pointer (some ⟨H, 0, none⟩)) ∧ At a 4 (.int .i64 (c : Int)) ∧ At a 6 (.int .i64 (n : Int)) ∧ Arr 32 wr H (hq s.data.toList q) ∧ Below w.heap.size w wr
def DP (w : World) (s : ByteArray) (H c q : Nat) (p : List UInt8) (a : Act) (wr : World) : Prop :=
  a.tmps.size = 69 ∧ a.defers = [] ∧ At a 0 (.string s) ∧ At a 3 (.pointer (some ⟨H, 0, none⟩)) ∧ At a 4 (.int .i64 (c : Int)) ∧ At a 7 (.string ⟨p.toArray⟩) ∧ Arr 32 wr H (hq s.data.toList q) ∧ Below w.heap.size w wr
def DPI (w : World) (s : ByteArray) (H c q : Nat) (b : List UInt8) (a : Act) (wr : World) : Prop :=
  ∃ j : Nat, b.length + j ≤ 64 ∧ DP w s H c q (b ++ List.replicate j 0) a wr
def MUP (a : Act) (_ : World) : Nat := 64 - strLen (a.eval (.tmp 7))
def DO (w : World) (H B : Nat) (l : List R) (a : Act) (wr : World) : Prop :=
  ∃ (k : Nat) (v : Value), k ≤ 32 ∧ a.tmps.size = 69 ∧ a.defers = [] ∧ At a 3 (.pointer (some ⟨H, 0, none⟩)) ∧ At a 8 v ∧ At a 9 (.int .i64 (k : Int)) ∧ wr.ownsRow B 5 1 v k (bys ((outL l).take k)) ∧ B ≤ wr.heap.size ∧ Arr 32 wr H l ∧ Below w.heap.size w wr
theorem outB_shr (l : List R) (k : Nat) : outB l k = UInt8.ofNat ((g l (k / 4)) >>> (8 * (k % 4))).toNat := by
  unfold outB
  rw [BitVec.toNat_ushiftRight, Nat.shiftRight_eq_div_pow]

set_option maxRecDepth 100000 in
set_option maxHeartbeats 4000000 in
theorem rdigest_any (s : ByteArray) (w : World) (hs : s.size ≤ 1000000) :
    Calls Tryd.prog 24 #[.string s] w fun e w' => e = .returned (.string ⟨(digL s.data.toList).toArray⟩) ∧ Below w.heap.size w w' := by
  have hTs : s.data.toList.length = s.size := rfl
  go_enter Tryd.func24, Tryd.ntmps24
  go_wp2_with fail
  refine (rinit_any _).mono ?_
  rintro e w8 ⟨rfl, hb8⟩
  unfold av
  obtain ⟨H, hH⟩ : ∃ H, w8.heap.size = H := ⟨_, rfl⟩
  have hA0 : Arr 32 (w8.alloc (.cells #[.int .u32 0, .int .u32 0, .int .u32 0, .int .u32 0, .int .u32 0, .int .u32 0, .int .u32 0, .int .u32 0] 32)) H zeros8 := by rw [← hH]; exact arr_new _ zeros8 _
  have hA1 : Arr 32 ((w8.alloc (.cells #[.int .u32 0, .int .u32 0, .int .u32 0, .int .u32 0, .int .u32 0, .int .u32 0, .int .u32 0, .int .u32 0] 32)).setRow H (wvs ivL).toArray) H ivL := setRow_heap _ H _ (wvs ivL).toArray _ _ hA0
  have hb9 := below_setRow ((Below.refl w8.heap.size w8).alloc (Nat.le_refl _) (.cells #[.int .u32 0, .int .u32 0, .int .u32 0, .int .u32 0, .int .u32 0, .int .u32 0, .int .u32 0, .int .u32 0] 32)) (show w8.heap.size ≤ H by omega) (wvs ivL).toArray
  have e1 : ((w8.alloc (.cells #[.int .u32 0, .int .u32 0, .int .u32 0, .int .u32 0, .int .u32 0, .int .u32 0, .int .u32 0, .int .u32 0] 32)).setRow H (wvs ivL).toArray).cell? ⟨H, 0, none⟩ = some (.int .u32 1779033703) := hA1.cell 0 (by decide)
  have e2 : ((w8.alloc (.cells #[.int .u32 0, .int .u32 0, .int .u32 0, .int .u32 0, .int .u32 0, .int .u32 0, .int .u32 0, .int .u32 0] 32)).setRow H (wvs ivL).toArray).frozen? ⟨H, 0, none⟩ = false := hA1.froz 0
  have e3 : bits .xor .u32 1779033703 16842784 = 1795745351 := by decide
  have hA2 : Arr 32 (((w8.alloc (.cells #[.int .u32 0, .int .u32 0, .int .u32 0, .int .u32 0, .int .u32 0, .int .u32 0, .int .u32 0, .int .u32 0] 32)).setRow H (wvs ivL).toArray).setCell ⟨H, 0, none⟩ (.int .u32 1795745351)) H h0L := hA1.set 0 1795745351#32
  have hb10 := chain hb8 (hb9.setCell (p := ⟨H, 0, none⟩) (show w8.heap.size ≤ H by omega) (.int .u32 1795745351))
  have hHle : w.heap.size ≤ H := by have := hb8.size; omega
  go_wp2_with (refine wpList_store_row rfl 32 (.tmp 3) (.tmp 10) rfl H _ rfl rfl 32 _ hA0 (hi8 _ (by rfl)) rfl (wvs_one _) ?_)
  change Code.wp _ _ _ _ (((w8.alloc (.cells #[.int .u32 0, .int .u32 0, .int .u32 0, .int .u32 0, .int .u32 0, .int .u32 0, .int .u32 0, .int .u32 0] 32)).setRow H (wvs ivL).toArray).setCell ⟨H, 0, none⟩ (.int .u32 1795745351))
  generalize (((w8.alloc (.cells #[.int .u32 0, .int .u32 0, .int .u32 0, .int .u32 0, .int .u32 0, .int .u32 0, .int .u32 0, .int .u32 0] 32)).setRow H (wvs ivL).toArray).setCell ⟨H, 0, none⟩ (.int .u32 1795745351)) = w9 at hA2 hb10 ⊢
  clear hA0 hA1 hb9 e1 e2 e3 hb8
  rename_i Qf Kf hKf
  refine wp_loop (DI w s H) (MUD s.size) ⟨0, 0, false, h0L, rfl, rfl, rfl, by rw [← hH]; rfl, rfl, rfl, rfl, .inl ⟨rfl, rfl, .inl rfl, rfl⟩, hA2, hb10⟩ (fun a wr hX => ?_)
  clear hA2 hb10
  obtain ⟨c, q, d, l, hsN, hdf, y0, y3, y4, y5, hl, hcase, hA, hB⟩ := hX
  have S0 := Same.refl a 0 1000
  refine wp_seq ?_
  refine wp_seq ?_
  refine wp_region_lit ?_
  refine list_val (v := (.bool d)) rfl (ex_move rfl y5.eval _) ?_
  show wpList _ _ _ _ (a.put (some 15) (.bool d)) _
  have f1_0 := y0.ne (n := 15) (by decide) (.bool d)
  have f1_3 := y3.ne (n := 15) (by decide) (.bool d)
  have f1_4 := y4.ne (n := 15) (by decide) (.bool d)
  have f1_5 := y5.ne (n := 15) (by decide) (.bool d)
  have f1_15 := At.put (a := a) (n := 15) (by rw [S0.1, hsN]; decide) (.bool d)
  have S1 := S0.put (n := 15) (by decide) (by decide) (.bool d)
  generalize a.put (some 15) (.bool d) = a1 at S1 f1_0 f1_3 f1_4 f1_5 f1_15 ⊢
  refine list_val (v := (.bool (!d))) rfl (ex_notB rfl f1_15 _) ?_
  show wpList _ _ _ _ (a1.put (some 16) (.bool (!d))) _
  have f2_0 := f1_0.ne (n := 16) (by decide) (.bool (!d))
  have f2_3 := f1_3.ne (n := 16) (by decide) (.bool (!d))
  have f2_4 := f1_4.ne (n := 16) (by decide) (.bool (!d))
  have f2_5 := f1_5.ne (n := 16) (by decide) (.bool (!d))
  have f2_16 := At.put (a := a1) (n := 16) (by rw [S1.1, hsN]; decide) (.bool (!d))
  have S2 := S1.put (n := 16) (by decide) (by decide) (.bool (!d))
  generalize a1.put (some 16) (.bool (!d)) = a2 at S2 f2_0 f2_3 f2_4 f2_5 f2_16 ⊢
  refine wpList_nil ?_
  show Code.wp _ _ _ a2 wr
  rcases hcase with ⟨rfl, hc, hq0, rfl⟩ | ⟨rfl, hdig⟩
  · have hmu : MUD s.size a wr = s.size - c + 1 := by unfold MUD; rw [y5.eval, y4.eval]; simp [intOf]
    rw [hmu]
    clear hmu
    have hcs : c ≤ s.size := by rw [hTs] at hq0; omega
    refine wp_cond_true f2_16.eval ?_
    refine wp_skip ?_
    show Code.wp _ _ _ a2 wr
    refine wp_block ?_
    refine wp_seq ?_
    refine wp_region_lit ?_
    refine list_val (v := (.string s)) rfl (ex_move rfl f2_0.eval _) ?_
    show wpList _ _ _ _ (a2.put (some 17) (.string s)) _
    have f3_0 := f2_0.ne (n := 17) (by decide) (.string s)
    have f3_3 := f2_3.ne (n := 17) (by decide) (.string s)
    have f3_4 := f2_4.ne (n := 17) (by decide) (.string s)
    have f3_5 := f2_5.ne (n := 17) (by decide) (.string s)
    have f3_17 := At.put (a := a2) (n := 17) (by rw [S2.1, hsN]; decide) (.string s)
    have S3 := S2.put (n := 17) (by decide) (by decide) (.string s)
    generalize a2.put (some 17) (.string s) = a3 at S3 f3_0 f3_3 f3_4 f3_5 f3_17 ⊢
    refine list_val (v := (.int .i64 (s.size : Int))) rfl (ex_lenStr rfl f3_17 _) ?_
    show wpList _ _ _ _ (a3.put (some 18) (.int .i64 (s.size : Int))) _
    have f4_0 := f3_0.ne (n := 18) (by decide) (.int .i64 (s.size : Int))
    have f4_3 := f3_3.ne (n := 18) (by decide) (.int .i64 (s.size : Int))
    have f4_4 := f3_4.ne (n := 18) (by decide) (.int .i64 (s.size : Int))
    have f4_5 := f3_5.ne (n := 18) (by decide) (.int .i64 (s.size : Int))
    have f4_18 := At.put (a := a3) (n := 18) (by rw [S3.1, hsN]; decide) (.int .i64 (s.size : Int))
    have S4 := S3.put (n := 18) (by decide) (by decide) (.int .i64 (s.size : Int))
    generalize a3.put (some 18) (.int .i64 (s.size : Int)) = a4 at S4 f4_0 f4_3 f4_4 f4_5 f4_18 ⊢
    refine list_val (v := (.int .i64 (c : Int))) rfl (ex_move rfl f4_4.eval _) ?_
    show wpList _ _ _ _ (a4.put (some 19) (.int .i64 (c : Int))) _
    have f5_0 := f4_0.ne (n := 19) (by decide) (.int .i64 (c : Int))
    have f5_3 := f4_3.ne (n := 19) (by decide) (.int .i64 (c : Int))
    have f5_4 := f4_4.ne (n := 19) (by decide) (.int .i64 (c : Int))
    have f5_5 := f4_5.ne (n := 19) (by decide) (.int .i64 (c : Int))
    have f5_18 := f4_18.ne (n := 19) (by decide) (.int .i64 (c : Int))
    have f5_19 := At.put (a := a4) (n := 19) (by rw [S4.1, hsN]; decide) (.int .i64 (c : Int))
    have S5 := S4.put (n := 19) (by decide) (by decide) (.int .i64 (c : Int))
    generalize a4.put (some 19) (.int .i64 (c : Int)) = a5 at S5 f5_0 f5_3 f5_4 f5_5 f5_18 f5_19 ⊢
    refine list_val (v := (.int .i64 ((s.size - c : Nat) : Int))) rfl (ex_sub2 rfl f5_18 f5_19 (by omega) hcs _) ?_
    show wpList _ _ _ _ (a5.put (some 20) (.int .i64 ((s.size - c : Nat) : Int))) _
    have f6_0 := f5_0.ne (n := 20) (by decide) (.int .i64 ((s.size - c : Nat) : Int))
    have f6_3 := f5_3.ne (n := 20) (by decide) (.int .i64 ((s.size - c : Nat) : Int))
    have f6_4 := f5_4.ne (n := 20) (by decide) (.int .i64 ((s.size - c : Nat) : Int))
    have f6_5 := f5_5.ne (n := 20) (by decide) (.int .i64 ((s.size - c : Nat) : Int))
    have f6_20 := At.put (a := a5) (n := 20) (by rw [S5.1, hsN]; decide) (.int .i64 ((s.size - c : Nat) : Int))
    have S6 := S5.put (n := 20) (by decide) (by decide) (.int .i64 ((s.size - c : Nat) : Int))
    generalize a5.put (some 20) (.int .i64 ((s.size - c : Nat) : Int)) = a6 at S6 f6_0 f6_3 f6_4 f6_5 f6_20 ⊢
    refine list_val (v := (.int .i64 ((s.size - c : Nat) : Int))) rfl (ex_assign rfl f6_20.eval _) ?_
    show wpList _ _ _ _ (a6.put (some 6) (.int .i64 ((s.size - c : Nat) : Int))) _
    have f7_0 := f6_0.ne (n := 6) (by decide) (.int .i64 ((s.size - c : Nat) : Int))
    have f7_3 := f6_3.ne (n := 6) (by decide) (.int .i64 ((s.size - c : Nat) : Int))
    have f7_4 := f6_4.ne (n := 6) (by decide) (.int .i64 ((s.size - c : Nat) : Int))
    have f7_5 := f6_5.ne (n := 6) (by decide) (.int .i64 ((s.size - c : Nat) : Int))
    have f7_6 := At.put (a := a6) (n := 6) (by rw [S6.1, hsN]; decide) (.int .i64 ((s.size - c : Nat) : Int))
    have S7 := S6.put (n := 6) (by decide) (by decide) (.int .i64 ((s.size - c : Nat) : Int))
    generalize a6.put (some 6) (.int .i64 ((s.size - c : Nat) : Int)) = a7 at S7 f7_0 f7_3 f7_4 f7_5 f7_6 ⊢
    refine wpList_nil ?_
    show Code.wp _ _ _ a7 wr
    obtain ⟨n, hn⟩ : ∃ n, min (s.size - c) 64 = n := ⟨_, rfl⟩
    refine wp_seq_then (DJ w s H c q n) ?_ ?_
    · refine wp_seq ?_
      refine wp_region_lit ?_
      refine list_val (v := (.int .i64 ((s.size - c : Nat) : Int))) rfl (ex_move rfl f7_6.eval _) ?_
      show wpList _ _ _ _ (a7.put (some 21) (.int .i64 ((s.size - c : Nat) : Int))) _
      have f8_0 := f7_0.ne (n := 21) (by decide) (.int .i64 ((s.size - c : Nat) : Int))
      have f8_3 := f7_3.ne (n := 21) (by decide) (.int .i64 ((s.size - c : Nat) : Int))
      have f8_4 := f7_4.ne (n := 21) (by decide) (.int .i64 ((s.size - c : Nat) : Int))
      have f8_5 := f7_5.ne (n := 21) (by decide) (.int .i64 ((s.size - c : Nat) : Int))
      have f8_6 := f7_6.ne (n := 21) (by decide) (.int .i64 ((s.size - c : Nat) : Int))
      have f8_21 := At.put (a := a7) (n := 21) (by rw [S7.1, hsN]; decide) (.int .i64 ((s.size - c : Nat) : Int))
      have S8 := S7.put (n := 21) (by decide) (by decide) (.int .i64 ((s.size - c : Nat) : Int))
      generalize a7.put (some 21) (.int .i64 ((s.size - c : Nat) : Int)) = a8 at S8 f8_0 f8_3 f8_4 f8_5 f8_6 f8_21 ⊢
      refine list_val (v := (.bool (decide (64 < s.size - c)))) rfl (ex_gtr (c := 64) rfl f8_21 _) ?_
      show wpList _ _ _ _ (a8.put (some 22) (.bool (decide (64 < s.size - c)))) _
      have f9_0 := f8_0.ne (n := 22) (by decide) (.bool (decide (64 < s.size - c)))
      have f9_3 := f8_3.ne (n := 22) (by decide) (.bool (decide (64 < s.size - c)))
      have f9_4 := f8_4.ne (n := 22) (by decide) (.bool (decide (64 < s.size - c)))
      have f9_5 := f8_5.ne (n := 22) (by decide) (.bool (decide (64 < s.size - c)))
      have f9_6 := f8_6.ne (n := 22) (by decide) (.bool (decide (64 < s.size - c)))
      have f9_22 := At.put (a := a8) (n := 22) (by rw [S8.1, hsN]; decide) (.bool (decide (64 < s.size - c)))
      have S9 := S8.put (n := 22) (by decide) (by decide) (.bool (decide (64 < s.size - c)))
      generalize a8.put (some 22) (.bool (decide (64 < s.size - c))) = a9 at S9 f9_0 f9_3 f9_4 f9_5 f9_6 f9_22 ⊢
      refine wpList_nil ?_
      show Code.wp _ _ _ a9 wr
      by_cases h64 : 64 < s.size - c
      · rw [decide_eq_true h64] at f9_22
        refine wp_cond_true f9_22.eval ?_
        refine wp_region_lit ?_
        have hn64 : n = 64 := by omega
        subst hn64
        refine list_val (v := (.int .i64 ((64 : Nat) : Int))) rfl (ex_assign (v := (.int .i64 ((64 : Nat) : Int))) rfl rfl _) ?_
        show wpList _ _ _ _ (a9.put (some 6) (.int .i64 ((64 : Nat) : Int))) _
        have f10_0 := f9_0.ne (n := 6) (by decide) (.int .i64 ((64 : Nat) : Int))
        have f10_3 := f9_3.ne (n := 6) (by decide) (.int .i64 ((64 : Nat) : Int))
        have f10_4 := f9_4.ne (n := 6) (by decide) (.int .i64 ((64 : Nat) : Int))
        have f10_5 := f9_5.ne (n := 6) (by decide) (.int .i64 ((64 : Nat) : Int))
        have f10_6 := At.put (a := a9) (n := 6) (by rw [S9.1, hsN]; decide) (.int .i64 ((64 : Nat) : Int))
        have S10 := S9.put (n := 6) (by decide) (by decide) (.int .i64 ((64 : Nat) : Int))
        generalize a9.put (some 6) (.int .i64 ((64 : Nat) : Int)) = a10 at S10 f10_0 f10_3 f10_4 f10_5 f10_6 ⊢
        refine wpList_nil ?_
        exact ⟨by rw [S10.1, hsN], by rw [S10.2.1, hdf], f10_0, f10_3, f10_4, f10_6, hA, hB⟩
      · rw [decide_eq_false h64] at f9_22
        refine wp_cond_false f9_22.eval ?_
        refine wp_skip ?_
        have hne : s.size - c = n := by omega
        rw [hne] at f9_6
        exact ⟨by rw [S9.1, hsN], by rw [S9.2.1, hdf], f9_0, f9_3, f9_4, f9_6, hA, hB⟩
    · clear hsN hdf y0 y3 y4 y5 hA hB S7 f7_0 f7_3 f7_4 f7_5 f7_6
      rintro a wr ⟨hsN, hdf, y0, y3, y4, y6, hA, hB⟩
      have hcn : c + n ≤ s.size := by omega
      obtain ⟨b, hb⟩ : ∃ b, (s.data.toList.drop c).take n = b := ⟨_, rfl⟩
      have hbl : b.length = n := by rw [← hb, List.length_take, List.length_drop, hTs]; omega
      have hex : s.extract c (c + n) = ⟨b.toArray⟩ := by apply ByteArray.ext; apply Array.toList_inj.1; rw [← hb]; simp [List.extract_eq_take_drop]
      have S0 := Same.refl a 0 1000
      refine wp_seq ?_
      refine wp_region_lit ?_
      refine list_val (v := (.string s)) rfl (ex_move rfl y0.eval _) ?_
      show wpList _ _ _ _ (a.put (some 23) (.string s)) _
      have f11_0 := y0.ne (n := 23) (by decide) (.string s)
      have f11_3 := y3.ne (n := 23) (by decide) (.string s)
      have f11_4 := y4.ne (n := 23) (by decide) (.string s)
      have f11_6 := y6.ne (n := 23) (by decide) (.string s)
      have f11_23 := At.put (a := a) (n := 23) (by rw [S0.1, hsN]; decide) (.string s)
      have S11 := S0.put (n := 23) (by decide) (by decide) (.string s)
      generalize a.put (some 23) (.string s) = a11 at S11 f11_0 f11_3 f11_4 f11_6 f11_23 ⊢
      refine list_val (v := (.int .i64 (c : Int))) rfl (ex_move rfl f11_4.eval _) ?_
      show wpList _ _ _ _ (a11.put (some 24) (.int .i64 (c : Int))) _
      have f12_0 := f11_0.ne (n := 24) (by decide) (.int .i64 (c : Int))
      have f12_3 := f11_3.ne (n := 24) (by decide) (.int .i64 (c : Int))
      have f12_4 := f11_4.ne (n := 24) (by decide) (.int .i64 (c : Int))
      have f12_6 := f11_6.ne (n := 24) (by decide) (.int .i64 (c : Int))
      have f12_23 := f11_23.ne (n := 24) (by decide) (.int .i64 (c : Int))
      have f12_24 := At.put (a := a11) (n := 24) (by rw [S11.1, hsN]; decide) (.int .i64 (c : Int))
      have S12 := S11.put (n := 24) (by decide) (by decide) (.int .i64 (c : Int))
      generalize a11.put (some 24) (.int .i64 (c : Int)) = a12 at S12 f12_0 f12_3 f12_4 f12_6 f12_23 f12_24 ⊢
      refine list_val (v := (.int .i64 (c : Int))) rfl (ex_move rfl f12_4.eval _) ?_
      show wpList _ _ _ _ (a12.put (some 25) (.int .i64 (c : Int))) _
      have f13_0 := f12_0.ne (n := 25) (by decide) (.int .i64 (c : Int))
      have f13_3 := f12_3.ne (n := 25) (by decide) (.int .i64 (c : Int))
      have f13_4 := f12_4.ne (n := 25) (by decide) (.int .i64 (c : Int))
      have f13_6 := f12_6.ne (n := 25) (by decide) (.int .i64 (c : Int))
      have f13_23 := f12_23.ne (n := 25) (by decide) (.int .i64 (c : Int))
      have f13_24 := f12_24.ne (n := 25) (by decide) (.int .i64 (c : Int))
      have f13_25 := At.put (a := a12) (n := 25) (by rw [S12.1, hsN]; decide) (.int .i64 (c : Int))
      have S13 := S12.put (n := 25) (by decide) (by decide) (.int .i64 (c : Int))
      generalize a12.put (some 25) (.int .i64 (c : Int)) = a13 at S13 f13_0 f13_3 f13_4 f13_6 f13_23 f13_24 f13_25 ⊢
      refine list_val (v := (.int .i64 (n : Int))) rfl (ex_move rfl f13_6.eval _) ?_
      show wpList _ _ _ _ (a13.put (some 26) (.int .i64 (n : Int))) _
      have f14_0 := f13_0.ne (n := 26) (by decide) (.int .i64 (n : Int))
      have f14_3 := f13_3.ne (n := 26) (by decide) (.int .i64 (n : Int))
      have f14_4 := f13_4.ne (n := 26) (by decide) (.int .i64 (n : Int))
      have f14_6 := f13_6.ne (n := 26) (by decide) (.int .i64 (n : Int))
      have f14_23 := f13_23.ne (n := 26) (by decide) (.int .i64 (n : Int))
      have f14_24 := f13_24.ne (n := 26) (by decide) (.int .i64 (n : Int))
      have f14_25 := f13_25.ne (n := 26) (by decide) (.int .i64 (n : Int))
      have f14_26 := At.put (a := a13) (n := 26) (by rw [S13.1, hsN]; decide) (.int .i64 (n : Int))
      have S14 := S13.put (n := 26) (by decide) (by decide) (.int .i64 (n : Int))
      generalize a13.put (some 26) (.int .i64 (n : Int)) = a14 at S14 f14_0 f14_3 f14_4 f14_6 f14_23 f14_24 f14_25 f14_26 ⊢
      refine list_val (v := (.int .i64 ((c + n : Nat) : Int))) rfl (ex_add2 rfl f14_25 f14_26 (by omega) (by omega) _) ?_
      show wpList _ _ _ _ (a14.put (some 27) (.int .i64 ((c + n : Nat) : Int))) _
      have f15_0 := f14_0.ne (n := 27) (by decide) (.int .i64 ((c + n : Nat) : Int))
      have f15_3 := f14_3.ne (n := 27) (by decide) (.int .i64 ((c + n : Nat) : Int))
      have f15_4 := f14_4.ne (n := 27) (by decide) (.int .i64 ((c + n : Nat) : Int))
      have f15_6 := f14_6.ne (n := 27) (by decide) (.int .i64 ((c + n : Nat) : Int))
      have f15_23 := f14_23.ne (n := 27) (by decide) (.int .i64 ((c + n : Nat) : Int))
      have f15_24 := f14_24.ne (n := 27) (by decide) (.int .i64 ((c + n : Nat) : Int))
      have f15_27 := At.put (a := a14) (n := 27) (by rw [S14.1, hsN]; decide) (.int .i64 ((c + n : Nat) : Int))
      have S15 := S14.put (n := 27) (by decide) (by decide) (.int .i64 ((c + n : Nat) : Int))
      generalize a14.put (some 27) (.int .i64 ((c + n : Nat) : Int)) = a15 at S15 f15_0 f15_3 f15_4 f15_6 f15_23 f15_24 f15_27 ⊢
      refine list_val (v := (.string ⟨b.toArray⟩)) rfl (by rw [← hex]; exact ex_slStr2 rfl f15_23 f15_24 f15_27 (by omega) hcn _) ?_
      show wpList _ _ _ _ (a15.put (some 28) (.string ⟨b.toArray⟩)) _
      have f16_0 := f15_0.ne (n := 28) (by decide) (.string ⟨b.toArray⟩)
      have f16_3 := f15_3.ne (n := 28) (by decide) (.string ⟨b.toArray⟩)
      have f16_4 := f15_4.ne (n := 28) (by decide) (.string ⟨b.toArray⟩)
      have f16_6 := f15_6.ne (n := 28) (by decide) (.string ⟨b.toArray⟩)
      have f16_28 := At.put (a := a15) (n := 28) (by rw [S15.1, hsN]; decide) (.string ⟨b.toArray⟩)
      have S16 := S15.put (n := 28) (by decide) (by decide) (.string ⟨b.toArray⟩)
      generalize a15.put (some 28) (.string ⟨b.toArray⟩) = a16 at S16 f16_0 f16_3 f16_4 f16_6 f16_28 ⊢
      refine list_val (v := (.string ⟨b.toArray⟩)) rfl (ex_assign rfl f16_28.eval _) ?_
      show wpList _ _ _ _ (a16.put (some 7) (.string ⟨b.toArray⟩)) _
      have f17_0 := f16_0.ne (n := 7) (by decide) (.string ⟨b.toArray⟩)
      have f17_3 := f16_3.ne (n := 7) (by decide) (.string ⟨b.toArray⟩)
      have f17_4 := f16_4.ne (n := 7) (by decide) (.string ⟨b.toArray⟩)
      have f17_6 := f16_6.ne (n := 7) (by decide) (.string ⟨b.toArray⟩)
      have f17_7 := At.put (a := a16) (n := 7) (by rw [S16.1, hsN]; decide) (.string ⟨b.toArray⟩)
      have S17 := S16.put (n := 7) (by decide) (by decide) (.string ⟨b.toArray⟩)
      generalize a16.put (some 7) (.string ⟨b.toArray⟩) = a17 at S17 f17_0 f17_3 f17_4 f17_6 f17_7 ⊢
      refine wpList_nil ?_
      show Code.wp _ _ _ a17 wr
      refine wp_seq ?_
      refine wp_region_lit ?_
      refine list_val (v := (.int .i64 (c : Int))) rfl (ex_move rfl f17_4.eval _) ?_
      show wpList _ _ _ _ (a17.put (some 29) (.int .i64 (c : Int))) _
      have f18_0 := f17_0.ne (n := 29) (by decide) (.int .i64 (c : Int))
      have f18_3 := f17_3.ne (n := 29) (by decide) (.int .i64 (c : Int))
      have f18_4 := f17_4.ne (n := 29) (by decide) (.int .i64 (c : Int))
      have f18_6 := f17_6.ne (n := 29) (by decide) (.int .i64 (c : Int))
      have f18_7 := f17_7.ne (n := 29) (by decide) (.int .i64 (c : Int))
      have f18_29 := At.put (a := a17) (n := 29) (by rw [S17.1, hsN]; decide) (.int .i64 (c : Int))
      have S18 := S17.put (n := 29) (by decide) (by decide) (.int .i64 (c : Int))
      generalize a17.put (some 29) (.int .i64 (c : Int)) = a18 at S18 f18_0 f18_3 f18_4 f18_6 f18_7 f18_29 ⊢
      refine list_val (v := (.int .i64 (n : Int))) rfl (ex_move rfl f18_6.eval _) ?_
      show wpList _ _ _ _ (a18.put (some 30) (.int .i64 (n : Int))) _
      have f19_0 := f18_0.ne (n := 30) (by decide) (.int .i64 (n : Int))
      have f19_3 := f18_3.ne (n := 30) (by decide) (.int .i64 (n : Int))
      have f19_4 := f18_4.ne (n := 30) (by decide) (.int .i64 (n : Int))
      have f19_6 := f18_6.ne (n := 30) (by decide) (.int .i64 (n : Int))
      have f19_7 := f18_7.ne (n := 30) (by decide) (.int .i64 (n : Int))
      have f19_29 := f18_29.ne (n := 30) (by decide) (.int .i64 (n : Int))
      have f19_30 := At.put (a := a18) (n := 30) (by rw [S18.1, hsN]; decide) (.int .i64 (n : Int))
      have S19 := S18.put (n := 30) (by decide) (by decide) (.int .i64 (n : Int))
      generalize a18.put (some 30) (.int .i64 (n : Int)) = a19 at S19 f19_0 f19_3 f19_4 f19_6 f19_7 f19_29 f19_30 ⊢
      refine list_val (v := (.int .i64 ((c + n : Nat) : Int))) rfl (ex_add2 rfl f19_29 f19_30 (by omega) (by omega) _) ?_
      show wpList _ _ _ _ (a19.put (some 31) (.int .i64 ((c + n : Nat) : Int))) _
      have f20_0 := f19_0.ne (n := 31) (by decide) (.int .i64 ((c + n : Nat) : Int))
      have f20_3 := f19_3.ne (n := 31) (by decide) (.int .i64 ((c + n : Nat) : Int))
      have f20_4 := f19_4.ne (n := 31) (by decide) (.int .i64 ((c + n : Nat) : Int))
      have f20_6 := f19_6.ne (n := 31) (by decide) (.int .i64 ((c + n : Nat) : Int))
      have f20_7 := f19_7.ne (n := 31) (by decide) (.int .i64 ((c + n : Nat) : Int))
      have f20_31 := At.put (a := a19) (n := 31) (by rw [S19.1, hsN]; decide) (.int .i64 ((c + n : Nat) : Int))
      have S20 := S19.put (n := 31) (by decide) (by decide) (.int .i64 ((c + n : Nat) : Int))
      generalize a19.put (some 31) (.int .i64 ((c + n : Nat) : Int)) = a20 at S20 f20_0 f20_3 f20_4 f20_6 f20_7 f20_31 ⊢
      refine list_val (v := (.int .i64 ((c + n : Nat) : Int))) rfl (ex_assign rfl f20_31.eval _) ?_
      show wpList _ _ _ _ (a20.put (some 4) (.int .i64 ((c + n : Nat) : Int))) _
      have f21_0 := f20_0.ne (n := 4) (by decide) (.int .i64 ((c + n : Nat) : Int))
      have f21_3 := f20_3.ne (n := 4) (by decide) (.int .i64 ((c + n : Nat) : Int))
      have f21_6 := f20_6.ne (n := 4) (by decide) (.int .i64 ((c + n : Nat) : Int))
      have f21_7 := f20_7.ne (n := 4) (by decide) (.int .i64 ((c + n : Nat) : Int))
      have f21_4 := At.put (a := a20) (n := 4) (by rw [S20.1, hsN]; decide) (.int .i64 ((c + n : Nat) : Int))
      have S21 := S20.put (n := 4) (by decide) (by decide) (.int .i64 ((c + n : Nat) : Int))
      generalize a20.put (some 4) (.int .i64 ((c + n : Nat) : Int)) = a21 at S21 f21_0 f21_3 f21_6 f21_7 f21_4 ⊢
      refine wpList_nil ?_
      show Code.wp _ _ _ a21 wr
      have hP0 : DP w s H (c + n) q (b ++ List.replicate 0 0) a21 wr := ⟨by rw [S21.1, hsN], by rw [S21.2.1, hdf], f21_0, f21_3, f21_4, by rw [List.replicate_zero, List.append_nil]; exact f21_7, hA, hB⟩
      clear hsN hdf y0 y3 y4 y6 hA hB S21 f21_0 f21_3 f21_6 f21_7 f21_4
      generalize a21 = a at hP0 ⊢
      refine wp_seq_then (DP w s H (c + n) q (pad b)) ?_ ?_
      · refine wp_block ?_
        refine wp_loop (DPI w s H (c + n) q b) MUP ⟨0, by omega, hP0⟩ (fun a wr hX => ?_)
        clear hP0
        obtain ⟨j, hj, hsN, hdf, y0, y3, y4, y7, hA, hB⟩ := hX
        obtain ⟨p, hp⟩ : ∃ p, b ++ List.replicate j 0 = p := ⟨_, rfl⟩
        have hpl : p.length = n + j := by rw [← hp, List.length_append, hbl, List.length_replicate]
        rw [hp] at y7
        have hmu : MUP a wr = 64 - p.length := by unfold MUP; rw [y7.eval]; rfl
        rw [hmu]
        clear hmu
        have S0 := Same.refl a 0 1000
        refine wp_seq ?_
        refine wp_seq ?_
        refine wp_region_lit ?_
        refine list_val (v := (.string ⟨p.toArray⟩)) rfl (ex_move rfl y7.eval _) ?_
        show wpList _ _ _ _ (a.put (some 32) (.string ⟨p.toArray⟩)) _
        have f22_0 := y0.ne (n := 32) (by decide) (.string ⟨p.toArray⟩)
        have f22_3 := y3.ne (n := 32) (by decide) (.string ⟨p.toArray⟩)
        have f22_4 := y4.ne (n := 32) (by decide) (.string ⟨p.toArray⟩)
        have f22_7 := y7.ne (n := 32) (by decide) (.string ⟨p.toArray⟩)
        have f22_32 := At.put (a := a) (n := 32) (by rw [S0.1, hsN]; decide) (.string ⟨p.toArray⟩)
        have S22 := S0.put (n := 32) (by decide) (by decide) (.string ⟨p.toArray⟩)
        generalize a.put (some 32) (.string ⟨p.toArray⟩) = a22 at S22 f22_0 f22_3 f22_4 f22_7 f22_32 ⊢
        refine list_val (v := (.int .i64 (p.length : Int))) rfl (ex_lenStr rfl f22_32 _) ?_
        show wpList _ _ _ _ (a22.put (some 33) (.int .i64 (p.length : Int))) _
        have f23_0 := f22_0.ne (n := 33) (by decide) (.int .i64 (p.length : Int))
        have f23_3 := f22_3.ne (n := 33) (by decide) (.int .i64 (p.length : Int))
        have f23_4 := f22_4.ne (n := 33) (by decide) (.int .i64 (p.length : Int))
        have f23_7 := f22_7.ne (n := 33) (by decide) (.int .i64 (p.length : Int))
        have f23_33 := At.put (a := a22) (n := 33) (by rw [S22.1, hsN]; decide) (.int .i64 (p.length : Int))
        have S23 := S22.put (n := 33) (by decide) (by decide) (.int .i64 (p.length : Int))
        generalize a22.put (some 33) (.int .i64 (p.length : Int)) = a23 at S23 f23_0 f23_3 f23_4 f23_7 f23_33 ⊢
        refine list_val (v := (.bool (decide (p.length < 64)))) rfl (ex_less rfl f23_33 _) ?_
        show wpList _ _ _ _ (a23.put (some 34) (.bool (decide (p.length < 64)))) _
        have f24_0 := f23_0.ne (n := 34) (by decide) (.bool (decide (p.length < 64)))
        have f24_3 := f23_3.ne (n := 34) (by decide) (.bool (decide (p.length < 64)))
        have f24_4 := f23_4.ne (n := 34) (by decide) (.bool (decide (p.length < 64)))
        have f24_7 := f23_7.ne (n := 34) (by decide) (.bool (decide (p.length < 64)))
        have f24_34 := At.put (a := a23) (n := 34) (by rw [S23.1, hsN]; decide) (.bool (decide (p.length < 64)))
        have S24 := S23.put (n := 34) (by decide) (by decide) (.bool (decide (p.length < 64)))
        generalize a23.put (some 34) (.bool (decide (p.length < 64))) = a24 at S24 f24_0 f24_3 f24_4 f24_7 f24_34 ⊢
        refine wpList_nil ?_
        show Code.wp _ _ _ a24 wr
        by_cases hlt : p.length < 64
        · rw [decide_eq_true hlt] at f24_34
          refine wp_cond_true f24_34.eval ?_
          refine wp_skip ?_
          show Code.wp _ _ _ a24 wr
          refine wp_block ?_
          refine wp_region_lit ?_
          refine list_val (v := (.string ⟨p.toArray⟩)) rfl (ex_move rfl f24_7.eval _) ?_
          show wpList _ _ _ _ (a24.put (some 35) (.string ⟨p.toArray⟩)) _
          have f25_0 := f24_0.ne (n := 35) (by decide) (.string ⟨p.toArray⟩)
          have f25_3 := f24_3.ne (n := 35) (by decide) (.string ⟨p.toArray⟩)
          have f25_4 := f24_4.ne (n := 35) (by decide) (.string ⟨p.toArray⟩)
          have f25_7 := f24_7.ne (n := 35) (by decide) (.string ⟨p.toArray⟩)
          have f25_35 := At.put (a := a24) (n := 35) (by rw [S24.1, hsN]; decide) (.string ⟨p.toArray⟩)
          have S25 := S24.put (n := 35) (by decide) (by decide) (.string ⟨p.toArray⟩)
          generalize a24.put (some 35) (.string ⟨p.toArray⟩) = a25 at S25 f25_0 f25_3 f25_4 f25_7 f25_35 ⊢
          refine list_val (v := (.string ⟨(p ++ [0]).toArray⟩)) rfl (by rw [← sapp]; exact ex_cat rfl f25_35 (by rw [str_size]; omega) (by decide) _) ?_
          show wpList _ _ _ _ (a25.put (some 36) (.string ⟨(p ++ [0]).toArray⟩)) _
          have f26_0 := f25_0.ne (n := 36) (by decide) (.string ⟨(p ++ [0]).toArray⟩)
          have f26_3 := f25_3.ne (n := 36) (by decide) (.string ⟨(p ++ [0]).toArray⟩)
          have f26_4 := f25_4.ne (n := 36) (by decide) (.string ⟨(p ++ [0]).toArray⟩)
          have f26_7 := f25_7.ne (n := 36) (by decide) (.string ⟨(p ++ [0]).toArray⟩)
          have f26_36 := At.put (a := a25) (n := 36) (by rw [S25.1, hsN]; decide) (.string ⟨(p ++ [0]).toArray⟩)
          have S26 := S25.put (n := 36) (by decide) (by decide) (.string ⟨(p ++ [0]).toArray⟩)
          generalize a25.put (some 36) (.string ⟨(p ++ [0]).toArray⟩) = a26 at S26 f26_0 f26_3 f26_4 f26_7 f26_36 ⊢
          refine list_val (v := (.string ⟨(p ++ [0]).toArray⟩)) rfl (ex_assign rfl f26_36.eval _) ?_
          show wpList _ _ _ _ (a26.put (some 7) (.string ⟨(p ++ [0]).toArray⟩)) _
          have f27_0 := f26_0.ne (n := 7) (by decide) (.string ⟨(p ++ [0]).toArray⟩)
          have f27_3 := f26_3.ne (n := 7) (by decide) (.string ⟨(p ++ [0]).toArray⟩)
          have f27_4 := f26_4.ne (n := 7) (by decide) (.string ⟨(p ++ [0]).toArray⟩)
          have f27_7 := At.put (a := a26) (n := 7) (by rw [S26.1, hsN]; decide) (.string ⟨(p ++ [0]).toArray⟩)
          have S27 := S26.put (n := 7) (by decide) (by decide) (.string ⟨(p ++ [0]).toArray⟩)
          generalize a26.put (some 7) (.string ⟨(p ++ [0]).toArray⟩) = a27 at S27 f27_0 f27_3 f27_4 f27_7 ⊢
          refine wpList_nil ?_
          have hnx : p ++ [0] = b ++ List.replicate (j + 1) 0 := by rw [← hp, List.append_assoc, List.replicate_succ']
          refine (⟨⟨j + 1, by omega, by rw [S27.1, hsN], by rw [S27.2.1, hdf], f27_0, f27_3, f27_4, by rw [← hnx]; exact f27_7, hA, hB⟩, ?_⟩ : DPI w s H (c + n) q b a27 wr ∧ MUP a27 wr < 64 - p.length)
          unfold MUP
          rw [f27_7.eval]
          show 64 - (p ++ [0]).length < _
          rw [List.length_append]
          simp only [List.length_singleton]
          omega
        · rw [decide_eq_false hlt] at f24_34
          refine wp_cond_false f24_34.eval ?_
          refine wp_exit ?_
          have hpp : p = pad b := by rw [← hp]; unfold pad; rw [show j = 64 - b.length by omega]
          rw [hpp] at f24_7
          show DP w s H (c + n) q (pad b) a24 wr
          exact ⟨by rw [S24.1, hsN], by rw [S24.2.1, hdf], f24_0, f24_3, f24_4, f24_7, hA, hB⟩
      · clear hP0
        rintro a wr ⟨hsN, hdf, y0, y3, y4, y7, hA, hB⟩
        have S0 := Same.refl a 0 1000
        have hpl : (pad b).length = 64 := by unfold pad; rw [List.length_append, List.length_replicate]; omega
        refine wp_seq ?_
        refine wp_region_lit ?_
        refine list_val (v := (.int .i64 ((c + n : Nat) : Int))) rfl (ex_move rfl y4.eval _) ?_
        show wpList _ _ _ _ (a.put (some 37) (.int .i64 ((c + n : Nat) : Int))) _
        have f28_0 := y0.ne (n := 37) (by decide) (.int .i64 ((c + n : Nat) : Int))
        have f28_3 := y3.ne (n := 37) (by decide) (.int .i64 ((c + n : Nat) : Int))
        have f28_4 := y4.ne (n := 37) (by decide) (.int .i64 ((c + n : Nat) : Int))
        have f28_7 := y7.ne (n := 37) (by decide) (.int .i64 ((c + n : Nat) : Int))
        have f28_37 := At.put (a := a) (n := 37) (by rw [S0.1, hsN]; decide) (.int .i64 ((c + n : Nat) : Int))
        have S28 := S0.put (n := 37) (by decide) (by decide) (.int .i64 ((c + n : Nat) : Int))
        generalize a.put (some 37) (.int .i64 ((c + n : Nat) : Int)) = a28 at S28 f28_0 f28_3 f28_4 f28_7 f28_37 ⊢
        refine list_val (v := (.string s)) rfl (ex_move rfl f28_0.eval _) ?_
        show wpList _ _ _ _ (a28.put (some 38) (.string s)) _
        have f29_0 := f28_0.ne (n := 38) (by decide) (.string s)
        have f29_3 := f28_3.ne (n := 38) (by decide) (.string s)
        have f29_4 := f28_4.ne (n := 38) (by decide) (.string s)
        have f29_7 := f28_7.ne (n := 38) (by decide) (.string s)
        have f29_37 := f28_37.ne (n := 38) (by decide) (.string s)
        have f29_38 := At.put (a := a28) (n := 38) (by rw [S28.1, hsN]; decide) (.string s)
        have S29 := S28.put (n := 38) (by decide) (by decide) (.string s)
        generalize a28.put (some 38) (.string s) = a29 at S29 f29_0 f29_3 f29_4 f29_7 f29_37 f29_38 ⊢
        refine list_val (v := (.int .i64 (s.size : Int))) rfl (ex_lenStr rfl f29_38 _) ?_
        show wpList _ _ _ _ (a29.put (some 39) (.int .i64 (s.size : Int))) _
        have f30_0 := f29_0.ne (n := 39) (by decide) (.int .i64 (s.size : Int))
        have f30_3 := f29_3.ne (n := 39) (by decide) (.int .i64 (s.size : Int))
        have f30_4 := f29_4.ne (n := 39) (by decide) (.int .i64 (s.size : Int))
        have f30_7 := f29_7.ne (n := 39) (by decide) (.int .i64 (s.size : Int))
        have f30_37 := f29_37.ne (n := 39) (by decide) (.int .i64 (s.size : Int))
        have f30_39 := At.put (a := a29) (n := 39) (by rw [S29.1, hsN]; decide) (.int .i64 (s.size : Int))
        have S30 := S29.put (n := 39) (by decide) (by decide) (.int .i64 (s.size : Int))
        generalize a29.put (some 39) (.int .i64 (s.size : Int)) = a30 at S30 f30_0 f30_3 f30_4 f30_7 f30_37 f30_39 ⊢
        refine list_val (v := (.bool (decide (c + n = s.size)))) rfl (ex_eql2 rfl f30_37 f30_39 _) ?_
        show wpList _ _ _ _ (a30.put (some 40) (.bool (decide (c + n = s.size)))) _
        have f31_0 := f30_0.ne (n := 40) (by decide) (.bool (decide (c + n = s.size)))
        have f31_3 := f30_3.ne (n := 40) (by decide) (.bool (decide (c + n = s.size)))
        have f31_4 := f30_4.ne (n := 40) (by decide) (.bool (decide (c + n = s.size)))
        have f31_7 := f30_7.ne (n := 40) (by decide) (.bool (decide (c + n = s.size)))
        have f31_40 := At.put (a := a30) (n := 40) (by rw [S30.1, hsN]; decide) (.bool (decide (c + n = s.size)))
        have S31 := S30.put (n := 40) (by decide) (by decide) (.bool (decide (c + n = s.size)))
        generalize a30.put (some 40) (.bool (decide (c + n = s.size))) = a31 at S31 f31_0 f31_3 f31_4 f31_7 f31_40 ⊢
        refine list_val (v := (.bool (decide (c + n = s.size)))) rfl (ex_assign rfl f31_40.eval _) ?_
        show wpList _ _ _ _ (a31.put (some 5) (.bool (decide (c + n = s.size)))) _
        have f32_0 := f31_0.ne (n := 5) (by decide) (.bool (decide (c + n = s.size)))
        have f32_3 := f31_3.ne (n := 5) (by decide) (.bool (decide (c + n = s.size)))
        have f32_4 := f31_4.ne (n := 5) (by decide) (.bool (decide (c + n = s.size)))
        have f32_7 := f31_7.ne (n := 5) (by decide) (.bool (decide (c + n = s.size)))
        have f32_5 := At.put (a := a31) (n := 5) (by rw [S31.1, hsN]; decide) (.bool (decide (c + n = s.size)))
        have S32 := S31.put (n := 5) (by decide) (by decide) (.bool (decide (c + n = s.size)))
        generalize a31.put (some 5) (.bool (decide (c + n = s.size))) = a32 at S32 f32_0 f32_3 f32_4 f32_7 f32_5 ⊢
        refine wpList_nil ?_
        show Code.wp _ _ _ a32 wr
        refine wp_region_lit ?_
        have hql := hq_len s.data.toList q
        refine list_val (v := (av (hq s.data.toList q))) rfl (ex_loadrow rfl f32_3.eval hA Tryd.underlying32 (ir8 _ hql)) ?_
        show wpList _ _ _ _ (a32.put (some 42) (av (hq s.data.toList q))) _
        have f33_0 := f32_0.ne (n := 42) (by decide) (av (hq s.data.toList q))
        have f33_3 := f32_3.ne (n := 42) (by decide) (av (hq s.data.toList q))
        have f33_4 := f32_4.ne (n := 42) (by decide) (av (hq s.data.toList q))
        have f33_7 := f32_7.ne (n := 42) (by decide) (av (hq s.data.toList q))
        have f33_5 := f32_5.ne (n := 42) (by decide) (av (hq s.data.toList q))
        have f33_42 := At.put (a := a32) (n := 42) (by rw [S32.1, hsN]; decide) (av (hq s.data.toList q))
        have S33 := S32.put (n := 42) (by decide) (by decide) (av (hq s.data.toList q))
        generalize a32.put (some 42) (av (hq s.data.toList q)) = a33 at S33 f33_0 f33_3 f33_4 f33_7 f33_5 f33_42 ⊢
        refine list_val (v := (.string ⟨(pad b).toArray⟩)) rfl (ex_move rfl f33_7.eval _) ?_
        show wpList _ _ _ _ (a33.put (some 43) (.string ⟨(pad b).toArray⟩)) _
        have f34_0 := f33_0.ne (n := 43) (by decide) (.string ⟨(pad b).toArray⟩)
        have f34_3 := f33_3.ne (n := 43) (by decide) (.string ⟨(pad b).toArray⟩)
        have f34_4 := f33_4.ne (n := 43) (by decide) (.string ⟨(pad b).toArray⟩)
        have f34_7 := f33_7.ne (n := 43) (by decide) (.string ⟨(pad b).toArray⟩)
        have f34_5 := f33_5.ne (n := 43) (by decide) (.string ⟨(pad b).toArray⟩)
        have f34_42 := f33_42.ne (n := 43) (by decide) (.string ⟨(pad b).toArray⟩)
        have f34_43 := At.put (a := a33) (n := 43) (by rw [S33.1, hsN]; decide) (.string ⟨(pad b).toArray⟩)
        have S34 := S33.put (n := 43) (by decide) (by decide) (.string ⟨(pad b).toArray⟩)
        generalize a33.put (some 43) (.string ⟨(pad b).toArray⟩) = a34 at S34 f34_0 f34_3 f34_4 f34_7 f34_5 f34_42 f34_43 ⊢
        refine list_val (v := (.int .i64 ((c + n : Nat) : Int))) rfl (ex_move rfl f34_4.eval _) ?_
        show wpList _ _ _ _ (a34.put (some 44) (.int .i64 ((c + n : Nat) : Int))) _
        have f35_0 := f34_0.ne (n := 44) (by decide) (.int .i64 ((c + n : Nat) : Int))
        have f35_3 := f34_3.ne (n := 44) (by decide) (.int .i64 ((c + n : Nat) : Int))
        have f35_4 := f34_4.ne (n := 44) (by decide) (.int .i64 ((c + n : Nat) : Int))
        have f35_7 := f34_7.ne (n := 44) (by decide) (.int .i64 ((c + n : Nat) : Int))
        have f35_5 := f34_5.ne (n := 44) (by decide) (.int .i64 ((c + n : Nat) : Int))
        have f35_42 := f34_42.ne (n := 44) (by decide) (.int .i64 ((c + n : Nat) : Int))
        have f35_43 := f34_43.ne (n := 44) (by decide) (.int .i64 ((c + n : Nat) : Int))
        have f35_44 := At.put (a := a34) (n := 44) (by rw [S34.1, hsN]; decide) (.int .i64 ((c + n : Nat) : Int))
        have S35 := S34.put (n := 44) (by decide) (by decide) (.int .i64 ((c + n : Nat) : Int))
        generalize a34.put (some 44) (.int .i64 ((c + n : Nat) : Int)) = a35 at S35 f35_0 f35_3 f35_4 f35_7 f35_5 f35_42 f35_43 f35_44 ⊢
        refine list_val (v := (.int .u64 ((c + n : Nat) : Int))) rfl (ex_cvt rfl f35_44 (by omega) _) ?_
        show wpList _ _ _ _ (a35.put (some 45) (.int .u64 ((c + n : Nat) : Int))) _
        have f36_0 := f35_0.ne (n := 45) (by decide) (.int .u64 ((c + n : Nat) : Int))
        have f36_3 := f35_3.ne (n := 45) (by decide) (.int .u64 ((c + n : Nat) : Int))
        have f36_4 := f35_4.ne (n := 45) (by decide) (.int .u64 ((c + n : Nat) : Int))
        have f36_7 := f35_7.ne (n := 45) (by decide) (.int .u64 ((c + n : Nat) : Int))
        have f36_5 := f35_5.ne (n := 45) (by decide) (.int .u64 ((c + n : Nat) : Int))
        have f36_42 := f35_42.ne (n := 45) (by decide) (.int .u64 ((c + n : Nat) : Int))
        have f36_43 := f35_43.ne (n := 45) (by decide) (.int .u64 ((c + n : Nat) : Int))
        have f36_45 := At.put (a := a35) (n := 45) (by rw [S35.1, hsN]; decide) (.int .u64 ((c + n : Nat) : Int))
        have S36 := S35.put (n := 45) (by decide) (by decide) (.int .u64 ((c + n : Nat) : Int))
        generalize a35.put (some 45) (.int .u64 ((c + n : Nat) : Int)) = a36 at S36 f36_0 f36_3 f36_4 f36_7 f36_5 f36_42 f36_43 f36_45 ⊢
        refine list_val (v := (.bool (decide (c + n = s.size)))) rfl (ex_move rfl f36_5.eval _) ?_
        show wpList _ _ _ _ (a36.put (some 46) (.bool (decide (c + n = s.size)))) _
        have f37_0 := f36_0.ne (n := 46) (by decide) (.bool (decide (c + n = s.size)))
        have f37_3 := f36_3.ne (n := 46) (by decide) (.bool (decide (c + n = s.size)))
        have f37_4 := f36_4.ne (n := 46) (by decide) (.bool (decide (c + n = s.size)))
        have f37_7 := f36_7.ne (n := 46) (by decide) (.bool (decide (c + n = s.size)))
        have f37_5 := f36_5.ne (n := 46) (by decide) (.bool (decide (c + n = s.size)))
        have f37_42 := f36_42.ne (n := 46) (by decide) (.bool (decide (c + n = s.size)))
        have f37_43 := f36_43.ne (n := 46) (by decide) (.bool (decide (c + n = s.size)))
        have f37_45 := f36_45.ne (n := 46) (by decide) (.bool (decide (c + n = s.size)))
        have f37_46 := At.put (a := a36) (n := 46) (by rw [S36.1, hsN]; decide) (.bool (decide (c + n = s.size)))
        have S37 := S36.put (n := 46) (by decide) (by decide) (.bool (decide (c + n = s.size)))
        generalize a36.put (some 46) (.bool (decide (c + n = s.size))) = a37 at S37 f37_0 f37_3 f37_4 f37_7 f37_5 f37_42 f37_43 f37_45 f37_46 ⊢
        have hcc := rcompress_any (hq s.data.toList q) ⟨(pad b).toArray⟩ (c + n) (decide (c + n = s.size)) wr hql (by rw [str_size]; omega) (by omega)
        unfold cmpV at hcc
        rw [str_list, if_pos hpl] at hcc
        obtain ⟨N, hN⟩ : ∃ N, cmpL (hq s.data.toList q) (pad b) (c + n) (decide (c + n = s.size)) = N := ⟨_, rfl⟩
        have hNl : N.length = 8 := by rw [← hN, cmpL_len]
        rw [hN] at hcc
        refine list_enter (v := (.tuple #[av N, .int .i64 0])) (R := fun w' => Below wr.heap.size wr w') rfl (ex_call4 ent_Compress rfl f37_42 f37_43 f37_45 f37_46 _) hcc (fun w1 hb1 => ?_)
        show wpList _ _ _ _ (a37.put (some 47) (.tuple #[av N, .int .i64 0])) _
        have f38_0 := f37_0.ne (n := 47) (by decide) (.tuple #[av N, .int .i64 0])
        have f38_3 := f37_3.ne (n := 47) (by decide) (.tuple #[av N, .int .i64 0])
        have f38_4 := f37_4.ne (n := 47) (by decide) (.tuple #[av N, .int .i64 0])
        have f38_7 := f37_7.ne (n := 47) (by decide) (.tuple #[av N, .int .i64 0])
        have f38_5 := f37_5.ne (n := 47) (by decide) (.tuple #[av N, .int .i64 0])
        have f38_47 := At.put (a := a37) (n := 47) (by rw [S37.1, hsN]; decide) (.tuple #[av N, .int .i64 0])
        have S38 := S37.put (n := 47) (by decide) (by decide) (.tuple #[av N, .int .i64 0])
        generalize a37.put (some 47) (.tuple #[av N, .int .i64 0]) = a38 at S38 f38_0 f38_3 f38_4 f38_7 f38_5 f38_47 ⊢
        have hA1 := hA.below hb1
        have hB1 := chain hB hb1
        refine list_val (v := (.tuple #[av N, .int .i64 0])) rfl (ex_move rfl f38_47.eval _) ?_
        show wpList _ _ _ _ (a38.put (some 41) (.tuple #[av N, .int .i64 0])) _
        have f39_0 := f38_0.ne (n := 41) (by decide) (.tuple #[av N, .int .i64 0])
        have f39_3 := f38_3.ne (n := 41) (by decide) (.tuple #[av N, .int .i64 0])
        have f39_4 := f38_4.ne (n := 41) (by decide) (.tuple #[av N, .int .i64 0])
        have f39_7 := f38_7.ne (n := 41) (by decide) (.tuple #[av N, .int .i64 0])
        have f39_5 := f38_5.ne (n := 41) (by decide) (.tuple #[av N, .int .i64 0])
        have f39_41 := At.put (a := a38) (n := 41) (by rw [S38.1, hsN]; decide) (.tuple #[av N, .int .i64 0])
        have S39 := S38.put (n := 41) (by decide) (by decide) (.tuple #[av N, .int .i64 0])
        generalize a38.put (some 41) (.tuple #[av N, .int .i64 0]) = a39 at S39 f39_0 f39_3 f39_4 f39_7 f39_5 f39_41 ⊢
        refine list_val (v := (av N)) rfl (ex_extract rfl f39_41.eval rfl _) ?_
        show wpList _ _ _ _ (a39.put (some 48) (av N)) _
        have f40_0 := f39_0.ne (n := 48) (by decide) (av N)
        have f40_3 := f39_3.ne (n := 48) (by decide) (av N)
        have f40_4 := f39_4.ne (n := 48) (by decide) (av N)
        have f40_7 := f39_7.ne (n := 48) (by decide) (av N)
        have f40_5 := f39_5.ne (n := 48) (by decide) (av N)
        have f40_41 := f39_41.ne (n := 48) (by decide) (av N)
        have f40_48 := At.put (a := a39) (n := 48) (by rw [S39.1, hsN]; decide) (av N)
        have S40 := S39.put (n := 48) (by decide) (by decide) (av N)
        generalize a39.put (some 48) (av N) = a40 at S40 f40_0 f40_3 f40_4 f40_7 f40_5 f40_41 f40_48 ⊢
        refine list_val (v := (.int .i64 0)) rfl (ex_extract rfl f40_41.eval rfl _) ?_
        show wpList _ _ _ _ (a40.put (some 49) (.int .i64 0)) _
        have f41_0 := f40_0.ne (n := 49) (by decide) (.int .i64 0)
        have f41_3 := f40_3.ne (n := 49) (by decide) (.int .i64 0)
        have f41_4 := f40_4.ne (n := 49) (by decide) (.int .i64 0)
        have f41_7 := f40_7.ne (n := 49) (by decide) (.int .i64 0)
        have f41_5 := f40_5.ne (n := 49) (by decide) (.int .i64 0)
        have f41_48 := f40_48.ne (n := 49) (by decide) (.int .i64 0)
        have f41_49 := At.put (a := a40) (n := 49) (by rw [S40.1, hsN]; decide) (.int .i64 0)
        have S41 := S40.put (n := 49) (by decide) (by decide) (.int .i64 0)
        generalize a40.put (some 49) (.int .i64 0) = a41 at S41 f41_0 f41_3 f41_4 f41_7 f41_5 f41_48 f41_49 ⊢
        refine list_skip (w' := w1.setRow H (wvs N).toArray) rfl rfl (ex_storerow rfl f41_3.eval f41_48.eval hA1 (ir8 N hNl) (by simp [wvs_len, hql, hNl]) (wvs_one _)) ?_
        have hA2 := setRow_heap _ H _ (wvs N).toArray _ _ hA1
        have hB2 := below_setRow hB1 hHle (wvs N).toArray
        refine wpList_nil ?_
        show DI w s H a41 _ ∧ MUD s.size a41 _ < s.size - c + 1
        by_cases hend : c + n = s.size
        · have hdig := dig_end s.data.toList q n (by rw [hTs]; omega) (by omega) (by rw [hTs] at hq0; omega)
          have hbe : s.data.toList.drop (64 * q) = b := by rw [← hb, List.take_of_length_le (by rw [List.length_drop, hTs]; omega), hc]
          rw [hbe, hTs, ← hend] at hdig
          rw [decide_eq_true hend] at hN
          rw [hN] at hdig
          rw [decide_eq_true hend] at f41_5
          refine ⟨⟨c + n, q, true, N, by rw [S41.1, hsN], by rw [S41.2.1, hdf], f41_0, f41_3, f41_4, f41_5, hNl, .inr ⟨rfl, hdig⟩, hA2, hB2⟩, ?_⟩
          unfold MUD
          rw [f41_5.eval]
          show 0 < _
          omega
        · have hn64 : n = 64 := by omega
          subst hn64
          rw [decide_eq_false hend] at hN
          rw [decide_eq_false hend] at f41_5
          have hpb : pad b = b := by unfold pad; rw [hbl, Nat.sub_self, List.replicate_zero, List.append_nil]
          have hNq : N = hq s.data.toList (q + 1) := by rw [← hN, hpb, ← hb, hc]; rfl
          refine ⟨⟨c + 64, q + 1, false, N, by rw [S41.1, hsN], by rw [S41.2.1, hdf], f41_0, f41_3, f41_4, f41_5, hNl, .inl ⟨rfl, by omega, .inr (by rw [hTs]; omega), hNq⟩, hA2, hB2⟩, ?_⟩
          unfold MUD
          rw [f41_5.eval, f41_4.eval]
          simp only [intOf]
          omega
  · refine wp_cond_false f2_16.eval ?_
    refine wp_exit ?_
    show Kf a2 wr
    refine hKf _ _ ?_
    refine wp_seq ?_
    refine wp_region_lit ?_
    refine list_val (v := (.slice none 0 0)) rfl (ex_assign (v := .slice none 0 0) rfl rfl _) ?_
    show wpList _ _ _ _ (a2.put (some 8) (.slice none 0 0)) _
    have f42_3 := f2_3.ne (n := 8) (by decide) (.slice none 0 0)
    have f42_8 := At.put (a := a2) (n := 8) (by rw [S2.1, hsN]; decide) (.slice none 0 0)
    have S42 := S2.put (n := 8) (by decide) (by decide) (.slice none 0 0)
    generalize a2.put (some 8) (.slice none 0 0) = a42 at S42 f42_3 f42_8 ⊢
    refine wpList_nil ?_
    show Code.wp _ _ _ a42 wr
    obtain ⟨i0, hi, hz0, hz1, hz2⟩ := info_parts info_byte
    obtain ⟨B, hBs⟩ : ∃ B, wr.heap.size = B := ⟨_, rfl⟩
    have hHB := hA.lt
    rw [hBs] at hHB
    have hwB : w.heap.size ≤ B := by have := hB.size; omega
    refine wp_seq_then (fun a wr => ∃ v, a.tmps.size = 69 ∧ a.defers = [] ∧ At a 8 v ∧ wr.ownsRow B 5 1 v 32 (bys ((outL l).take 32)) ∧ Below w.heap.size w wr) ?_ ?_
    · refine wp_seq ?_
      refine wp_region_lit ?_
      refine list_val (v := (.int .i64 ((0 : Nat) : Int))) rfl (ex_assign (v := (.int .i64 ((0 : Nat) : Int))) rfl rfl _) ?_
      show wpList _ _ _ _ (a42.put (some 9) (.int .i64 ((0 : Nat) : Int))) _
      have f43_3 := f42_3.ne (n := 9) (by decide) (.int .i64 ((0 : Nat) : Int))
      have f43_8 := f42_8.ne (n := 9) (by decide) (.int .i64 ((0 : Nat) : Int))
      have f43_9 := At.put (a := a42) (n := 9) (by rw [S42.1, hsN]; decide) (.int .i64 ((0 : Nat) : Int))
      have S43 := S42.put (n := 9) (by decide) (by decide) (.int .i64 ((0 : Nat) : Int))
      generalize a42.put (some 9) (.int .i64 ((0 : Nat) : Int)) = a43 at S43 f43_3 f43_8 f43_9 ⊢
      refine wpList_nil ?_
      refine wp_block ?_
      refine wp_loop (DO w H B l) (MUR 9 32) ⟨0, .slice none 0 0, by omega, by rw [S43.1, hsN], by rw [S43.2.1, hdf], f43_3, f43_8, f43_9, ⟨rfl, .inl ⟨rfl, rfl⟩⟩, by omega, hA, hB⟩ (fun a wr hX => ?_)
      clear hsN hdf y0 y3 y4 y5 hA hB hBs S43 f43_3 f43_8 f43_9
      obtain ⟨k, v, hk, hsN, hdf, y3, y8, y9, hown, hBw, hA, hB⟩ := hX
      have hmu : MUR 9 32 a wr = 32 - k := by unfold MUR; rw [y9.eval]; simp [intOf]
      rw [hmu]
      clear hmu
      have S0 := Same.refl a 0 1000
      refine wp_seq ?_
      refine wp_seq ?_
      refine wp_region_lit ?_
      refine list_val (v := (.int .i64 (k : Int))) rfl (ex_move rfl y9.eval _) ?_
      show wpList _ _ _ _ (a.put (some 50) (.int .i64 (k : Int))) _
      have f44_3 := y3.ne (n := 50) (by decide) (.int .i64 (k : Int))
      have f44_8 := y8.ne (n := 50) (by decide) (.int .i64 (k : Int))
      have f44_9 := y9.ne (n := 50) (by decide) (.int .i64 (k : Int))
      have f44_50 := At.put (a := a) (n := 50) (by rw [S0.1, hsN]; decide) (.int .i64 (k : Int))
      have S44 := S0.put (n := 50) (by decide) (by decide) (.int .i64 (k : Int))
      generalize a.put (some 50) (.int .i64 (k : Int)) = a44 at S44 f44_3 f44_8 f44_9 f44_50 ⊢
      refine list_val (v := (.bool (decide (k < 32)))) rfl (ex_less rfl f44_50 _) ?_
      show wpList _ _ _ _ (a44.put (some 51) (.bool (decide (k < 32)))) _
      have f45_3 := f44_3.ne (n := 51) (by decide) (.bool (decide (k < 32)))
      have f45_8 := f44_8.ne (n := 51) (by decide) (.bool (decide (k < 32)))
      have f45_9 := f44_9.ne (n := 51) (by decide) (.bool (decide (k < 32)))
      have f45_51 := At.put (a := a44) (n := 51) (by rw [S44.1, hsN]; decide) (.bool (decide (k < 32)))
      have S45 := S44.put (n := 51) (by decide) (by decide) (.bool (decide (k < 32)))
      generalize a44.put (some 51) (.bool (decide (k < 32))) = a45 at S45 f45_3 f45_8 f45_9 f45_51 ⊢
      refine wpList_nil ?_
      show Code.wp _ _ _ a45 wr
      by_cases hlt : k < 32
      · rw [decide_eq_true hlt] at f45_51
        refine wp_cond_true f45_51.eval ?_
        refine wp_skip ?_
        show Code.wp _ _ _ a45 wr
        refine wp_seq ?_
        refine wp_block ?_
        refine wp_region_lit ?_
        have e1 := hA.cell (k / 4) (by omega)
        have hsh : 8 * (k % 4) = 0 ∨ 8 * (k % 4) = 8 ∨ 8 * (k % 4) = 16 ∨ 8 * (k % 4) = 24 := by omega
        refine list_val (v := v) rfl (ex_move rfl f45_8.eval _) ?_
        show wpList _ _ _ _ (a45.put (some 54) v) _
        have f46_3 := f45_3.ne (n := 54) (by decide) v
        have f46_8 := f45_8.ne (n := 54) (by decide) v
        have f46_9 := f45_9.ne (n := 54) (by decide) v
        have f46_54 := At.put (a := a45) (n := 54) (by rw [S45.1, hsN]; decide) v
        have S46 := S45.put (n := 54) (by decide) (by decide) v
        generalize a45.put (some 54) v = a46 at S46 f46_3 f46_8 f46_9 f46_54 ⊢
        refine list_val (v := (.int .i64 (k : Int))) rfl (ex_move rfl f46_9.eval _) ?_
        show wpList _ _ _ _ (a46.put (some 55) (.int .i64 (k : Int))) _
        have f47_3 := f46_3.ne (n := 55) (by decide) (.int .i64 (k : Int))
        have f47_8 := f46_8.ne (n := 55) (by decide) (.int .i64 (k : Int))
        have f47_9 := f46_9.ne (n := 55) (by decide) (.int .i64 (k : Int))
        have f47_54 := f46_54.ne (n := 55) (by decide) (.int .i64 (k : Int))
        have f47_55 := At.put (a := a46) (n := 55) (by rw [S46.1, hsN]; decide) (.int .i64 (k : Int))
        have S47 := S46.put (n := 55) (by decide) (by decide) (.int .i64 (k : Int))
        generalize a46.put (some 55) (.int .i64 (k : Int)) = a47 at S47 f47_3 f47_8 f47_9 f47_54 f47_55 ⊢
        refine list_val (v := (.int .i64 ((k / 4 : Nat) : Int))) rfl (ex_quo4 rfl f47_55 (by omega) _) ?_
        show wpList _ _ _ _ (a47.put (some 56) (.int .i64 ((k / 4 : Nat) : Int))) _
        have f48_3 := f47_3.ne (n := 56) (by decide) (.int .i64 ((k / 4 : Nat) : Int))
        have f48_8 := f47_8.ne (n := 56) (by decide) (.int .i64 ((k / 4 : Nat) : Int))
        have f48_9 := f47_9.ne (n := 56) (by decide) (.int .i64 ((k / 4 : Nat) : Int))
        have f48_54 := f47_54.ne (n := 56) (by decide) (.int .i64 ((k / 4 : Nat) : Int))
        have f48_56 := At.put (a := a47) (n := 56) (by rw [S47.1, hsN]; decide) (.int .i64 ((k / 4 : Nat) : Int))
        have S48 := S47.put (n := 56) (by decide) (by decide) (.int .i64 ((k / 4 : Nat) : Int))
        generalize a47.put (some 56) (.int .i64 ((k / 4 : Nat) : Int)) = a48 at S48 f48_3 f48_8 f48_9 f48_54 f48_56 ⊢
        refine list_val (v := (.pointer (some ⟨H, k / 4, none⟩))) rfl (ex_idx8 rfl f48_3.eval f48_56.eval (by omega) _) ?_
        show wpList _ _ _ _ (a48.put (some 57) (.pointer (some ⟨H, k / 4, none⟩))) _
        have f49_3 := f48_3.ne (n := 57) (by decide) (.pointer (some ⟨H, k / 4, none⟩))
        have f49_8 := f48_8.ne (n := 57) (by decide) (.pointer (some ⟨H, k / 4, none⟩))
        have f49_9 := f48_9.ne (n := 57) (by decide) (.pointer (some ⟨H, k / 4, none⟩))
        have f49_54 := f48_54.ne (n := 57) (by decide) (.pointer (some ⟨H, k / 4, none⟩))
        have f49_57 := At.put (a := a48) (n := 57) (by rw [S48.1, hsN]; decide) (.pointer (some ⟨H, k / 4, none⟩))
        have S49 := S48.put (n := 57) (by decide) (by decide) (.pointer (some ⟨H, k / 4, none⟩))
        generalize a48.put (some 57) (.pointer (some ⟨H, k / 4, none⟩)) = a49 at S49 f49_3 f49_8 f49_9 f49_54 f49_57 ⊢
        refine list_val (v := (wv (g l (k / 4)))) rfl (ex_load32 rfl f49_57.eval e1) ?_
        show wpList _ _ _ _ (a49.put (some 58) (wv (g l (k / 4)))) _
        have f50_3 := f49_3.ne (n := 58) (by decide) (wv (g l (k / 4)))
        have f50_8 := f49_8.ne (n := 58) (by decide) (wv (g l (k / 4)))
        have f50_9 := f49_9.ne (n := 58) (by decide) (wv (g l (k / 4)))
        have f50_54 := f49_54.ne (n := 58) (by decide) (wv (g l (k / 4)))
        have f50_58 := At.put (a := a49) (n := 58) (by rw [S49.1, hsN]; decide) (wv (g l (k / 4)))
        have S50 := S49.put (n := 58) (by decide) (by decide) (wv (g l (k / 4)))
        generalize a49.put (some 58) (wv (g l (k / 4))) = a50 at S50 f50_3 f50_8 f50_9 f50_54 f50_58 ⊢
        refine list_val (v := (.int .i64 (k : Int))) rfl (ex_move rfl f50_9.eval _) ?_
        show wpList _ _ _ _ (a50.put (some 59) (.int .i64 (k : Int))) _
        have f51_3 := f50_3.ne (n := 59) (by decide) (.int .i64 (k : Int))
        have f51_8 := f50_8.ne (n := 59) (by decide) (.int .i64 (k : Int))
        have f51_9 := f50_9.ne (n := 59) (by decide) (.int .i64 (k : Int))
        have f51_54 := f50_54.ne (n := 59) (by decide) (.int .i64 (k : Int))
        have f51_58 := f50_58.ne (n := 59) (by decide) (.int .i64 (k : Int))
        have f51_59 := At.put (a := a50) (n := 59) (by rw [S50.1, hsN]; decide) (.int .i64 (k : Int))
        have S51 := S50.put (n := 59) (by decide) (by decide) (.int .i64 (k : Int))
        generalize a50.put (some 59) (.int .i64 (k : Int)) = a51 at S51 f51_3 f51_8 f51_9 f51_54 f51_58 f51_59 ⊢
        refine list_val (v := (.int .i64 ((k % 4 : Nat) : Int))) rfl (ex_rem4 rfl f51_59 (by omega) _) ?_
        show wpList _ _ _ _ (a51.put (some 60) (.int .i64 ((k % 4 : Nat) : Int))) _
        have f52_3 := f51_3.ne (n := 60) (by decide) (.int .i64 ((k % 4 : Nat) : Int))
        have f52_8 := f51_8.ne (n := 60) (by decide) (.int .i64 ((k % 4 : Nat) : Int))
        have f52_9 := f51_9.ne (n := 60) (by decide) (.int .i64 ((k % 4 : Nat) : Int))
        have f52_54 := f51_54.ne (n := 60) (by decide) (.int .i64 ((k % 4 : Nat) : Int))
        have f52_58 := f51_58.ne (n := 60) (by decide) (.int .i64 ((k % 4 : Nat) : Int))
        have f52_60 := At.put (a := a51) (n := 60) (by rw [S51.1, hsN]; decide) (.int .i64 ((k % 4 : Nat) : Int))
        have S52 := S51.put (n := 60) (by decide) (by decide) (.int .i64 ((k % 4 : Nat) : Int))
        generalize a51.put (some 60) (.int .i64 ((k % 4 : Nat) : Int)) = a52 at S52 f52_3 f52_8 f52_9 f52_54 f52_58 f52_60 ⊢
        refine list_val (v := (.int .i64 ((8 * (k % 4) : Nat) : Int))) rfl (ex_mulc (c := 8) rfl f52_60 (by omega) (by omega) _) ?_
        show wpList _ _ _ _ (a52.put (some 61) (.int .i64 ((8 * (k % 4) : Nat) : Int))) _
        have f53_3 := f52_3.ne (n := 61) (by decide) (.int .i64 ((8 * (k % 4) : Nat) : Int))
        have f53_8 := f52_8.ne (n := 61) (by decide) (.int .i64 ((8 * (k % 4) : Nat) : Int))
        have f53_9 := f52_9.ne (n := 61) (by decide) (.int .i64 ((8 * (k % 4) : Nat) : Int))
        have f53_54 := f52_54.ne (n := 61) (by decide) (.int .i64 ((8 * (k % 4) : Nat) : Int))
        have f53_58 := f52_58.ne (n := 61) (by decide) (.int .i64 ((8 * (k % 4) : Nat) : Int))
        have f53_61 := At.put (a := a52) (n := 61) (by rw [S52.1, hsN]; decide) (.int .i64 ((8 * (k % 4) : Nat) : Int))
        have S53 := S52.put (n := 61) (by decide) (by decide) (.int .i64 ((8 * (k % 4) : Nat) : Int))
        generalize a52.put (some 61) (.int .i64 ((8 * (k % 4) : Nat) : Int)) = a53 at S53 f53_3 f53_8 f53_9 f53_54 f53_58 f53_61 ⊢
        refine list_val (v := (.int .u64 ((8 * (k % 4) : Nat) : Int))) rfl (ex_cvtUint rfl f53_61 (by omega) _) ?_
        show wpList _ _ _ _ (a53.put (some 62) (.int .u64 ((8 * (k % 4) : Nat) : Int))) _
        have f54_3 := f53_3.ne (n := 62) (by decide) (.int .u64 ((8 * (k % 4) : Nat) : Int))
        have f54_8 := f53_8.ne (n := 62) (by decide) (.int .u64 ((8 * (k % 4) : Nat) : Int))
        have f54_9 := f53_9.ne (n := 62) (by decide) (.int .u64 ((8 * (k % 4) : Nat) : Int))
        have f54_54 := f53_54.ne (n := 62) (by decide) (.int .u64 ((8 * (k % 4) : Nat) : Int))
        have f54_58 := f53_58.ne (n := 62) (by decide) (.int .u64 ((8 * (k % 4) : Nat) : Int))
        have f54_62 := At.put (a := a53) (n := 62) (by rw [S53.1, hsN]; decide) (.int .u64 ((8 * (k % 4) : Nat) : Int))
        have S54 := S53.put (n := 62) (by decide) (by decide) (.int .u64 ((8 * (k % 4) : Nat) : Int))
        generalize a53.put (some 62) (.int .u64 ((8 * (k % 4) : Nat) : Int)) = a54 at S54 f54_3 f54_8 f54_9 f54_54 f54_58 f54_62 ⊢
        refine list_val (v := (wv (g l (k / 4) >>> (8 * (k % 4))))) rfl (ex_shrV rfl f54_58 f54_62 hsh _) ?_
        show wpList _ _ _ _ (a54.put (some 63) (wv (g l (k / 4) >>> (8 * (k % 4))))) _
        have f55_3 := f54_3.ne (n := 63) (by decide) (wv (g l (k / 4) >>> (8 * (k % 4))))
        have f55_8 := f54_8.ne (n := 63) (by decide) (wv (g l (k / 4) >>> (8 * (k % 4))))
        have f55_9 := f54_9.ne (n := 63) (by decide) (wv (g l (k / 4) >>> (8 * (k % 4))))
        have f55_54 := f54_54.ne (n := 63) (by decide) (wv (g l (k / 4) >>> (8 * (k % 4))))
        have f55_63 := At.put (a := a54) (n := 63) (by rw [S54.1, hsN]; decide) (wv (g l (k / 4) >>> (8 * (k % 4))))
        have S55 := S54.put (n := 63) (by decide) (by decide) (wv (g l (k / 4) >>> (8 * (k % 4))))
        generalize a54.put (some 63) (wv (g l (k / 4) >>> (8 * (k % 4)))) = a55 at S55 f55_3 f55_8 f55_9 f55_54 f55_63 ⊢
        refine list_val (v := (.int .u8 ((outB l k).toNat : Int))) rfl (by rw [outB_shr]; exact ex_low rfl f55_63 _) ?_
        show wpList _ _ _ _ (a55.put (some 64) (.int .u8 ((outB l k).toNat : Int))) _
        have f56_3 := f55_3.ne (n := 64) (by decide) (.int .u8 ((outB l k).toNat : Int))
        have f56_8 := f55_8.ne (n := 64) (by decide) (.int .u8 ((outB l k).toNat : Int))
        have f56_9 := f55_9.ne (n := 64) (by decide) (.int .u8 ((outB l k).toNat : Int))
        have f56_54 := f55_54.ne (n := 64) (by decide) (.int .u8 ((outB l k).toNat : Int))
        have f56_64 := At.put (a := a55) (n := 64) (by rw [S55.1, hsN]; decide) (.int .u8 ((outB l k).toNat : Int))
        have S56 := S55.put (n := 64) (by decide) (by decide) (.int .u8 ((outB l k).toNat : Int))
        generalize a55.put (some 64) (.int .u8 ((outB l k).toNat : Int)) = a56 at S56 f56_3 f56_8 f56_9 f56_54 f56_64 ⊢
        refine list_any rfl (ex_build1 rfl rfl f56_64 wr) ?_
        show wpList _ _ _ _ (a56.put (some 65) (.slice (some ⟨wr.heap.size, 0, none⟩) 1 1)) _
        have f57_3 := f56_3.ne (n := 65) (by decide) (.slice (some ⟨wr.heap.size, 0, none⟩) 1 1)
        have f57_8 := f56_8.ne (n := 65) (by decide) (.slice (some ⟨wr.heap.size, 0, none⟩) 1 1)
        have f57_9 := f56_9.ne (n := 65) (by decide) (.slice (some ⟨wr.heap.size, 0, none⟩) 1 1)
        have f57_54 := f56_54.ne (n := 65) (by decide) (.slice (some ⟨wr.heap.size, 0, none⟩) 1 1)
        have f57_65 := At.put (a := a56) (n := 65) (by rw [S56.1, hsN]; decide) (.slice (some ⟨wr.heap.size, 0, none⟩) 1 1)
        have S57 := S56.put (n := 65) (by decide) (by decide) (.slice (some ⟨wr.heap.size, 0, none⟩) 1 1)
        generalize a56.put (some 65) (.slice (some ⟨wr.heap.size, 0, none⟩) 1 1) = a57 at S57 f57_3 f57_8 f57_9 f57_54 f57_65 ⊢
        refine wpList_append_own _ rfl _ _ 46 rfl B 5 i0 (.int .u8 0) 1 1 Tryd.underlying46 hi hz0 hz1 hz2 rfl (by decide) v k _ f57_54.eval (hown.alloc _) ⟨wr.heap.size, 0, none⟩ 1 1 [.int .u8 ((outB l k).toNat : Int)] f57_65.eval rfl (one_new _ _ _) (one_cell _ _) (by unfold maxLen; omega) (by omega) (by simp; omega) ?_
        intro v' w1 hown' hgrow _
        rw [← bys_snoc, ← outL_take l k hlt] at hown'
        have hAa := arr_old hA (.cells #[.int .u8 ((outB l k).toNat : Int)] 5)
        have hA1 : Arr 32 w1 H l := (hgrow.block H (by simp; omega) (fun h => by have := (hown.lt H h.symm).1; omega)).trans hAa
        have hB1 : Below w.heap.size w w1 := (hB.alloc hB.size _).grown hgrow (by simp; omega) (fun j hj => by have := (hown.lt j hj).1; omega)
        have hBw1 : B ≤ w1.heap.size := by have := hgrow.size; simp at this; omega
        show wpList _ _ _ _ (a57.put (some 66) v') _
        have f58_3 := f57_3.ne (n := 66) (by decide) v'
        have f58_8 := f57_8.ne (n := 66) (by decide) v'
        have f58_9 := f57_9.ne (n := 66) (by decide) v'
        have f58_66 := At.put (a := a57) (n := 66) (by rw [S57.1, hsN]; decide) v'
        have S58 := S57.put (n := 66) (by decide) (by decide) v'
        generalize a57.put (some 66) v' = a58 at S58 f58_3 f58_8 f58_9 f58_66 ⊢
        refine list_val (v := v') rfl (ex_assign rfl f58_66.eval _) ?_
        show wpList _ _ _ _ (a58.put (some 8) v') _
        have f59_3 := f58_3.ne (n := 8) (by decide) v'
        have f59_9 := f58_9.ne (n := 8) (by decide) v'
        have f59_8 := At.put (a := a58) (n := 8) (by rw [S58.1, hsN]; decide) v'
        have S59 := S58.put (n := 8) (by decide) (by decide) v'
        generalize a58.put (some 8) v' = a59 at S59 f59_3 f59_9 f59_8 ⊢
        refine wpList_nil ?_
        show Code.wp _ _ _ a59 w1
        refine wp_region_lit ?_
        refine list_val (v := (.int .i64 (k : Int))) rfl (ex_move rfl f59_9.eval _) ?_
        show wpList _ _ _ _ (a59.put (some 52) (.int .i64 (k : Int))) _
        have f60_3 := f59_3.ne (n := 52) (by decide) (.int .i64 (k : Int))
        have f60_9 := f59_9.ne (n := 52) (by decide) (.int .i64 (k : Int))
        have f60_8 := f59_8.ne (n := 52) (by decide) (.int .i64 (k : Int))
        have f60_52 := At.put (a := a59) (n := 52) (by rw [S59.1, hsN]; decide) (.int .i64 (k : Int))
        have S60 := S59.put (n := 52) (by decide) (by decide) (.int .i64 (k : Int))
        generalize a59.put (some 52) (.int .i64 (k : Int)) = a60 at S60 f60_3 f60_9 f60_8 f60_52 ⊢
        refine list_val (v := (.int .i64 ((k + 1 : Nat) : Int))) rfl (ex_next rfl f60_52 (by omega) _) ?_
        show wpList _ _ _ _ (a60.put (some 53) (.int .i64 ((k + 1 : Nat) : Int))) _
        have f61_3 := f60_3.ne (n := 53) (by decide) (.int .i64 ((k + 1 : Nat) : Int))
        have f61_9 := f60_9.ne (n := 53) (by decide) (.int .i64 ((k + 1 : Nat) : Int))
        have f61_8 := f60_8.ne (n := 53) (by decide) (.int .i64 ((k + 1 : Nat) : Int))
        have f61_53 := At.put (a := a60) (n := 53) (by rw [S60.1, hsN]; decide) (.int .i64 ((k + 1 : Nat) : Int))
        have S61 := S60.put (n := 53) (by decide) (by decide) (.int .i64 ((k + 1 : Nat) : Int))
        generalize a60.put (some 53) (.int .i64 ((k + 1 : Nat) : Int)) = a61 at S61 f61_3 f61_9 f61_8 f61_53 ⊢
        refine list_val (v := (.int .i64 ((k + 1 : Nat) : Int))) rfl (ex_assign rfl f61_53.eval _) ?_
        show wpList _ _ _ _ (a61.put (some 9) (.int .i64 ((k + 1 : Nat) : Int))) _
        have f62_3 := f61_3.ne (n := 9) (by decide) (.int .i64 ((k + 1 : Nat) : Int))
        have f62_8 := f61_8.ne (n := 9) (by decide) (.int .i64 ((k + 1 : Nat) : Int))
        have f62_9 := At.put (a := a61) (n := 9) (by rw [S61.1, hsN]; decide) (.int .i64 ((k + 1 : Nat) : Int))
        have S62 := S61.put (n := 9) (by decide) (by decide) (.int .i64 ((k + 1 : Nat) : Int))
        generalize a61.put (some 9) (.int .i64 ((k + 1 : Nat) : Int)) = a62 at S62 f62_3 f62_8 f62_9 ⊢
        refine wpList_nil ?_
        refine (⟨⟨k + 1, v', by omega, by rw [S62.1, hsN], by rw [S62.2.1, hdf], f62_3, f62_8, f62_9, hown', hBw1, hA1, hB1⟩, ?_⟩ : DO w H B l a62 w1 ∧ MUR 9 32 a62 w1 < 32 - k)
        unfold MUR
        rw [f62_9.eval]
        simp only [intOf]
        omega
      · obtain rfl : k = 32 := by omega
        rw [decide_eq_false hlt] at f45_51
        refine wp_cond_false f45_51.eval ?_
        refine wp_exit ?_
        exact ⟨v, by rw [S45.1, hsN], by rw [S45.2.1, hdf], f45_8, hown, hB⟩
    · clear hsN hdf hA hB
      rintro a wr ⟨v, hsN, hdf, y8, hown, hB⟩
      have hconv := conv_own (dst := 9) Tryd.underlying46 Tryd.underlying5 Tryd.underlying9 hown
      rw [List.take_of_length_le (by rw [outL_len]; omega), ← hdig] at hconv
      have S0 := Same.refl a 0 1000
      refine wp_seq ?_
      refine wp_region_lit ?_
      refine list_val (v := v) rfl (ex_move rfl y8.eval _) ?_
      show wpList _ _ _ _ (a.put (some 67) v) _
      have f63_67 := At.put (a := a) (n := 67) (by rw [S0.1, hsN]; decide) v
      have S63 := S0.put (n := 67) (by decide) (by decide) v
      generalize a.put (some 67) v = a63 at S63 f63_67 ⊢
      refine list_val (v := (.string ⟨(digL s.data.toList).toArray⟩)) rfl (ex_str rfl f63_67 hconv) ?_
      show wpList _ _ _ _ (a63.put (some 68) (.string ⟨(digL s.data.toList).toArray⟩)) _
      have f64_68 := At.put (a := a63) (n := 68) (by rw [S63.1, hsN]; decide) (.string ⟨(digL s.data.toList).toArray⟩)
      have S64 := S63.put (n := 68) (by decide) (by decide) (.string ⟨(digL s.data.toList).toArray⟩)
      generalize a63.put (some 68) (.string ⟨(digL s.data.toList).toArray⟩) = a64 at S64 f64_68 ⊢
      refine list_val (v := (.string ⟨(digL s.data.toList).toArray⟩)) rfl (ex_assign rfl f64_68.eval _) ?_
      show wpList _ _ _ _ (a64.put (some 2) (.string ⟨(digL s.data.toList).toArray⟩)) _
      have f65_2 := At.put (a := a64) (n := 2) (by rw [S64.1, hsN]; decide) (.string ⟨(digL s.data.toList).toArray⟩)
      have S65 := S64.put (n := 2) (by decide) (by decide) (.string ⟨(digL s.data.toList).toArray⟩)
      generalize a64.put (some 2) (.string ⟨(digL s.data.toList).toArray⟩) = a65 at S65 f65_2 ⊢
      refine wpList_nil ?_
      refine wp_ret ?_
      exact bodyPost_ret (results_at rfl f65_2 _ _) (S65.2.1.trans hdf) ⟨rfl, hB⟩
end Go.Proofs.YtkppepdniehoiaaDoor.B4
