/- One drawn statement of the landed package's rounds: 'v[a], v[b], v[c], v[d] = mix(v[a], v[b], v[c], v[d], m[p[i]], m[p[j]])'. -/
import Derived.Test.YtkppepdniehoiaaDoorB4Abs
namespace Go.Proofs.YtkppepdniehoiaaDoor.B4
open Go.RowKit Mem Parts
set_option linter.unusedVariables false
set_option linter.unusedSimpArgs false

section
variable {P : Program} {ops : Array Oper} {w : World} {o : Oper} {rest : List Oper} {a : Act} {v : Value}
theorem wanted_none {y : Nat → Option Bool} (h : o.guard = none) : Region.wanted o y = true := by
  unfold Region.wanted
  rw [h]
theorem still_val {Q : Act → Prop} (hg : o.guard = none) (h : (execOp a.eval o).run P w = .ok (.value v) w) (hr : wpStill P ops w Q rest (a.put o.dst v)) : wpStill P ops w Q (o :: rest) a := by
  unfold wpStill
  rw [if_pos (wanted_none hg)]
  unfold Oper.still
  rw [h, Oper.stillUpon_value]
  exact hr
theorem still_enter {Q : Act → Prop} {f : FuncId} {args : Array Value} (hg : o.guard = none) (h : (execOp a.eval o).run P w = .ok (.enter f args) w) (hc : Calls P f args w (fun e w' => e = .returned v ∧ w = w')) (hr : wpStill P ops w Q rest (a.put o.dst v)) : wpStill P ops w Q (o :: rest) a := by
  unfold wpStill
  rw [if_pos (wanted_none hg)]
  unfold Oper.still
  rw [h]
  exact ⟨rfl, v, hc.mono (fun e w' h => ⟨h.1, h.2.symm⟩), hr⟩
theorem pure_val {K : Act → Prop} (hg : o.guard = none) (h : ∀ w, (execOp a.eval o).run P w = .ok (.value v) w) (hr : wpPure P ops K rest (a.put o.dst v)) : wpPure P ops K (o :: rest) a :=
  ⟨v, .inl ⟨wanted_none hg, h⟩, hr⟩
theorem list_val {Q : Exit → Act → World → Prop} (hg : o.guard = none) (h : (execOp a.eval o).run P w = .ok (.value v) w) (hr : wpList P ops Q rest (a.put o.dst v) w) : wpList P ops Q (o :: rest) a w :=
  wpList_plain hg fun _ hK => by
    unfold Oper.wp
    rw [h]
    exact hK _ _ hr
theorem list_skip {Q : Exit → Act → World → Prop} {w' : World} (hg : o.guard = none) (hd : o.dst = none) (h : (execOp a.eval o).run P w = .ok .skip w') (hr : wpList P ops Q rest a w') : wpList P ops Q (o :: rest) a w :=
  wpList_plain hg fun _ hK => by
    unfold Oper.wp
    rw [h]
    show _
    have : a.put o.dst undef = a := by rw [hd]; rfl
    simp only [Oper.upon, this]
    exact hK _ _ hr
end
theorem ex_mix {o : Oper} {a : Act} {t1 t2 t3 t4 t5 t6 : Nat} {ts : Array TypeId} {p q r s x y : R} (ho : o.op = .call { callee := .value (.func 35), args := #[.tmp t1, .tmp t2, .tmp t3, .tmp t4, .tmp t5, .tmp t6], argTypes := ts })
    (h1 : At a t1 (wv p)) (h2 : At a t2 (wv q)) (h3 : At a t3 (wv r)) (h4 : At a t4 (wv s)) (h5 : At a t5 (wv x)) (h6 : At a t6 (wv y)) (w : World) :
    (execOp a.eval o).run Tryd.prog w = .ok (.enter 35 #[wv p, wv q, wv r, wv s, wv x, wv y]) w := by
  have e1 : a.tmps[t1]?.getD undef = wv p := by unfold At at h1; rw [h1]; rfl
  have e2 : a.tmps[t2]?.getD undef = wv q := by unfold At at h2; rw [h2]; rfl
  have e3 : a.tmps[t3]?.getD undef = wv r := by unfold At at h3; rw [h3]; rfl
  have e4 : a.tmps[t4]?.getD undef = wv s := by unfold At at h4; rw [h4]; rfl
  have e5 : a.tmps[t5]?.getD undef = wv x := by unfold At at h5; rw [h5]; rfl
  have e6 : a.tmps[t6]?.getD undef = wv y := by unfold At at h6; rw [h6]; rfl
  clear h1 h2 h3 h4 h5 h6
  unfold execOp
  simp only [ho]
  go_simp

def regSh (s ia ib ic id i j : Nat) : List (Option Tmp × Op × Option (Nat × Bool)) :=
  [(some s, .indexAddr 48 (.tmp 2) (.const (.int .i64 (ia : Int))), none), (some (s + 1), .load 31 (.tmp s), none),
   (some (s + 2), .indexAddr 48 (.tmp 2) (.const (.int .i64 (ib : Int))), none), (some (s + 3), .load 31 (.tmp (s + 2)), none),
   (some (s + 4), .indexAddr 48 (.tmp 2) (.const (.int .i64 (ic : Int))), none), (some (s + 5), .load 31 (.tmp (s + 4)), none),
   (some (s + 6), .indexAddr 48 (.tmp 2) (.const (.int .i64 (id : Int))), none), (some (s + 7), .load 31 (.tmp (s + 6)), none),
   (some (s + 8), .indexAddr 60 (.tmp 6) (.const (.int .i64 (i : Int))), none), (some (s + 9), .load 5 (.tmp (s + 8)), none),
   (some (s + 10), .indexAddr 48 (.tmp 3) (.tmp (s + 9)), none), (some (s + 11), .load 31 (.tmp (s + 10)), none),
   (some (s + 12), .indexAddr 60 (.tmp 6) (.const (.int .i64 (j : Int))), none), (some (s + 13), .load 5 (.tmp (s + 12)), none),
   (some (s + 14), .indexAddr 48 (.tmp 3) (.tmp (s + 13)), none), (some (s + 15), .load 31 (.tmp (s + 14)), none),
   (some (s + 16), .call { callee := .value (.func 35), args := #[.tmp (s + 1), .tmp (s + 3), .tmp (s + 5), .tmp (s + 7), .tmp (s + 11), .tmp (s + 15)], argTypes := #[31, 31, 31, 31, 31, 31] }, none),
   (some (s - 1), .move (.tmp (s + 16)), none), (some (s + 17), .extract (.tmp (s - 1)) 0, none), (some (s + 18), .extract (.tmp (s - 1)) 1, none), (some (s + 19), .extract (.tmp (s - 1)) 2, none), (some (s + 20), .extract (.tmp (s - 1)) 3, none),
   (some (s + 21), .indexAddr 48 (.tmp 2) (.const (.int .i64 (ia : Int))), none), (none, .store 31 (.tmp (s + 21)) (.tmp (s + 17)), none),
   (some (s + 22), .indexAddr 48 (.tmp 2) (.const (.int .i64 (ib : Int))), none), (none, .store 31 (.tmp (s + 22)) (.tmp (s + 18)), none),
   (some (s + 23), .indexAddr 48 (.tmp 2) (.const (.int .i64 (ic : Int))), none), (none, .store 31 (.tmp (s + 23)) (.tmp (s + 19)), none),
   (some (s + 24), .indexAddr 48 (.tmp 2) (.const (.int .i64 (id : Int))), none), (none, .store 31 (.tmp (s + 24)) (.tmp (s + 20)), none)]

set_option maxHeartbeats 4000000 in
theorem region_mix {n0 : Nat} {l : List Oper} {Q : Exit → Act → World → Prop} {a : Act} {w : World} {G M B : Nat} (s ia ib ic id i j : Nat) (k st : Nat) (v m : List R)
    (hB : partsB .any l.toArray 17 22 = true) (hl : l.map sh = regSh s ia ib ic id i j) (hs0 : 8 ≤ s) (hs : s + 25 ≤ a.tmps.size) (h2 : At a 2 (.pointer (some ⟨G, 0, none⟩))) (h3 : At a 3 (.pointer (some ⟨M, 0, none⟩))) (h6 : At a 6 (.pointer (some ⟨B, 0, none⟩)))
    (hv : v.length = 16) (hm : m.length = 16) (hk : k < 10) (hi : i < 16) (hj : j < 16) (hA : Arr 48 w G v) (hM : Arr 48 w M m) (hP : Arb 60 w B (rowP k))
    (hc : colL st = [ia, ib, ic, id]) (hij : 2 * st = i ∧ 2 * st + 1 = j)
    (hok : (decide (ia < 16) && decide (ib < 16) && decide (ic < 16) && decide (id < 16) && decide (ia ≠ ib) && decide (ia ≠ ic) && decide (ia ≠ id) && decide (ib ≠ ic) && decide (ib ≠ id) && decide (ic ≠ id)) = true)
    (hQ : ∀ a' w', Same a a' (s - 1) (s + 25) → Arr 48 w' G (stepL m k v st) → (∀ H, H ≠ G → w'.heap[H]? = w.heap[H]?) → (∀ b w0, b ≤ G → Below b w0 w → Below b w0 w') → Q .normal a' w') :
    (Code.region n0 l.toArray true).wp Tryd.prog Q a w := by
  have hok' := hok
  simp only [Bool.and_eq_true, decide_eq_true_eq] at hok'
  obtain ⟨⟨⟨⟨⟨⟨⟨⟨⟨ha16, hb16⟩, hc16⟩, hd16⟩, _⟩, _⟩, _⟩, _⟩, _⟩, _⟩ := hok'
  have e1 := hA.cell ia (by omega)
  have e2 := hA.cell ib (by omega)
  have e3 := hA.cell ic (by omega)
  have e4 := hA.cell id (by omega)
  have e5 := hP.cell i (by rw [rowP_len]; exact hi)
  have e6 := hP.cell j (by rw [rowP_len]; exact hj)
  rw [rowP_get k i hi] at e5
  rw [rowP_get k j hj] at e6
  have hx16 := pm_lt k i hk hi
  have hy16 := pm_lt k j hk hj
  have e7 := hM.cell (pm k i) (by omega)
  have e8 := hM.cell (pm k j) (by omega)
  have hstep := fun A B C D hm' => stepL_of m v k st ia ib ic id (pm k i) (pm k j) _ _ A B C D (by rw [hc]; exact ⟨rfl, rfl, rfl, rfl⟩) (by rw [hij.1]) (by rw [hij.2]) rfl rfl hv hok hm'
  have cm := omix_any (g v ia) (g v ib) (g v ic) (g v id) (g m (pm k i)) (g m (pm k j)) w.drew
  obtain ⟨A, hmA⟩ : ∃ x, mx (g v ia) (g v ib) (g v ic) (g v id) (g m (pm k i)) (g m (pm k j)) = x := ⟨_, rfl⟩
  rw [hmA] at cm
  obtain ⟨A, B', C, D⟩ := A
  have hst := hstep A B' C D hmA
  clear hstep hmA
  have hA1 := (hA.drew).set ia A
  have hA2 := hA1.set ib B'
  have hA3 := hA2.set ic C
  have hA4 := hA3.set id D
  rw [← hst] at hA4
  have x1 := (hA.drew).cell ia (by omega)
  have x2 := hA1.cell ib (by simp; omega)
  have x3 := hA2.cell ic (by simp; omega)
  have x4 := hA3.cell id (by simp; omega)
  have f1 := (hA.drew).froz ia
  have f2 := hA1.froz ib
  have f3 := hA2.froz ic
  have f4 := hA3.froz id
  obtain ⟨o0, l0, hl0e, he0, hl1⟩ := List.map_eq_cons_iff.1 hl
  obtain ⟨o1, l1, hl1e, he1, hl2⟩ := List.map_eq_cons_iff.1 hl1
  obtain ⟨o2, l2, hl2e, he2, hl3⟩ := List.map_eq_cons_iff.1 hl2
  obtain ⟨o3, l3, hl3e, he3, hl4⟩ := List.map_eq_cons_iff.1 hl3
  obtain ⟨o4, l4, hl4e, he4, hl5⟩ := List.map_eq_cons_iff.1 hl4
  obtain ⟨o5, l5, hl5e, he5, hl6⟩ := List.map_eq_cons_iff.1 hl5
  obtain ⟨o6, l6, hl6e, he6, hl7⟩ := List.map_eq_cons_iff.1 hl6
  obtain ⟨o7, l7, hl7e, he7, hl8⟩ := List.map_eq_cons_iff.1 hl7
  obtain ⟨o8, l8, hl8e, he8, hl9⟩ := List.map_eq_cons_iff.1 hl8
  obtain ⟨o9, l9, hl9e, he9, hl10⟩ := List.map_eq_cons_iff.1 hl9
  obtain ⟨o10, l10, hl10e, he10, hl11⟩ := List.map_eq_cons_iff.1 hl10
  obtain ⟨o11, l11, hl11e, he11, hl12⟩ := List.map_eq_cons_iff.1 hl11
  obtain ⟨o12, l12, hl12e, he12, hl13⟩ := List.map_eq_cons_iff.1 hl12
  obtain ⟨o13, l13, hl13e, he13, hl14⟩ := List.map_eq_cons_iff.1 hl13
  obtain ⟨o14, l14, hl14e, he14, hl15⟩ := List.map_eq_cons_iff.1 hl14
  obtain ⟨o15, l15, hl15e, he15, hl16⟩ := List.map_eq_cons_iff.1 hl15
  obtain ⟨o16, l16, hl16e, he16, hl17⟩ := List.map_eq_cons_iff.1 hl16
  obtain ⟨o17, l17, hl17e, he17, hl18⟩ := List.map_eq_cons_iff.1 hl17
  obtain ⟨o18, l18, hl18e, he18, hl19⟩ := List.map_eq_cons_iff.1 hl18
  obtain ⟨o19, l19, hl19e, he19, hl20⟩ := List.map_eq_cons_iff.1 hl19
  obtain ⟨o20, l20, hl20e, he20, hl21⟩ := List.map_eq_cons_iff.1 hl20
  obtain ⟨o21, l21, hl21e, he21, hl22⟩ := List.map_eq_cons_iff.1 hl21
  obtain ⟨o22, l22, hl22e, he22, hl23⟩ := List.map_eq_cons_iff.1 hl22
  obtain ⟨o23, l23, hl23e, he23, hl24⟩ := List.map_eq_cons_iff.1 hl23
  obtain ⟨o24, l24, hl24e, he24, hl25⟩ := List.map_eq_cons_iff.1 hl24
  obtain ⟨o25, l25, hl25e, he25, hl26⟩ := List.map_eq_cons_iff.1 hl25
  obtain ⟨o26, l26, hl26e, he26, hl27⟩ := List.map_eq_cons_iff.1 hl26
  obtain ⟨o27, l27, hl27e, he27, hl28⟩ := List.map_eq_cons_iff.1 hl27
  obtain ⟨o28, l28, hl28e, he28, hl29⟩ := List.map_eq_cons_iff.1 hl28
  obtain ⟨o29, l29, hl29e, he29, hlx⟩ := List.map_eq_cons_iff.1 hl29
  have hlnil := List.map_eq_nil_iff.1 hlx
  subst hlnil hl29e hl28e hl27e hl26e hl25e hl24e hl23e hl22e hl21e hl20e hl19e hl18e hl17e hl16e hl15e hl14e hl13e hl12e hl11e hl10e hl9e hl8e hl7e hl6e hl5e hl4e hl3e hl2e hl1e hl0e
  obtain ⟨d0, p0, g0⟩ : o0.dst = _ ∧ o0.op = _ ∧ o0.guard = _ := by
    have := he0
    simp only [sh, Prod.mk.injEq] at this
    exact this
  obtain ⟨d1, p1, g1⟩ : o1.dst = _ ∧ o1.op = _ ∧ o1.guard = _ := by
    have := he1
    simp only [sh, Prod.mk.injEq] at this
    exact this
  obtain ⟨d2, p2, g2⟩ : o2.dst = _ ∧ o2.op = _ ∧ o2.guard = _ := by
    have := he2
    simp only [sh, Prod.mk.injEq] at this
    exact this
  obtain ⟨d3, p3, g3⟩ : o3.dst = _ ∧ o3.op = _ ∧ o3.guard = _ := by
    have := he3
    simp only [sh, Prod.mk.injEq] at this
    exact this
  obtain ⟨d4, p4, g4⟩ : o4.dst = _ ∧ o4.op = _ ∧ o4.guard = _ := by
    have := he4
    simp only [sh, Prod.mk.injEq] at this
    exact this
  obtain ⟨d5, p5, g5⟩ : o5.dst = _ ∧ o5.op = _ ∧ o5.guard = _ := by
    have := he5
    simp only [sh, Prod.mk.injEq] at this
    exact this
  obtain ⟨d6, p6, g6⟩ : o6.dst = _ ∧ o6.op = _ ∧ o6.guard = _ := by
    have := he6
    simp only [sh, Prod.mk.injEq] at this
    exact this
  obtain ⟨d7, p7, g7⟩ : o7.dst = _ ∧ o7.op = _ ∧ o7.guard = _ := by
    have := he7
    simp only [sh, Prod.mk.injEq] at this
    exact this
  obtain ⟨d8, p8, g8⟩ : o8.dst = _ ∧ o8.op = _ ∧ o8.guard = _ := by
    have := he8
    simp only [sh, Prod.mk.injEq] at this
    exact this
  obtain ⟨d9, p9, g9⟩ : o9.dst = _ ∧ o9.op = _ ∧ o9.guard = _ := by
    have := he9
    simp only [sh, Prod.mk.injEq] at this
    exact this
  obtain ⟨d10, p10, g10⟩ : o10.dst = _ ∧ o10.op = _ ∧ o10.guard = _ := by
    have := he10
    simp only [sh, Prod.mk.injEq] at this
    exact this
  obtain ⟨d11, p11, g11⟩ : o11.dst = _ ∧ o11.op = _ ∧ o11.guard = _ := by
    have := he11
    simp only [sh, Prod.mk.injEq] at this
    exact this
  obtain ⟨d12, p12, g12⟩ : o12.dst = _ ∧ o12.op = _ ∧ o12.guard = _ := by
    have := he12
    simp only [sh, Prod.mk.injEq] at this
    exact this
  obtain ⟨d13, p13, g13⟩ : o13.dst = _ ∧ o13.op = _ ∧ o13.guard = _ := by
    have := he13
    simp only [sh, Prod.mk.injEq] at this
    exact this
  obtain ⟨d14, p14, g14⟩ : o14.dst = _ ∧ o14.op = _ ∧ o14.guard = _ := by
    have := he14
    simp only [sh, Prod.mk.injEq] at this
    exact this
  obtain ⟨d15, p15, g15⟩ : o15.dst = _ ∧ o15.op = _ ∧ o15.guard = _ := by
    have := he15
    simp only [sh, Prod.mk.injEq] at this
    exact this
  obtain ⟨d16, p16, g16⟩ : o16.dst = _ ∧ o16.op = _ ∧ o16.guard = _ := by
    have := he16
    simp only [sh, Prod.mk.injEq] at this
    exact this
  obtain ⟨d17, p17, g17⟩ : o17.dst = _ ∧ o17.op = _ ∧ o17.guard = _ := by
    have := he17
    simp only [sh, Prod.mk.injEq] at this
    exact this
  obtain ⟨d18, p18, g18⟩ : o18.dst = _ ∧ o18.op = _ ∧ o18.guard = _ := by
    have := he18
    simp only [sh, Prod.mk.injEq] at this
    exact this
  obtain ⟨d19, p19, g19⟩ : o19.dst = _ ∧ o19.op = _ ∧ o19.guard = _ := by
    have := he19
    simp only [sh, Prod.mk.injEq] at this
    exact this
  obtain ⟨d20, p20, g20⟩ : o20.dst = _ ∧ o20.op = _ ∧ o20.guard = _ := by
    have := he20
    simp only [sh, Prod.mk.injEq] at this
    exact this
  obtain ⟨d21, p21, g21⟩ : o21.dst = _ ∧ o21.op = _ ∧ o21.guard = _ := by
    have := he21
    simp only [sh, Prod.mk.injEq] at this
    exact this
  obtain ⟨d22, p22, g22⟩ : o22.dst = _ ∧ o22.op = _ ∧ o22.guard = _ := by
    have := he22
    simp only [sh, Prod.mk.injEq] at this
    exact this
  obtain ⟨d23, p23, g23⟩ : o23.dst = _ ∧ o23.op = _ ∧ o23.guard = _ := by
    have := he23
    simp only [sh, Prod.mk.injEq] at this
    exact this
  obtain ⟨d24, p24, g24⟩ : o24.dst = _ ∧ o24.op = _ ∧ o24.guard = _ := by
    have := he24
    simp only [sh, Prod.mk.injEq] at this
    exact this
  obtain ⟨d25, p25, g25⟩ : o25.dst = _ ∧ o25.op = _ ∧ o25.guard = _ := by
    have := he25
    simp only [sh, Prod.mk.injEq] at this
    exact this
  obtain ⟨d26, p26, g26⟩ : o26.dst = _ ∧ o26.op = _ ∧ o26.guard = _ := by
    have := he26
    simp only [sh, Prod.mk.injEq] at this
    exact this
  obtain ⟨d27, p27, g27⟩ : o27.dst = _ ∧ o27.op = _ ∧ o27.guard = _ := by
    have := he27
    simp only [sh, Prod.mk.injEq] at this
    exact this
  obtain ⟨d28, p28, g28⟩ : o28.dst = _ ∧ o28.op = _ ∧ o28.guard = _ := by
    have := he28
    simp only [sh, Prod.mk.injEq] at this
    exact this
  obtain ⟨d29, p29, g29⟩ : o29.dst = _ ∧ o29.op = _ ∧ o29.guard = _ := by
    have := he29
    simp only [sh, Prod.mk.injEq] at this
    exact this
  refine wp_region_parts 17 22 (by kernel_rfl) hB ?_
  simp only [List.take_succ_cons, List.take_zero, List.drop_succ_cons, List.drop_zero, Nat.reduceSub]
  have S0 := Same.refl a (s - 1) (s + 25)
  refine still_val g0 (ex_idx16 p0 h2.eval rfl ha16 _) ?_
  rw [d0]
  have S1 := S0.put (n := s) (by omega) (by omega) (.pointer (some ⟨G, ia, none⟩))
  have k1_2 := h2.ne (n := s) (by omega) (.pointer (some ⟨G, ia, none⟩))
  have k1_3 := h3.ne (n := s) (by omega) (.pointer (some ⟨G, ia, none⟩))
  have k1_6 := h6.ne (n := s) (by omega) (.pointer (some ⟨G, ia, none⟩))
  have k1_s := At.put (a := a) (n := s) (by rw [S0.1]; omega) (.pointer (some ⟨G, ia, none⟩))
  generalize a.put (some (s)) (.pointer (some ⟨G, ia, none⟩)) = a1 at S1 k1_2 k1_3 k1_6 k1_s ⊢
  refine still_val (v := (wv (g v ia))) g1 (ex_load32 p1 k1_s.eval e1) ?_
  rw [d1]
  have S2 := S1.put (n := s + 1) (by omega) (by omega) (wv (g v ia))
  have k2_2 := k1_2.ne (n := s + 1) (by omega) (wv (g v ia))
  have k2_3 := k1_3.ne (n := s + 1) (by omega) (wv (g v ia))
  have k2_6 := k1_6.ne (n := s + 1) (by omega) (wv (g v ia))
  have k2_sp1 := At.put (a := a1) (n := s + 1) (by rw [S1.1]; omega) (wv (g v ia))
  generalize a1.put (some (s + 1)) (wv (g v ia)) = a2 at S2 k2_2 k2_3 k2_6 k2_sp1 ⊢
  clear S1 k1_2 k1_3 k1_6 k1_s
  refine still_val g2 (ex_idx16 p2 k2_2.eval rfl hb16 _) ?_
  rw [d2]
  have S3 := S2.put (n := s + 2) (by omega) (by omega) (.pointer (some ⟨G, ib, none⟩))
  have k3_2 := k2_2.ne (n := s + 2) (by omega) (.pointer (some ⟨G, ib, none⟩))
  have k3_3 := k2_3.ne (n := s + 2) (by omega) (.pointer (some ⟨G, ib, none⟩))
  have k3_6 := k2_6.ne (n := s + 2) (by omega) (.pointer (some ⟨G, ib, none⟩))
  have k3_sp1 := k2_sp1.ne (n := s + 2) (by omega) (.pointer (some ⟨G, ib, none⟩))
  have k3_sp2 := At.put (a := a2) (n := s + 2) (by rw [S2.1]; omega) (.pointer (some ⟨G, ib, none⟩))
  generalize a2.put (some (s + 2)) (.pointer (some ⟨G, ib, none⟩)) = a3 at S3 k3_2 k3_3 k3_6 k3_sp1 k3_sp2 ⊢
  clear S2 k2_2 k2_3 k2_6 k2_sp1
  refine still_val (v := (wv (g v ib))) g3 (ex_load32 p3 k3_sp2.eval e2) ?_
  rw [d3]
  have S4 := S3.put (n := s + 3) (by omega) (by omega) (wv (g v ib))
  have k4_2 := k3_2.ne (n := s + 3) (by omega) (wv (g v ib))
  have k4_3 := k3_3.ne (n := s + 3) (by omega) (wv (g v ib))
  have k4_6 := k3_6.ne (n := s + 3) (by omega) (wv (g v ib))
  have k4_sp1 := k3_sp1.ne (n := s + 3) (by omega) (wv (g v ib))
  have k4_sp3 := At.put (a := a3) (n := s + 3) (by rw [S3.1]; omega) (wv (g v ib))
  generalize a3.put (some (s + 3)) (wv (g v ib)) = a4 at S4 k4_2 k4_3 k4_6 k4_sp1 k4_sp3 ⊢
  clear S3 k3_2 k3_3 k3_6 k3_sp1 k3_sp2
  refine still_val g4 (ex_idx16 p4 k4_2.eval rfl hc16 _) ?_
  rw [d4]
  have S5 := S4.put (n := s + 4) (by omega) (by omega) (.pointer (some ⟨G, ic, none⟩))
  have k5_2 := k4_2.ne (n := s + 4) (by omega) (.pointer (some ⟨G, ic, none⟩))
  have k5_3 := k4_3.ne (n := s + 4) (by omega) (.pointer (some ⟨G, ic, none⟩))
  have k5_6 := k4_6.ne (n := s + 4) (by omega) (.pointer (some ⟨G, ic, none⟩))
  have k5_sp1 := k4_sp1.ne (n := s + 4) (by omega) (.pointer (some ⟨G, ic, none⟩))
  have k5_sp3 := k4_sp3.ne (n := s + 4) (by omega) (.pointer (some ⟨G, ic, none⟩))
  have k5_sp4 := At.put (a := a4) (n := s + 4) (by rw [S4.1]; omega) (.pointer (some ⟨G, ic, none⟩))
  generalize a4.put (some (s + 4)) (.pointer (some ⟨G, ic, none⟩)) = a5 at S5 k5_2 k5_3 k5_6 k5_sp1 k5_sp3 k5_sp4 ⊢
  clear S4 k4_2 k4_3 k4_6 k4_sp1 k4_sp3
  refine still_val (v := (wv (g v ic))) g5 (ex_load32 p5 k5_sp4.eval e3) ?_
  rw [d5]
  have S6 := S5.put (n := s + 5) (by omega) (by omega) (wv (g v ic))
  have k6_2 := k5_2.ne (n := s + 5) (by omega) (wv (g v ic))
  have k6_3 := k5_3.ne (n := s + 5) (by omega) (wv (g v ic))
  have k6_6 := k5_6.ne (n := s + 5) (by omega) (wv (g v ic))
  have k6_sp1 := k5_sp1.ne (n := s + 5) (by omega) (wv (g v ic))
  have k6_sp3 := k5_sp3.ne (n := s + 5) (by omega) (wv (g v ic))
  have k6_sp5 := At.put (a := a5) (n := s + 5) (by rw [S5.1]; omega) (wv (g v ic))
  generalize a5.put (some (s + 5)) (wv (g v ic)) = a6 at S6 k6_2 k6_3 k6_6 k6_sp1 k6_sp3 k6_sp5 ⊢
  clear S5 k5_2 k5_3 k5_6 k5_sp1 k5_sp3 k5_sp4
  refine still_val g6 (ex_idx16 p6 k6_2.eval rfl hd16 _) ?_
  rw [d6]
  have S7 := S6.put (n := s + 6) (by omega) (by omega) (.pointer (some ⟨G, id, none⟩))
  have k7_2 := k6_2.ne (n := s + 6) (by omega) (.pointer (some ⟨G, id, none⟩))
  have k7_3 := k6_3.ne (n := s + 6) (by omega) (.pointer (some ⟨G, id, none⟩))
  have k7_6 := k6_6.ne (n := s + 6) (by omega) (.pointer (some ⟨G, id, none⟩))
  have k7_sp1 := k6_sp1.ne (n := s + 6) (by omega) (.pointer (some ⟨G, id, none⟩))
  have k7_sp3 := k6_sp3.ne (n := s + 6) (by omega) (.pointer (some ⟨G, id, none⟩))
  have k7_sp5 := k6_sp5.ne (n := s + 6) (by omega) (.pointer (some ⟨G, id, none⟩))
  have k7_sp6 := At.put (a := a6) (n := s + 6) (by rw [S6.1]; omega) (.pointer (some ⟨G, id, none⟩))
  generalize a6.put (some (s + 6)) (.pointer (some ⟨G, id, none⟩)) = a7 at S7 k7_2 k7_3 k7_6 k7_sp1 k7_sp3 k7_sp5 k7_sp6 ⊢
  clear S6 k6_2 k6_3 k6_6 k6_sp1 k6_sp3 k6_sp5
  refine still_val (v := (wv (g v id))) g7 (ex_load32 p7 k7_sp6.eval e4) ?_
  rw [d7]
  have S8 := S7.put (n := s + 7) (by omega) (by omega) (wv (g v id))
  have k8_2 := k7_2.ne (n := s + 7) (by omega) (wv (g v id))
  have k8_3 := k7_3.ne (n := s + 7) (by omega) (wv (g v id))
  have k8_6 := k7_6.ne (n := s + 7) (by omega) (wv (g v id))
  have k8_sp1 := k7_sp1.ne (n := s + 7) (by omega) (wv (g v id))
  have k8_sp3 := k7_sp3.ne (n := s + 7) (by omega) (wv (g v id))
  have k8_sp5 := k7_sp5.ne (n := s + 7) (by omega) (wv (g v id))
  have k8_sp7 := At.put (a := a7) (n := s + 7) (by rw [S7.1]; omega) (wv (g v id))
  generalize a7.put (some (s + 7)) (wv (g v id)) = a8 at S8 k8_2 k8_3 k8_6 k8_sp1 k8_sp3 k8_sp5 k8_sp7 ⊢
  clear S7 k7_2 k7_3 k7_6 k7_sp1 k7_sp3 k7_sp5 k7_sp6
  refine still_val g8 (ex_idx16b p8 k8_6.eval rfl hi _) ?_
  rw [d8]
  have S9 := S8.put (n := s + 8) (by omega) (by omega) (.pointer (some ⟨B, i, none⟩))
  have k9_2 := k8_2.ne (n := s + 8) (by omega) (.pointer (some ⟨B, i, none⟩))
  have k9_3 := k8_3.ne (n := s + 8) (by omega) (.pointer (some ⟨B, i, none⟩))
  have k9_6 := k8_6.ne (n := s + 8) (by omega) (.pointer (some ⟨B, i, none⟩))
  have k9_sp1 := k8_sp1.ne (n := s + 8) (by omega) (.pointer (some ⟨B, i, none⟩))
  have k9_sp3 := k8_sp3.ne (n := s + 8) (by omega) (.pointer (some ⟨B, i, none⟩))
  have k9_sp5 := k8_sp5.ne (n := s + 8) (by omega) (.pointer (some ⟨B, i, none⟩))
  have k9_sp7 := k8_sp7.ne (n := s + 8) (by omega) (.pointer (some ⟨B, i, none⟩))
  have k9_sp8 := At.put (a := a8) (n := s + 8) (by rw [S8.1]; omega) (.pointer (some ⟨B, i, none⟩))
  generalize a8.put (some (s + 8)) (.pointer (some ⟨B, i, none⟩)) = a9 at S9 k9_2 k9_3 k9_6 k9_sp1 k9_sp3 k9_sp5 k9_sp7 k9_sp8 ⊢
  clear S8 k8_2 k8_3 k8_6 k8_sp1 k8_sp3 k8_sp5 k8_sp7
  refine still_val (v := (.int .u8 ((pm k i : Nat) : Int))) g9 (ex_load8 p9 k9_sp8.eval e5) ?_
  rw [d9]
  have S10 := S9.put (n := s + 9) (by omega) (by omega) (.int .u8 ((pm k i : Nat) : Int))
  have k10_2 := k9_2.ne (n := s + 9) (by omega) (.int .u8 ((pm k i : Nat) : Int))
  have k10_3 := k9_3.ne (n := s + 9) (by omega) (.int .u8 ((pm k i : Nat) : Int))
  have k10_6 := k9_6.ne (n := s + 9) (by omega) (.int .u8 ((pm k i : Nat) : Int))
  have k10_sp1 := k9_sp1.ne (n := s + 9) (by omega) (.int .u8 ((pm k i : Nat) : Int))
  have k10_sp3 := k9_sp3.ne (n := s + 9) (by omega) (.int .u8 ((pm k i : Nat) : Int))
  have k10_sp5 := k9_sp5.ne (n := s + 9) (by omega) (.int .u8 ((pm k i : Nat) : Int))
  have k10_sp7 := k9_sp7.ne (n := s + 9) (by omega) (.int .u8 ((pm k i : Nat) : Int))
  have k10_sp9 := At.put (a := a9) (n := s + 9) (by rw [S9.1]; omega) (.int .u8 ((pm k i : Nat) : Int))
  generalize a9.put (some (s + 9)) (.int .u8 ((pm k i : Nat) : Int)) = a10 at S10 k10_2 k10_3 k10_6 k10_sp1 k10_sp3 k10_sp5 k10_sp7 k10_sp9 ⊢
  clear S9 k9_2 k9_3 k9_6 k9_sp1 k9_sp3 k9_sp5 k9_sp7 k9_sp8
  refine still_val g10 (ex_idx16 p10 k10_3.eval k10_sp9.eval hx16 _) ?_
  rw [d10]
  have S11 := S10.put (n := s + 10) (by omega) (by omega) (.pointer (some ⟨M, pm k i, none⟩))
  have k11_2 := k10_2.ne (n := s + 10) (by omega) (.pointer (some ⟨M, pm k i, none⟩))
  have k11_3 := k10_3.ne (n := s + 10) (by omega) (.pointer (some ⟨M, pm k i, none⟩))
  have k11_6 := k10_6.ne (n := s + 10) (by omega) (.pointer (some ⟨M, pm k i, none⟩))
  have k11_sp1 := k10_sp1.ne (n := s + 10) (by omega) (.pointer (some ⟨M, pm k i, none⟩))
  have k11_sp3 := k10_sp3.ne (n := s + 10) (by omega) (.pointer (some ⟨M, pm k i, none⟩))
  have k11_sp5 := k10_sp5.ne (n := s + 10) (by omega) (.pointer (some ⟨M, pm k i, none⟩))
  have k11_sp7 := k10_sp7.ne (n := s + 10) (by omega) (.pointer (some ⟨M, pm k i, none⟩))
  have k11_sp10 := At.put (a := a10) (n := s + 10) (by rw [S10.1]; omega) (.pointer (some ⟨M, pm k i, none⟩))
  generalize a10.put (some (s + 10)) (.pointer (some ⟨M, pm k i, none⟩)) = a11 at S11 k11_2 k11_3 k11_6 k11_sp1 k11_sp3 k11_sp5 k11_sp7 k11_sp10 ⊢
  clear S10 k10_2 k10_3 k10_6 k10_sp1 k10_sp3 k10_sp5 k10_sp7 k10_sp9
  refine still_val (v := (wv (g m (pm k i)))) g11 (ex_load32 p11 k11_sp10.eval e7) ?_
  rw [d11]
  have S12 := S11.put (n := s + 11) (by omega) (by omega) (wv (g m (pm k i)))
  have k12_2 := k11_2.ne (n := s + 11) (by omega) (wv (g m (pm k i)))
  have k12_3 := k11_3.ne (n := s + 11) (by omega) (wv (g m (pm k i)))
  have k12_6 := k11_6.ne (n := s + 11) (by omega) (wv (g m (pm k i)))
  have k12_sp1 := k11_sp1.ne (n := s + 11) (by omega) (wv (g m (pm k i)))
  have k12_sp3 := k11_sp3.ne (n := s + 11) (by omega) (wv (g m (pm k i)))
  have k12_sp5 := k11_sp5.ne (n := s + 11) (by omega) (wv (g m (pm k i)))
  have k12_sp7 := k11_sp7.ne (n := s + 11) (by omega) (wv (g m (pm k i)))
  have k12_sp11 := At.put (a := a11) (n := s + 11) (by rw [S11.1]; omega) (wv (g m (pm k i)))
  generalize a11.put (some (s + 11)) (wv (g m (pm k i))) = a12 at S12 k12_2 k12_3 k12_6 k12_sp1 k12_sp3 k12_sp5 k12_sp7 k12_sp11 ⊢
  clear S11 k11_2 k11_3 k11_6 k11_sp1 k11_sp3 k11_sp5 k11_sp7 k11_sp10
  refine still_val g12 (ex_idx16b p12 k12_6.eval rfl hj _) ?_
  rw [d12]
  have S13 := S12.put (n := s + 12) (by omega) (by omega) (.pointer (some ⟨B, j, none⟩))
  have k13_2 := k12_2.ne (n := s + 12) (by omega) (.pointer (some ⟨B, j, none⟩))
  have k13_3 := k12_3.ne (n := s + 12) (by omega) (.pointer (some ⟨B, j, none⟩))
  have k13_sp1 := k12_sp1.ne (n := s + 12) (by omega) (.pointer (some ⟨B, j, none⟩))
  have k13_sp3 := k12_sp3.ne (n := s + 12) (by omega) (.pointer (some ⟨B, j, none⟩))
  have k13_sp5 := k12_sp5.ne (n := s + 12) (by omega) (.pointer (some ⟨B, j, none⟩))
  have k13_sp7 := k12_sp7.ne (n := s + 12) (by omega) (.pointer (some ⟨B, j, none⟩))
  have k13_sp11 := k12_sp11.ne (n := s + 12) (by omega) (.pointer (some ⟨B, j, none⟩))
  have k13_sp12 := At.put (a := a12) (n := s + 12) (by rw [S12.1]; omega) (.pointer (some ⟨B, j, none⟩))
  generalize a12.put (some (s + 12)) (.pointer (some ⟨B, j, none⟩)) = a13 at S13 k13_2 k13_3 k13_sp1 k13_sp3 k13_sp5 k13_sp7 k13_sp11 k13_sp12 ⊢
  clear S12 k12_2 k12_3 k12_6 k12_sp1 k12_sp3 k12_sp5 k12_sp7 k12_sp11
  refine still_val (v := (.int .u8 ((pm k j : Nat) : Int))) g13 (ex_load8 p13 k13_sp12.eval e6) ?_
  rw [d13]
  have S14 := S13.put (n := s + 13) (by omega) (by omega) (.int .u8 ((pm k j : Nat) : Int))
  have k14_2 := k13_2.ne (n := s + 13) (by omega) (.int .u8 ((pm k j : Nat) : Int))
  have k14_3 := k13_3.ne (n := s + 13) (by omega) (.int .u8 ((pm k j : Nat) : Int))
  have k14_sp1 := k13_sp1.ne (n := s + 13) (by omega) (.int .u8 ((pm k j : Nat) : Int))
  have k14_sp3 := k13_sp3.ne (n := s + 13) (by omega) (.int .u8 ((pm k j : Nat) : Int))
  have k14_sp5 := k13_sp5.ne (n := s + 13) (by omega) (.int .u8 ((pm k j : Nat) : Int))
  have k14_sp7 := k13_sp7.ne (n := s + 13) (by omega) (.int .u8 ((pm k j : Nat) : Int))
  have k14_sp11 := k13_sp11.ne (n := s + 13) (by omega) (.int .u8 ((pm k j : Nat) : Int))
  have k14_sp13 := At.put (a := a13) (n := s + 13) (by rw [S13.1]; omega) (.int .u8 ((pm k j : Nat) : Int))
  generalize a13.put (some (s + 13)) (.int .u8 ((pm k j : Nat) : Int)) = a14 at S14 k14_2 k14_3 k14_sp1 k14_sp3 k14_sp5 k14_sp7 k14_sp11 k14_sp13 ⊢
  clear S13 k13_2 k13_3 k13_sp1 k13_sp3 k13_sp5 k13_sp7 k13_sp11 k13_sp12
  refine still_val g14 (ex_idx16 p14 k14_3.eval k14_sp13.eval hy16 _) ?_
  rw [d14]
  have S15 := S14.put (n := s + 14) (by omega) (by omega) (.pointer (some ⟨M, pm k j, none⟩))
  have k15_2 := k14_2.ne (n := s + 14) (by omega) (.pointer (some ⟨M, pm k j, none⟩))
  have k15_sp1 := k14_sp1.ne (n := s + 14) (by omega) (.pointer (some ⟨M, pm k j, none⟩))
  have k15_sp3 := k14_sp3.ne (n := s + 14) (by omega) (.pointer (some ⟨M, pm k j, none⟩))
  have k15_sp5 := k14_sp5.ne (n := s + 14) (by omega) (.pointer (some ⟨M, pm k j, none⟩))
  have k15_sp7 := k14_sp7.ne (n := s + 14) (by omega) (.pointer (some ⟨M, pm k j, none⟩))
  have k15_sp11 := k14_sp11.ne (n := s + 14) (by omega) (.pointer (some ⟨M, pm k j, none⟩))
  have k15_sp14 := At.put (a := a14) (n := s + 14) (by rw [S14.1]; omega) (.pointer (some ⟨M, pm k j, none⟩))
  generalize a14.put (some (s + 14)) (.pointer (some ⟨M, pm k j, none⟩)) = a15 at S15 k15_2 k15_sp1 k15_sp3 k15_sp5 k15_sp7 k15_sp11 k15_sp14 ⊢
  clear S14 k14_2 k14_3 k14_sp1 k14_sp3 k14_sp5 k14_sp7 k14_sp11 k14_sp13
  refine still_val (v := (wv (g m (pm k j)))) g15 (ex_load32 p15 k15_sp14.eval e8) ?_
  rw [d15]
  have S16 := S15.put (n := s + 15) (by omega) (by omega) (wv (g m (pm k j)))
  have k16_2 := k15_2.ne (n := s + 15) (by omega) (wv (g m (pm k j)))
  have k16_sp1 := k15_sp1.ne (n := s + 15) (by omega) (wv (g m (pm k j)))
  have k16_sp3 := k15_sp3.ne (n := s + 15) (by omega) (wv (g m (pm k j)))
  have k16_sp5 := k15_sp5.ne (n := s + 15) (by omega) (wv (g m (pm k j)))
  have k16_sp7 := k15_sp7.ne (n := s + 15) (by omega) (wv (g m (pm k j)))
  have k16_sp11 := k15_sp11.ne (n := s + 15) (by omega) (wv (g m (pm k j)))
  have k16_sp15 := At.put (a := a15) (n := s + 15) (by rw [S15.1]; omega) (wv (g m (pm k j)))
  generalize a15.put (some (s + 15)) (wv (g m (pm k j))) = a16 at S16 k16_2 k16_sp1 k16_sp3 k16_sp5 k16_sp7 k16_sp11 k16_sp15 ⊢
  clear S15 k15_2 k15_sp1 k15_sp3 k15_sp5 k15_sp7 k15_sp11 k15_sp14
  refine still_enter (v := (mxV (A, B', C, D))) g16 (ex_mix p16 k16_sp1 k16_sp3 k16_sp5 k16_sp7 k16_sp11 k16_sp15 _) cm ?_
  rw [d16]
  have S17 := S16.put (n := s + 16) (by omega) (by omega) (mxV (A, B', C, D))
  have k17_2 := k16_2.ne (n := s + 16) (by omega) (mxV (A, B', C, D))
  have k17_sp16 := At.put (a := a16) (n := s + 16) (by rw [S16.1]; omega) (mxV (A, B', C, D))
  generalize a16.put (some (s + 16)) (mxV (A, B', C, D)) = a17 at S17 k17_2 k17_sp16 ⊢
  clear S16 k16_2 k16_sp1 k16_sp3 k16_sp5 k16_sp7 k16_sp11 k16_sp15
  refine wpStill_nil ?_
  refine pure_val (v := (mxV (A, B', C, D))) g17 (ex_move p17 k17_sp16.eval) ?_
  rw [d17]
  have S18 := S17.put (n := s - 1) (by omega) (by omega) (mxV (A, B', C, D))
  have k18_2 := k17_2.ne (n := s - 1) (by omega) (mxV (A, B', C, D))
  have k18_sm1 := At.put (a := a17) (n := s - 1) (by rw [S17.1]; omega) (mxV (A, B', C, D))
  generalize a17.put (some (s - 1)) (mxV (A, B', C, D)) = a18 at S18 k18_2 k18_sm1 ⊢
  clear S17 k17_2 k17_sp16
  refine pure_val (v := (wv A)) g18 (ex_extract p18 k18_sm1.eval rfl) ?_
  rw [d18]
  have S19 := S18.put (n := s + 17) (by omega) (by omega) (wv A)
  have k19_2 := k18_2.ne (n := s + 17) (by omega) (wv A)
  have k19_sm1 := k18_sm1.ne (n := s + 17) (by omega) (wv A)
  have k19_sp17 := At.put (a := a18) (n := s + 17) (by rw [S18.1]; omega) (wv A)
  generalize a18.put (some (s + 17)) (wv A) = a19 at S19 k19_2 k19_sm1 k19_sp17 ⊢
  clear S18 k18_2 k18_sm1
  refine pure_val (v := (wv B')) g19 (ex_extract p19 k19_sm1.eval rfl) ?_
  rw [d19]
  have S20 := S19.put (n := s + 18) (by omega) (by omega) (wv B')
  have k20_2 := k19_2.ne (n := s + 18) (by omega) (wv B')
  have k20_sm1 := k19_sm1.ne (n := s + 18) (by omega) (wv B')
  have k20_sp17 := k19_sp17.ne (n := s + 18) (by omega) (wv B')
  have k20_sp18 := At.put (a := a19) (n := s + 18) (by rw [S19.1]; omega) (wv B')
  generalize a19.put (some (s + 18)) (wv B') = a20 at S20 k20_2 k20_sm1 k20_sp17 k20_sp18 ⊢
  clear S19 k19_2 k19_sm1 k19_sp17
  refine pure_val (v := (wv C)) g20 (ex_extract p20 k20_sm1.eval rfl) ?_
  rw [d20]
  have S21 := S20.put (n := s + 19) (by omega) (by omega) (wv C)
  have k21_2 := k20_2.ne (n := s + 19) (by omega) (wv C)
  have k21_sm1 := k20_sm1.ne (n := s + 19) (by omega) (wv C)
  have k21_sp17 := k20_sp17.ne (n := s + 19) (by omega) (wv C)
  have k21_sp18 := k20_sp18.ne (n := s + 19) (by omega) (wv C)
  have k21_sp19 := At.put (a := a20) (n := s + 19) (by rw [S20.1]; omega) (wv C)
  generalize a20.put (some (s + 19)) (wv C) = a21 at S21 k21_2 k21_sm1 k21_sp17 k21_sp18 k21_sp19 ⊢
  clear S20 k20_2 k20_sm1 k20_sp17 k20_sp18
  refine pure_val (v := (wv D)) g21 (ex_extract p21 k21_sm1.eval rfl) ?_
  rw [d21]
  have S22 := S21.put (n := s + 20) (by omega) (by omega) (wv D)
  have k22_2 := k21_2.ne (n := s + 20) (by omega) (wv D)
  have k22_sp17 := k21_sp17.ne (n := s + 20) (by omega) (wv D)
  have k22_sp18 := k21_sp18.ne (n := s + 20) (by omega) (wv D)
  have k22_sp19 := k21_sp19.ne (n := s + 20) (by omega) (wv D)
  have k22_sp20 := At.put (a := a21) (n := s + 20) (by rw [S21.1]; omega) (wv D)
  generalize a21.put (some (s + 20)) (wv D) = a22 at S22 k22_2 k22_sp17 k22_sp18 k22_sp19 k22_sp20 ⊢
  clear S21 k21_2 k21_sm1 k21_sp17 k21_sp18 k21_sp19
  show wpList _ _ _ _ _ _
  refine list_val g22 (ex_idx16 p22 k22_2.eval rfl ha16 _) ?_
  rw [d22]
  have S23 := S22.put (n := s + 21) (by omega) (by omega) (.pointer (some ⟨G, ia, none⟩))
  have k23_2 := k22_2.ne (n := s + 21) (by omega) (.pointer (some ⟨G, ia, none⟩))
  have k23_sp17 := k22_sp17.ne (n := s + 21) (by omega) (.pointer (some ⟨G, ia, none⟩))
  have k23_sp18 := k22_sp18.ne (n := s + 21) (by omega) (.pointer (some ⟨G, ia, none⟩))
  have k23_sp19 := k22_sp19.ne (n := s + 21) (by omega) (.pointer (some ⟨G, ia, none⟩))
  have k23_sp20 := k22_sp20.ne (n := s + 21) (by omega) (.pointer (some ⟨G, ia, none⟩))
  have k23_sp21 := At.put (a := a22) (n := s + 21) (by rw [S22.1]; omega) (.pointer (some ⟨G, ia, none⟩))
  generalize a22.put (some (s + 21)) (.pointer (some ⟨G, ia, none⟩)) = a23 at S23 k23_2 k23_sp17 k23_sp18 k23_sp19 k23_sp20 k23_sp21 ⊢
  clear S22 k22_2 k22_sp17 k22_sp18 k22_sp19 k22_sp20
  refine list_skip g23 d23 (ex_store32 p23 k23_sp21.eval k23_sp17.eval x1 f1) ?_
  refine list_val g24 (ex_idx16 p24 k23_2.eval rfl hb16 _) ?_
  rw [d24]
  have S24 := S23.put (n := s + 22) (by omega) (by omega) (.pointer (some ⟨G, ib, none⟩))
  have k24_2 := k23_2.ne (n := s + 22) (by omega) (.pointer (some ⟨G, ib, none⟩))
  have k24_sp18 := k23_sp18.ne (n := s + 22) (by omega) (.pointer (some ⟨G, ib, none⟩))
  have k24_sp19 := k23_sp19.ne (n := s + 22) (by omega) (.pointer (some ⟨G, ib, none⟩))
  have k24_sp20 := k23_sp20.ne (n := s + 22) (by omega) (.pointer (some ⟨G, ib, none⟩))
  have k24_sp22 := At.put (a := a23) (n := s + 22) (by rw [S23.1]; omega) (.pointer (some ⟨G, ib, none⟩))
  generalize a23.put (some (s + 22)) (.pointer (some ⟨G, ib, none⟩)) = a24 at S24 k24_2 k24_sp18 k24_sp19 k24_sp20 k24_sp22 ⊢
  clear S23 k23_2 k23_sp17 k23_sp18 k23_sp19 k23_sp20 k23_sp21
  refine list_skip g25 d25 (ex_store32 p25 k24_sp22.eval k24_sp18.eval x2 f2) ?_
  refine list_val g26 (ex_idx16 p26 k24_2.eval rfl hc16 _) ?_
  rw [d26]
  have S25 := S24.put (n := s + 23) (by omega) (by omega) (.pointer (some ⟨G, ic, none⟩))
  have k25_2 := k24_2.ne (n := s + 23) (by omega) (.pointer (some ⟨G, ic, none⟩))
  have k25_sp19 := k24_sp19.ne (n := s + 23) (by omega) (.pointer (some ⟨G, ic, none⟩))
  have k25_sp20 := k24_sp20.ne (n := s + 23) (by omega) (.pointer (some ⟨G, ic, none⟩))
  have k25_sp23 := At.put (a := a24) (n := s + 23) (by rw [S24.1]; omega) (.pointer (some ⟨G, ic, none⟩))
  generalize a24.put (some (s + 23)) (.pointer (some ⟨G, ic, none⟩)) = a25 at S25 k25_2 k25_sp19 k25_sp20 k25_sp23 ⊢
  clear S24 k24_2 k24_sp18 k24_sp19 k24_sp20 k24_sp22
  refine list_skip g27 d27 (ex_store32 p27 k25_sp23.eval k25_sp19.eval x3 f3) ?_
  refine list_val g28 (ex_idx16 p28 k25_2.eval rfl hd16 _) ?_
  rw [d28]
  have S26 := S25.put (n := s + 24) (by omega) (by omega) (.pointer (some ⟨G, id, none⟩))
  have k26_sp20 := k25_sp20.ne (n := s + 24) (by omega) (.pointer (some ⟨G, id, none⟩))
  have k26_sp24 := At.put (a := a25) (n := s + 24) (by rw [S25.1]; omega) (.pointer (some ⟨G, id, none⟩))
  generalize a25.put (some (s + 24)) (.pointer (some ⟨G, id, none⟩)) = a26 at S26 k26_sp20 k26_sp24 ⊢
  clear S25 k25_2 k25_sp19 k25_sp20 k25_sp23
  refine list_skip g29 d29 (ex_store32 p29 k26_sp24.eval k26_sp20.eval x4 f4) ?_
  refine hQ _ _ S26 hA4 (fun H hH => ?_) (fun b w0 hb h => ?_)
  · rw [heap_setCell_other _ _ _ _ hH, heap_setCell_other _ _ _ _ hH, heap_setCell_other _ _ _ _ hH, heap_setCell_other _ _ _ _ hH]
    rfl
  · exact ((((h.drew).setCell (p := ⟨G, ia, none⟩) hb _).setCell (p := ⟨G, ib, none⟩) hb _).setCell (p := ⟨G, ic, none⟩) hb _).setCell (p := ⟨G, id, none⟩) hb _
end Go.Proofs.YtkppepdniehoiaaDoor.B4
