/- The contracts of the landed reader's small methods (layer 20). The contracts of the landed reader's methods begin, end, name, number (layer 20). Rows of trees that grow (layer 20). The contract of the landed list at expressions (layer 20). The contract of the landed list at strings (layer 20). The contract of the landed strength (layer 20). -/
import Derived.Test.YtpbcncfbfbghcaaGreatDoorP20F
import Derived.Test.YtpbcncfbfbghcaaGreatDoorShelf
import Derived.Recover
import Derived.StillTailTactics
import Derived.Test.YtpbcncfbfbghcaaGreatDoorP20A
import Derived.Laws.Rows
namespace Go.Proofs.YtpbcncfbfbghcaaGreatDoor.L20
set_option maxRecDepth 100000
open Go.RowKit Mem L19
set_option linter.unusedVariables false
set_option linter.unusedSimpArgs false

/-- How a call ends whose result lies in a box. -/
theorem ret_cell {fn : Func} {i T : Nat} {fs : Array Field} {cs : List Value} (hr : fn.results = #[.cell i T]) (hu : Tryz.prog.underlying T = some (.struct fs)) (hi : (Tryz.prog.info? T).map (·.size) = some cs.length)
    {tmps : Array Value} {W : World} {G : Nat} {R : Ending → World → Prop} (h2 : tmps.getD i undef = .pointer (some ⟨G, 0, none⟩)) (hb : Blk T W G cs) (hR : R (.returned (.agg cs.toArray)) W) :
    bodyPost Tryz.prog fn R .ret { tmps := tmps, defers := [] } W := by
  refine bodyPost_ret (v := .agg cs.toArray) ?_ rfl hR
  have h2' : tmps[i]?.getD undef = .pointer (some ⟨G, 0, none⟩) := by simpa using h2
  have hl := run_loadVar_row (P := Tryz.prog) W G T T cs.toArray (0, 0) _ hb hu rfl (by simpa using hi)
  simp [results, hr, h2', asAddr, hl]
section
variable {base B k o : Nat} {l : List L19.Tok} {w : World}
set_option maxHeartbeats 2000000 in
theorem peek_any (h : RdS base B l k o w) : Calls Tryz.prog 62 #[.pointer (some ⟨B, 0, none⟩)] w fun e w' => ∃ (K Z : Int) (S : ByteArray), e = .returned (.agg #[.int .i64 K, .string S, .int .i64 Z]) ∧ K = ((tokAt l k).1 : Int) ∧ Z = ((tokAt l k).2.2 : Int) ∧ strV (tokAt l k).2.1 = .string S ∧ Below w.heap.size w w' := by
  obtain ⟨A, n, cap, h1, h2, h3⟩ := h.box
  have hkn := h.kn
  have hnl := h2.len
  have hne : 0 < l.length := List.length_pos_iff.2 h.ok.ne
  have hlen := h.ok.len
  have c0 := h1.cell 0
  have c1 := h1.cell 1
  simp only [List.getElem?_cons_zero, List.getElem?_cons_succ] at c0 c1
  have hcap := h2.le
  obtain ⟨g, hg⟩ : ∃ g, w.heap.size = g := ⟨_, rfl⟩
  by_cases hk : k = n
  · obtain ⟨m, hm⟩ : ∃ m, n = m + 1 := ⟨n - 1, by omega⟩
    obtain ⟨K, T, z, b, j, e1, e2, e3, e4, e5, e6⟩ := h2.at (i := m) (by omega)
    have htk : tokAt l k = (0, [], z) := by
      unfold tokAt
      rw [List.getElem?_eq_none_iff.2 (by omega), List.getLast?_eq_getElem?, show l.length - 1 = m by omega, e1]
      rfl
    rw [htk]
    subst hk e2
    have t1 : ((k : Int) == (k : Int)) = true := by simp
    have t2 : (k : Int) - 1 = (m : Int) := by omega
    have t3 : (m : Int) < (k : Int) := by omega
    have t4 : (0 : Int) ≤ (m : Int) := by omega
    have t5 : ¬ cap = 0 := by omega
    have t7 : (m : Int) ≤ 60000 := by omega
    obtain ⟨w1, hw1⟩ : ∃ W, w.alloc (.cells #[.int .i64 0, .string ⟨#[]⟩, .int .i64 0] 39) = W := ⟨_, rfl⟩
    have hb1 : Below w.heap.size w w1 := by rw [← hw1]; exact boxed w _
    have hk1 : Blk 39 w1 g [.int .i64 0, .string ⟨#[]⟩, .int .i64 0] := by rw [← hw1, ← hg]; exact Blk.new w _ _
    have c0 : w1.cell? ⟨B, 0, none⟩ = _ := (hb1.cell (p := ⟨B, 0, none⟩) h1.lt).trans c0
    have c1 : w1.cell? ⟨B, 1, none⟩ = _ := (hb1.cell (p := ⟨B, 1, none⟩) h1.lt).trans c1
    have e6 : w1.cell? ⟨b, j + m * 3 + 2, none⟩ = _ := (hb1.cell (p := ⟨b, j + m * 3 + 2, none⟩) e3).trans e6
    have g0 := hk1.cell 0
    have g1 := hk1.cell 1
    have g2 := hk1.cell 2
    simp only [List.getElem?_cons_zero, List.getElem?_cons_succ] at g0 g1 g2
    have f0 := hk1.frz 0
    have f1 := hk1.frz 1
    have f2 := hk1.frz 2
    replace hk1 := Lib.hid hk1
    replace hb1 := Lib.hid hb1
    clear h1 h2 h3 htk hkn e1 h hne hnl hm e4 e5
    go_enter Tryz.func62, Tryz.ntmps62
    go_wp2
    go_quiet (fail)
    go_wp2
    obtain ⟨w2, hw2⟩ : ∃ W, w1.drewN nq = W := ⟨_, rfl⟩
    rw [hw2]
    have c0 : w2.cell? ⟨B, 0, none⟩ = some (.slice (some ⟨b, j, none⟩) k cap) := by rw [← hw2]; exact c0
    have c1 : w2.cell? ⟨B, 1, none⟩ = some (.int .i64 (k : Int)) := by rw [← hw2]; exact c1
    have e6 : w2.cell? ⟨b, j + m * 3 + 2, none⟩ = some (.int .i64 (z : Int)) := by rw [← hw2]; exact e6
    obtain ⟨w3, hw3⟩ : ∃ W, w2.drew = W := ⟨_, rfl⟩
    have hk3 : Blk 39 w3 g [.int .i64 0, .string ⟨#[]⟩, .int .i64 0] := by rw [← hw3, ← hw2]; exact hk1.out
    have hb3 : Below w.heap.size w w3 := by rw [← hw3, ← hw2]; exact below_drewB (chainN hb1.out nq)
    have g0 := hk3.cell 0
    have g1 := hk3.cell 1
    have g2 := hk3.cell 2
    simp only [List.getElem?_cons_zero, List.getElem?_cons_succ] at g0 g1 g2
    have f0 := hk3.frz 0
    have f1 := hk3.frz 1
    have f2 := hk3.frz 2
    have fin : Blk 39 (((w3.setCell ⟨g, 0, none⟩ (.int .i64 0)).setCell ⟨g, 1, none⟩ (.string ⟨#[]⟩)).setCell ⟨g, 2, none⟩ (.int .i64 (z : Int))) g [.int .i64 0, .string ⟨#[]⟩, .int .i64 (z : Int)] := ((hk3.set 0 _).set 1 _).set 2 _
    have fb : Below w.heap.size w (((w3.setCell ⟨g, 0, none⟩ (.int .i64 0)).setCell ⟨g, 1, none⟩ (.string ⟨#[]⟩)).setCell ⟨g, 2, none⟩ (.int .i64 (z : Int))) := ((hb3.setCell (p := ⟨g, 0, none⟩) (Nat.le_of_eq hg) _).setCell (p := ⟨g, 1, none⟩) (Nat.le_of_eq hg) _).setCell (p := ⟨g, 2, none⟩) (Nat.le_of_eq hg) _
    replace fin := Lib.hid fin
    replace fb := Lib.hid fb
    replace hw3 := Lib.hid hw3
    clear hw1 hk1 hk3 hb1 hb3
    have t6 : IntKind.i64.wrap (m : Int) = (m : Int) := by rw [IntKind.wrap_i64]; omega
    refine wp_region_still_tail 13 (by kernel_rfl) (by kernel_rfl) ?_
    simp only [List.take_succ_cons, List.take_zero, List.drop_succ_cons, List.drop_zero]
    repeat still_step
    refine wpStill_nil ?_
    change wpList _ _ _ _ _ w2.drew
    rw [hw3.out]
    clear hw2 hw3 c0 c1 e6
    go_wp2
    exact ret_cell rfl Tryz.underlying39 (by kernel_rfl) (by simp) fin.out ⟨_, _, _, rfl, rfl, rfl, rfl, fb.out⟩
  · obtain ⟨K, T, z, b, j, e1, e2, e3, e4, e5, e6⟩ := h2.at (i := k) (by omega)
    have htk : tokAt l k = (K, T, z) := by
      unfold tokAt
      rw [e1]
      rfl
    rw [htk]
    subst e2
    obtain ⟨S, hS⟩ : ∃ S, strV T = .string S := ⟨_, rfl⟩
    rw [hS] at e5
    have hST : strV ((K, T, z) : L19.Tok).2.1 = .string S := hS
    have t1 : ((k : Int) == (n : Int)) = false := beq_eq_false_iff_ne.2 (by omega)
    have t3 : (k : Int) < (n : Int) := by omega
    have t4 : (0 : Int) ≤ (k : Int) := by omega
    have t5 : ¬ cap = 0 := by omega
    have t7 : (k : Int) ≤ 60000 := by omega
    replace hST := Lib.hid hST
    clear hS
    obtain ⟨w1, hw1⟩ : ∃ W, w.alloc (.cells #[.int .i64 0, .string ⟨#[]⟩, .int .i64 0] 39) = W := ⟨_, rfl⟩
    have hb1 : Below w.heap.size w w1 := by rw [← hw1]; exact boxed w _
    have hk1 : Blk 39 w1 g [.int .i64 0, .string ⟨#[]⟩, .int .i64 0] := by rw [← hw1, ← hg]; exact Blk.new w _ _
    have c0 : w1.cell? ⟨B, 0, none⟩ = _ := (hb1.cell (p := ⟨B, 0, none⟩) h1.lt).trans c0
    have c1 : w1.cell? ⟨B, 1, none⟩ = _ := (hb1.cell (p := ⟨B, 1, none⟩) h1.lt).trans c1
    have e4 : w1.cell? ⟨b, j + k * 3, none⟩ = _ := (hb1.cell (p := ⟨b, j + k * 3, none⟩) e3).trans e4
    have e5 : w1.cell? ⟨b, j + k * 3 + 1, none⟩ = _ := (hb1.cell (p := ⟨b, j + k * 3 + 1, none⟩) e3).trans e5
    have e6 : w1.cell? ⟨b, j + k * 3 + 2, none⟩ = _ := (hb1.cell (p := ⟨b, j + k * 3 + 2, none⟩) e3).trans e6
    have g0 := hk1.cell 0
    have g1 := hk1.cell 1
    have g2 := hk1.cell 2
    simp only [List.getElem?_cons_zero, List.getElem?_cons_succ] at g0 g1 g2
    have f0 := hk1.frz 0
    have f1 := hk1.frz 1
    have f2 := hk1.frz 2
    replace hk1 := Lib.hid hk1
    replace hb1 := Lib.hid hb1
    clear h1 h2 h3 htk hkn e1 h hne hnl hk
    go_enter Tryz.func62, Tryz.ntmps62
    go_wp2
    go_quiet (fail)
    go_wp2
    obtain ⟨w2, hw2⟩ : ∃ W, w1.drewN nq = W := ⟨_, rfl⟩
    rw [hw2]
    have c0 : w2.cell? ⟨B, 0, none⟩ = some (.slice (some ⟨b, j, none⟩) n cap) := by rw [← hw2]; exact c0
    have c1 : w2.cell? ⟨B, 1, none⟩ = some (.int .i64 (k : Int)) := by rw [← hw2]; exact c1
    have e4 : w2.cell? ⟨b, j + k * 3, none⟩ = some (.int .i64 (K : Int)) := by rw [← hw2]; exact e4
    have e5 : w2.cell? ⟨b, j + k * 3 + 1, none⟩ = some (.string S) := by rw [← hw2]; exact e5
    have e6 : w2.cell? ⟨b, j + k * 3 + 2, none⟩ = some (.int .i64 (z : Int)) := by rw [← hw2]; exact e6
    obtain ⟨w3, hw3⟩ : ∃ W, w2.drew = W := ⟨_, rfl⟩
    have hk3 : Blk 39 w3 g [.int .i64 0, .string ⟨#[]⟩, .int .i64 0] := by rw [← hw3, ← hw2]; exact hk1.out
    have hb3 : Below w.heap.size w w3 := by rw [← hw3, ← hw2]; exact below_drewB (chainN hb1.out nq)
    have g0 := hk3.cell 0
    have g1 := hk3.cell 1
    have g2 := hk3.cell 2
    simp only [List.getElem?_cons_zero, List.getElem?_cons_succ] at g0 g1 g2
    have f0 := hk3.frz 0
    have f1 := hk3.frz 1
    have f2 := hk3.frz 2
    have fin : Blk 39 (((w3.setCell ⟨g, 0, none⟩ (.int .i64 (K : Int))).setCell ⟨g, 1, none⟩ (.string S)).setCell ⟨g, 2, none⟩ (.int .i64 (z : Int))) g [.int .i64 (K : Int), .string S, .int .i64 (z : Int)] := ((hk3.set 0 _).set 1 _).set 2 _
    have fb : Below w.heap.size w (((w3.setCell ⟨g, 0, none⟩ (.int .i64 (K : Int))).setCell ⟨g, 1, none⟩ (.string S)).setCell ⟨g, 2, none⟩ (.int .i64 (z : Int))) := ((hb3.setCell (p := ⟨g, 0, none⟩) (Nat.le_of_eq hg) _).setCell (p := ⟨g, 1, none⟩) (Nat.le_of_eq hg) _).setCell (p := ⟨g, 2, none⟩) (Nat.le_of_eq hg) _
    replace fin := Lib.hid fin
    replace fb := Lib.hid fb
    replace hw3 := Lib.hid hw3
    clear hw1 hk1 hk3 hb1 hb3
    have t6 : IntKind.i64.wrap (k : Int) = (k : Int) := by rw [IntKind.wrap_i64]; omega
    refine wp_region_still_tail 10 (by kernel_rfl) (by kernel_rfl) ?_
    simp only [List.take_succ_cons, List.take_zero, List.drop_succ_cons, List.drop_zero]
    repeat still_step
    refine wpStill_nil ?_
    change wpList _ _ _ _ _ w2.drew
    rw [hw3.out]
    clear hw2 hw3 c0 c1 e4 e5 e6
    go_wp2
    exact ret_cell rfl Tryz.underlying39 (by kernel_rfl) (by simp) fin.out ⟨_, _, _, rfl, rfl, rfl, hST.out, fb.out⟩
theorem fld0 (x y z : Value) (W : World) : (Instr.field 39 (.agg #[x, y, z]) 0).run Tryz.prog W = .ok x W := by kernel_rfl
theorem fld1 (x y z : Value) (W : World) : (Instr.field 39 (.agg #[x, y, z]) 1).run Tryz.prog W = .ok y W := by kernel_rfl
theorem fld2 (x y z : Value) (W : World) : (Instr.field 39 (.agg #[x, y, z]) 2).run Tryz.prog W = .ok z W := by kernel_rfl
theorem str_beq {a b : Str} {A B : ByteArray} (hA : strV a = .string A) (hB : strV b = .string B) : (A.toList == B.toList) = (a == b) := by
  unfold strV at hA hB
  injection hA with hA
  injection hB with hB
  subst hA hB
  simp [ByteArray.toList_eq]
set_option maxHeartbeats 2000000 in
theorem isNext_any (h : RdS base B l k o w) {s : Str} {S : ByteArray} (hs : Ks s) (hS : strV s = .string S) : Calls Tryz.prog 99 #[.pointer (some ⟨B, 0, none⟩), .string S] w fun e w' => e = .returned (.bool (sg s (at_ l k))) ∧ Below w.heap.size w w' := by
  have c := Lib.hid (peek_any h)
  have hx := fun {X : ByteArray} (e : strV (tokAt l k).2.1 = .string X) => str_beq e hS
  rw [← tokAt_tx, ← sg_text (h.ok.goodAt k) hs] at hx
  obtain ⟨bb, hbb⟩ : ∃ bb, sg s (at_ l k) = bb := ⟨_, rfl⟩
  rw [hbb] at hx ⊢
  clear hs hS h hbb
  have hf1 := fld1
  go_enter Tryz.func99, Tryz.ntmps99
  go_wp2_with fail
  refine (c.out).mono ?_
  rintro e w1 ⟨K, Z, X, rfl, _, _, hX, hb⟩
  have t1 := hx (by rw [tokAt_tx]; exact hX)
  clear hx hX
  go_wp2
  first | go_ret | skip
  exact ⟨rfl, hb⟩
set_option maxHeartbeats 2000000 in
theorem fail_any (h : RdS base B l k o w) (c : Nat) {ci : Int} (hc : (c : Int) = ci) : Calls Tryz.prog 66 #[.pointer (some ⟨B, 0, none⟩), .int .i64 ci] w fun e w' => e = .panicked [fl (lnAt l (at_ l k)) c] ∧ Below w.heap.size w w' := by
  have cp := Lib.hid (peek_any h)
  unfold fl
  rw [← tokAt_line h.kn, hc]
  have hf2 := fld2
  clear h hc
  go_enter Tryz.func66, Tryz.ntmps66
  go_wp2_with fail
  refine (cp.out).mono ?_
  rintro e w1 ⟨K, Z, X, rfl, _, hZ, _, hb⟩
  subst hZ
  go_wp2
  exact ⟨rfl, rfl, hb⟩
/-- The cells of the reader. -/
theorem RdS.cells (h : RdS base B l k o w) : w.cell? ⟨B, 1, none⟩ = some (.int .i64 (k : Int)) ∧ w.cell? ⟨B, 2, none⟩ = some (.int .i64 (o : Int)) ∧ w.frozen? ⟨B, 1, none⟩ = false ∧ w.frozen? ⟨B, 2, none⟩ = false := by
  obtain ⟨A, n, cap, h1, _, _⟩ := h.box
  exact ⟨h1.cell 1, h1.cell 2, h1.frz 1, h1.frz 2⟩
def UnitR : Unit → Value → World → Prop := fun _ v _ => v = .tuple #[]
def StrR : Str → Value → World → Prop := fun s v _ => v = strV s
set_option maxHeartbeats 2000000 in
theorem expect_any (h : RdS base B l k o w) {s : Str} {S : ByteArray} (hs : Ks s) (hS : strV s = .string S) : Calls Tryz.prog 93 #[.pointer (some ⟨B, 0, none⟩), .string S] w (Ae base B l o w UnitR (want s (at_ l k))) := by
  have c1 := Lib.hid (isNext_any h hs hS)
  have cF := Lib.hid (fun W (hW : Below w.heap.size w W) => fail_any (h.below hW) 3 (ci := 3) rfl)
  unfold want
  rcases hb : sg s (at_ l k) with _ | _
  · rw [hb] at c1
    have hr : (if false = true then Rs.ok () (at_ l k).tail else Rs.bad 3 (at_ l k)) = Rs.bad 3 (at_ l k) := if_neg (by simp)
    rw [hr]
    clear hs hS h hb hr
    go_enter Tryz.func93, Tryz.ntmps93
    go_wp2_with fail
    refine (c1.out).mono ?_
    rintro e w1 ⟨rfl, hb1⟩
    have cf := Lib.hid (cF.out w1 hb1)
    replace hb1 := Lib.hid hb1
    go_wp2_with fail
    refine (cf.out).mono ?_
    rintro e w2 ⟨rfl, hb2⟩
    exact ⟨rfl, Ae.bad rfl (Gr.of_below (chain hb1.out hb2))⟩
  · rw [hb] at c1
    have hk := at_ne (sg_nnil hb)
    have hlen := h.ok.len
    obtain ⟨J, hJ⟩ : ∃ J, k + 1 = J := ⟨_, rfl⟩
    have eJ : (k : Int) + 1 = (J : Int) := by omega
    have J1 : (J : Int) ≤ 60000 := by omega
    have hr : (if true = true then Rs.ok () (at_ l k).tail else Rs.bad 3 (at_ l k)) = Rs.ok () (at_ l J) := by rw [if_pos rfl, at_tail, hJ]
    rw [hr]
    have fin : ∀ W, Below w.heap.size w W → Ae base B l o w UnitR (Rs.ok () (at_ l J)) (.returned (.tuple #[])) (W.setCell ⟨B, 1, none⟩ (.int .i64 (J : Int))) := fun W hW => Ae.ok rfl rfl ((h.below hW).setAt (by omega)) ((Gr.of_below hW).setB _)
    have hcl := fun W (hW : Below w.heap.size w W) => (h.below hW).cells
    replace fin := Lib.hid fin
    replace hcl := Lib.hid hcl
    clear hs hS h hb hr cF hJ hk hlen
    go_enter Tryz.func93, Tryz.ntmps93
    go_wp2_with fail
    refine (c1.out).mono ?_
    rintro e w1 ⟨rfl, hb1⟩
    obtain ⟨d1, _, d2, _⟩ := hcl.out w1 hb1
    have fin := Lib.hid (fin.out w1 hb1)
    clear hb1 hcl
    go_wp2
    first | go_end0 | skip
    exact fin.out
/-- A token of a kind. -/
def tkind (j : Nat) (ts : List Tk) : Rs Str := if kd j ts then .ok (tx ts) ts.tail else .bad 3 ts
set_option maxHeartbeats 2000000 in
theorem expectKind_any (h : RdS base B l k o w) {j : Nat} (hj : j ≠ 0) {ji : Int} (hji : (j : Int) = ji) : Calls Tryz.prog 127 #[.pointer (some ⟨B, 0, none⟩), .int .i64 ji] w (Ae base B l o w StrR (tkind j (at_ l k))) := by
  have cp := Lib.hid (peek_any h)
  have cF := Lib.hid (fun W (hW : Below w.heap.size w W) => fail_any (h.below hW) 3 (ci := 3) rfl)
  unfold tkind
  have hkd := tokAt_kd l k hj
  have htx := tokAt_tx l k
  rcases hb : kd j (at_ l k) with _ | _
  · rw [hb] at hkd
    have hr : (if false = true then Rs.ok (tx (at_ l k)) (at_ l k).tail else Rs.bad 3 (at_ l k)) = Rs.bad 3 (at_ l k) := if_neg (by simp)
    rw [hr]
    have t1 : ∀ K : Int, K = ((tokAt l k).1 : Int) → (K != ji) = true := fun K e => by
      rw [bne_iff_ne]; have := beq_eq_false_iff_ne.1 hkd.symm; omega
    clear h hb hr hkd htx
    go_enter Tryz.func127, Tryz.ntmps127
    go_wp2_with fail
    refine (cp.out).mono ?_
    rintro e w1 ⟨K, Z, X, rfl, hK, hZ, hX, hb1⟩
    clear hZ hX
    have t1 := t1 K hK
    obtain ⟨g, hg⟩ : ∃ g, w1.heap.size = g := ⟨_, rfl⟩
    obtain ⟨w2, hw2⟩ : ∃ W, w1.alloc (.cells #[.int .i64 K, .string X, .int .i64 Z] 39) = W := ⟨_, rfl⟩
    have hk2 : Blk 39 w2 g [.int .i64 K, .string X, .int .i64 Z] := by rw [← hw2, ← hg]; exact Blk.new w1 _ _
    have hb2 : Below w.heap.size w w2 := by rw [← hw2]; exact chain hb1 (boxed w1 _)
    have g0 := hk2.cell 0
    simp only [List.getElem?_cons_zero, List.getElem?_cons_succ] at g0
    have cf := Lib.hid (cF.out w2 hb2)
    replace hb2 := Lib.hid hb2
    clear hk2 hb1 hK
    go_wp2_with fail
    refine (cf.out).mono ?_
    rintro e w3 ⟨rfl, hb3⟩
    exact ⟨rfl, Ae.bad rfl (Gr.of_below (chain hb2.out hb3))⟩
  · rw [hb] at hkd
    have hk := at_ne (kd_nnil hb)
    have hlen := h.ok.len
    obtain ⟨J, hJ⟩ : ∃ J, k + 1 = J := ⟨_, rfl⟩
    have eJ : (k : Int) + 1 = (J : Int) := by omega
    have J1 : (J : Int) ≤ 60000 := by omega
    have hr : (if true = true then Rs.ok (tx (at_ l k)) (at_ l k).tail else Rs.bad 3 (at_ l k)) = Rs.ok (tx (at_ l k)) (at_ l J) := by rw [if_pos rfl, at_tail, hJ]
    rw [hr, htx]
    have t1 : ∀ K : Int, K = ((tokAt l k).1 : Int) → (K != ji) = false := fun K e => by
      rw [bne_eq_false_iff_eq]; have := beq_iff_eq.1 hkd.symm; omega
    have fin : ∀ W X, Below w.heap.size w W → strV (tokAt l k).2.1 = .string X → Ae base B l o w StrR (Rs.ok (tokAt l k).2.1 (at_ l J)) (.returned (.string X)) (W.setCell ⟨B, 1, none⟩ (.int .i64 (J : Int))) := fun W X hW hX => Ae.ok rfl hX.symm ((h.below hW).setAt (by omega)) ((Gr.of_below hW).setB _)
    have hcl := fun W (hW : Below w.heap.size w W) => (h.below hW).cells
    have hlt := h.lt
    replace fin := Lib.hid fin
    replace hcl := Lib.hid hcl
    clear h hb hr cF hJ hk hlen hkd htx
    go_enter Tryz.func127, Tryz.ntmps127
    go_wp2_with fail
    refine (cp.out).mono ?_
    rintro e w1 ⟨K, Z, X, rfl, hK, hZ, hX, hb1⟩
    clear hZ
    have t1 := t1 K hK
    obtain ⟨g, hg⟩ : ∃ g, w1.heap.size = g := ⟨_, rfl⟩
    obtain ⟨w2, hw2⟩ : ∃ W, w1.alloc (.cells #[.int .i64 K, .string X, .int .i64 Z] 39) = W := ⟨_, rfl⟩
    have hk2 : Blk 39 w2 g [.int .i64 K, .string X, .int .i64 Z] := by rw [← hw2, ← hg]; exact Blk.new w1 _ _
    have hb2 : Below w.heap.size w w2 := by rw [← hw2]; exact chain hb1 (boxed w1 _)
    have hgB : g ≠ B := by have := hb1.size; omega
    have g0 := hk2.cell 0
    have g1 := (Blk.other hk2 hgB (.int .i64 (J : Int)) (i := 1)).cell 1
    simp only [List.getElem?_cons_zero, List.getElem?_cons_succ] at g0 g1
    obtain ⟨d1, _, d2, _⟩ := hcl.out w2 hb2
    have fin := Lib.hid (fin.out w2 X hb2 hX)
    obtain ⟨w3, hw3⟩ : ∃ W, w2.setCell ⟨B, 1, none⟩ (.int .i64 (J : Int)) = W := ⟨_, rfl⟩
    rw [hw3] at fin g1
    clear hk2 hb1 hb2 hK hcl hX
    go_wp2
    first | go_ret | skip
    exact fin.out
end
end Go.Proofs.YtpbcncfbfbghcaaGreatDoor.L20
namespace Go.Proofs.YtpbcncfbfbghcaaGreatDoor.L20
set_option maxRecDepth 100000
open Go.RowKit Mem L19
set_option linter.unusedVariables false
set_option linter.unusedSimpArgs false

theorem parseU : ∀ (l : List UInt8) (a : Nat), (∀ c ∈ l, isDg c = true) → l.foldl (fun a c => 10 * a + (c.toNat - 48)) a ≤ 4294967295 → Lib.parseUintM (2 ^ 32 - 1) a l = .ok (l.foldl (fun a c => 10 * a + (c.toNat - 48)) a)
  | [], a, _, _ => rfl
  | c :: r, a, h, hl => by
    have hc := h c List.mem_cons_self
    have hd : 48 ≤ c.toNat ∧ c.toNat ≤ 57 := by
      unfold isDg at hc
      simpa using hc
    rw [List.foldl_cons] at hl ⊢
    have h1 := nval_from r (10 * a + (c.toNat - 48))
    have h2 : 10 * a + (c.toNat - 48) ≤ (10 * a + (c.toNat - 48)) * 10 ^ r.length := Nat.le_mul_of_pos_right _ (Nat.pow_pos (by decide))
    have h3 : a * 10 + (c.toNat - 48) = 10 * a + (c.toNat - 48) := by omega
    rw [Lib.parseUintM, if_pos hd, if_neg (by omega), if_neg (by rw [h3]; omega), h3]
    exact parseU r _ (fun x hx => h x (List.mem_cons_of_mem _ hx)) hl
theorem parseU_num {T : Str} (h : Tk1 1 T) : Lib.parseUintB 32 T = .ok (nval T) := by
  obtain ⟨k, hk⟩ : ∃ k, k = 1 := ⟨_, rfl⟩
  rw [← hk] at h
  cases h with
  | num v h1 h2 h3 h4 => unfold Lib.parseUintB; rw [if_neg h2]; exact parseU T 0 h1 h4
  | wrd c r h1 h2 h3 =>
    exfalso
    unfold wkind at hk
    split at hk <;> omega
  | one c h => cases hk
  | two c d h => cases hk
theorem num_size {T : Str} (h : Tk1 1 T) : T.length ≤ 10 := by
  have := (tk_num h)
  obtain ⟨k, hk⟩ : ∃ k, k = 1 := ⟨_, rfl⟩
  rw [← hk] at h
  cases h with
  | num v h1 h2 h3 h4 =>
    rcases Nat.lt_or_ge 10 T.length with hl | hl
    · exfalso
      cases T with
      | nil => simp at hl
      | cons c r =>
        have hc : c ≠ 48 := fun e => by
          have := h3 (by rw [e]; rfl)
          injection this with _ this
          subst this
          simp at hl
        have hd := h1 c List.mem_cons_self
        unfold isDg at hd
        have hd' : 48 ≤ c.toNat ∧ c.toNat ≤ 57 := by simpa using hd
        have : c.toNat ≠ 48 := fun e => hc (by rw [← UInt8.toNat_inj]; exact e)
        have h5 := nval_cons c r
        simp only [List.length_cons] at hl
        have h6 : 10 ^ 10 ≤ 10 ^ r.length := Nat.pow_le_pow_right (by decide) (by omega)
        have h7 : 1 * 10 ^ r.length ≤ (c.toNat - 48) * 10 ^ r.length := Nat.mul_le_mul_right _ (by omega)
        omega
    · exact hl
  | wrd c r h1 h2 h3 =>
    exfalso
    unfold wkind at hk
    split at hk <;> omega
  | one c h => cases hk
  | two c d h => cases hk
section
variable {base B k o : Nat} {l : List L19.Tok} {w : World}
set_option maxHeartbeats 2000000 in
theorem begin_any (h : RdS base B l k o w) {s : Str} {S : ByteArray} (hs : Ks s) (hS : strV s = .string S) : Calls Tryz.prog 96 #[.pointer (some ⟨B, 0, none⟩), .string S] w (Ae base B l (o + 1) w UnitR (enter s o (at_ l k))) := by
  have c1 := Lib.hid (isNext_any h hs hS)
  have cF := Lib.hid (fun W (hW : Below w.heap.size w W) => fail_any (h.below hW) 6 (ci := 6) rfl)
  have cE := Lib.hid (fun W (hW : Below w.heap.size w W) => expect_any (h.below hW) hs hS)
  have hcl := Lib.hid (fun W (hW : Below w.heap.size w W) => (h.below hW).cells)
  have ho := h.o1
  unfold enter
  unfold want at cE
  rcases hb : sg s (at_ l k) with _ | _
  · rw [hb] at c1 cE
    rw [if_neg Bool.false_ne_true] at cE ⊢
    clear hs hS h hb
    go_enter Tryz.func96, Tryz.ntmps96
    go_wp2_with fail
    refine (c1.out).mono ?_
    rintro e w1 ⟨rfl, hb1⟩
    have ce := Lib.hid (cE.out w1 hb1)
    replace hb1 := Lib.hid hb1
    go_wp2_with fail
    refine (ce.out).mono ?_
    rintro e w2 (⟨a, j, v, hr, _⟩ | ⟨c, ts, hr, rfl, hg⟩)
    · cases hr
    · injection hr with h1 h2
      subst h1 h2
      exact ⟨rfl, Ae.bad rfl ((Gr.of_below hb1.out).trans hg)⟩
  · rw [hb] at c1 cE
    rw [if_pos rfl] at cE ⊢
    by_cases h100 : o = 100
    · subst h100
      rw [if_pos rfl]
      have t1 : (((100 : Nat) : Int) == 100) = true := rfl
      clear hs hS h hb cE
      go_enter Tryz.func96, Tryz.ntmps96
      go_wp2_with fail
      refine (c1.out).mono ?_
      rintro e w1 ⟨rfl, hb1⟩
      have cf := Lib.hid (cF.out w1 hb1)
      obtain ⟨_, d1, _, _⟩ := hcl.out w1 hb1
      rw [show ((100 : Nat) : Int) = 100 from rfl] at d1
      replace hb1 := Lib.hid hb1
      go_wp2_with fail
      refine (cf.out).mono ?_
      rintro e w2 ⟨rfl, hb2⟩
      exact ⟨rfl, Ae.bad rfl (Gr.of_below (chain hb1.out hb2))⟩
    · rw [if_neg h100]
      have t1 : ((o : Int) == 100) = false := beq_eq_false_iff_ne.2 (by omega)
      obtain ⟨J, hJ⟩ : ∃ J, o + 1 = J := ⟨_, rfl⟩
      have eJ : (o : Int) + 1 = (J : Int) := by omega
      have J1 : (J : Int) ≤ 100 := by omega
      have hlt := h.lt
      rw [hJ]
      clear hs hS h hb cF
      go_enter Tryz.func96, Tryz.ntmps96
      go_wp2_with fail
      refine (c1.out).mono ?_
      rintro e w1 ⟨rfl, hb1⟩
      have ce := Lib.hid (cE.out w1 hb1)
      obtain ⟨_, d1, _, _⟩ := hcl.out w1 hb1
      replace hb1 := Lib.hid hb1
      go_wp2_with fail
      refine (ce.out).mono ?_
      rintro e w2 (⟨a, j, v, hr, rfl, hv, hst, hg⟩ | ⟨c, ts, hr, _⟩)
      · unfold UnitR at hv
        subst hv
        obtain ⟨_, d2, _, f2⟩ := hst.cells
        have fin := Ae.ok (R := UnitR) (w0 := w) (r := Rs.ok () (at_ l k).tail) (a := ()) (v := .tuple #[]) hr rfl (hst.setOpen (p := J) (by omega)) (Gr.setB ((Gr.of_below hb1.out).trans hg) _)
        replace fin := Lib.hid fin
        clear hst hg hcl cE c1 ce d1 hr hJ
        go_wp2
        first | go_end0 | skip
        exact fin.out
      · cases hr
set_option maxHeartbeats 2000000 in
theorem end_any (h : RdS base B l k (o + 1) w) {s : Str} {S : ByteArray} (hs : Ks s) (hS : strV s = .string S) : Calls Tryz.prog 98 #[.pointer (some ⟨B, 0, none⟩), .string S] w (Ae base B l o w UnitR (want s (at_ l k))) := by
  have cE := Lib.hid (expect_any h hs hS)
  have ho := h.o1
  have eJ : ((o + 1 : Nat) : Int) - 1 = (o : Int) := by omega
  obtain ⟨q, hq⟩ : ∃ q : Int, ((o + 1 : Nat) : Int) = q := ⟨_, rfl⟩
  have q1 : q ≤ 101 := by omega
  have q0 : 0 ≤ q := by omega
  rw [hq] at eJ
  clear hs hS h
  go_enter Tryz.func98, Tryz.ntmps98
  go_wp2_with fail
  refine (cE.out).mono ?_
  rintro e w2 (⟨a, j, v, hr, rfl, hv, hst, hg⟩ | ⟨c, ts, hr, rfl, hg⟩)
  · unfold UnitR at hv
    subst hv
    obtain ⟨_, d2, _, f2⟩ := hst.cells
    rw [hq] at d2
    have fin := Ae.ok (R := UnitR) (w0 := w) (v := .tuple #[]) hr rfl (hst.setOpen (p := o) (by omega)) (hg.setB _)
    replace fin := Lib.hid fin
    clear hst hg cE hr hq
    go_wp2
    first | go_end0 | skip
    exact fin.out
  · exact ⟨rfl, Ae.bad hr hg⟩
set_option maxHeartbeats 2000000 in
theorem name_any (h : RdS base B l k o w) : Calls Tryz.prog 95 #[.pointer (some ⟨B, 0, none⟩)] w (Ae base B l o w StrR (name (at_ l k))) := by
  have c := Lib.hid (expectKind_any h (j := 2) (by decide) (ji := 2) rfl)
  have e : name (at_ l k) = tkind 2 (at_ l k) := rfl
  rw [e]
  clear h e
  go_enter Tryz.func95, Tryz.ntmps95
  go_wp2_with fail
  refine (c.out).mono ?_
  rintro e w2 (⟨a, j, v, hr, rfl, hv, hst, hg⟩ | ⟨c, ts, hr, rfl, hg⟩)
  · have fin := Lib.hid (Ae.ok (R := StrR) (w0 := w) hr hv hst hg)
    clear hr hv hst hg
    go_wp2
    first | go_ret | skip
    exact fin.out
  · exact ⟨rfl, Ae.bad hr hg⟩
def NumR : Nat → Value → World → Prop := fun n v _ => v = .int .u32 (n : Int)
set_option maxHeartbeats 2000000 in
theorem number_any (h : RdS base B l k o w) : Calls Tryz.prog 97 #[.pointer (some ⟨B, 0, none⟩)] w (Ae base B l o w NumR (number (at_ l k))) := by
  have c := Lib.hid (expectKind_any h (j := 1) (by decide) (ji := 1) rfl)
  have hgood := h.ok.goodAt k
  have hr0 : ∀ (T : Str) (ts : List Tk), tkind 1 (at_ l k) = .ok T ts → number (at_ l k) = .ok (nval T) ts ∧ Tk1 1 T := fun T ts e => by
    unfold tkind at e
    unfold number
    split at e
    · rename_i hk
      injection e with e1 e2
      subst e1 e2
      rw [if_pos hk]
      exact ⟨rfl, kd_tk hk hgood⟩
    · cases e
  have hr1 : ∀ c ts, tkind 1 (at_ l k) = .bad c ts → number (at_ l k) = .bad c ts := fun c ts e => by
    unfold tkind at e
    unfold number
    split at e
    · cases e
    · rename_i hk
      rw [if_neg hk]
      injection e with e1 e2
      rw [e1, e2]
  obtain ⟨R, hR⟩ : ∃ R, number (at_ l k) = R := ⟨_, rfl⟩
  rw [hR] at hr0 hr1 ⊢
  clear h hR hgood
  go_enter Tryz.func97, Tryz.ntmps97
  go_wp2_with fail
  refine (c.out).mono ?_
  rintro e w2 (⟨a, j, v, hr, rfl, hv, hst, hg⟩ | ⟨c, ts, hr, rfl, hg⟩)
  · obtain ⟨hn, ht⟩ := hr0 _ _ hr
    have hp := parseU_num ht
    have hz := num_size ht
    have hmax := tk_num ht
    unfold StrR strV at hv
    subst hv
    have cP := Tryz.strconv_ParseUint_10_at32_ok ⟨a.toArray⟩ (by show a.toArray.size ≤ _; simp; omega) (nval a) (by simpa using hp) w2
    obtain ⟨X, hX⟩ : ∃ X, (⟨a.toArray⟩ : ByteArray) = X := ⟨_, rfl⟩
    obtain ⟨M, hM⟩ : ∃ M, nval a = M := ⟨_, rfl⟩
    rw [hX] at cP
    rw [hX]
    rw [hM] at cP hn hmax
    have t1 : (0 : Int) ≤ (M : Int) := by omega
    have t2 : (M : Int) ≤ 4294967295 := by omega
    have fin := fun W (hW : Below w2.heap.size w2 W) => Ae.ok (R := NumR) (w0 := w) (r := R) hn rfl (hst.below hW) (hg.below hW)
    replace fin := Lib.hid fin
    replace cP := Lib.hid cP
    clear hr0 hr1 hn hM hX hmax hp hz ht hr hst hg
    go_wp2_with fail
    refine (cP.out).mono ?_
    rintro e w3 ⟨rfl, hw3⟩
    have hb3 : Below w2.heap.size w2 w3 := by
      rcases hw3 with rfl | rfl
      · exact Below.refl _ _
      · exact Lib.bytesWorld_below _ _ _
    have fin := Lib.hid (fin.out w3 hb3)
    clear hb3 hw3
    go_wp2
    first | go_ret | skip
    exact fin.out
  · exact ⟨rfl, Ae.bad (hr1 _ _ hr) hg⟩
end
end Go.Proofs.YtpbcncfbfbghcaaGreatDoor.L20
namespace Go.Proofs.YtpbcncfbfbghcaaGreatDoor.L20
set_option maxRecDepth 100000
open Go.RowKit Mem L19
set_option linter.unusedVariables false
set_option linter.unusedSimpArgs false

/-- What the cells of an element of a row say. -/
structure El (α : Type) (s : Nat) where
  P : World → (Nat → Prop) → α → List Value → Prop
  keep : ∀ {w w1 F x c}, P w F x c → Kept F w w1 → P w1 F x c
  mono : ∀ {w} {F G : Nat → Prop} {x c}, P w F x c → (∀ b, b < w.heap.size → F b → G b) → P w G x c
  len : ∀ {w F x c}, P w F x c → c.length = s
def exE : El Exp 4 := ⟨ExC, ExC.keep, ExC.mono, ExC.len⟩
def stE : El Sta 6 := ⟨StC, StC.keep, StC.mono, StC.len⟩
def fnE : El Fn 4 := ⟨FnC, FnC.keep, FnC.mono, fun h => by obtain ⟨P, L, B, cp, cl, cb, rfl, _⟩ := h; rfl⟩
def arE : El (Str × Nat) 2 := ⟨fun _ _ a c => c = [strV a.1, .int .i64 (a.2 : Int)], fun h _ => h, fun h _ => h, fun h => by rw [h]; rfl⟩
def snE : El Str 1 := ⟨fun _ _ s c => c = [strV s], fun h _ => h, fun h _ => h, fun h => by rw [h]; rfl⟩
/-- A row that was read or made: its elements. -/
def RowE {α : Type} {s : Nat} (E : El α s) (w : World) (F : Nat → Prop) (l : List α) (A : Option Addr) (cap : Nat) : Prop := ∃ css, RowA w F s l.length A cap css ∧ ∀ (i : Nat) (y : α) (c : List Value), l[i]? = some y → css[i]? = some c → E.P w F y c
theorem RowE.keep {α : Type} {s : Nat} {E : El α s} {w w1 : World} {F : Nat → Prop} {l : List α} {A : Option Addr} {cap : Nat} (h : RowE E w F l A cap) (k : Kept F w w1) : RowE E w1 F l A cap := by
  obtain ⟨css, h1, h2⟩ := h
  exact ⟨css, h1.keep k, fun i y c hy hc => E.keep (h2 i y c hy hc) k⟩
theorem RowE.mono {α : Type} {s : Nat} {E : El α s} {w : World} {F G : Nat → Prop} {l : List α} {A : Option Addr} {cap : Nat} (h : RowE E w F l A cap) (k : ∀ b, b < w.heap.size → F b → G b) : RowE E w G l A cap := by
  obtain ⟨css, h1, h2⟩ := h
  exact ⟨css, h1.mono k, fun i y c hy hc => E.mono (h2 i y c hy hc) k⟩
theorem RowE.exs {w : World} {F : Nat → Prop} {l : List Exp} {A : Option Addr} {cap : Nat} (h : RowE exE w F l A cap) : Exs w F l A cap := ⟨h⟩
theorem RowE.sts {w : World} {F : Nat → Prop} {l : List Sta} {A : Option Addr} {cap : Nat} (h : RowE stE w F l A cap) : Sts w F l A cap := ⟨h⟩
theorem RowE.fns {w : World} {F : Nat → Prop} {l : List Fn} {A : Option Addr} {cap : Nat} (h : RowE fnE w F l A cap) : FnsF w F l A cap := h
theorem RowE.strs {w : World} {F : Nat → Prop} {l : List Str} {A : Option Addr} {cap : Nat} (h : RowE snE w F l A cap) : StrsF w F l A cap := by
  obtain ⟨css, h1, h2⟩ := h
  have : css = l.map fun s => [strV s] := by
    refine List.ext_getElem (by rw [List.length_map]; exact h1.len) fun i hi hi' => ?_
    rw [List.getElem_map]
    exact h2 i _ _ (List.getElem?_eq_getElem _) (List.getElem?_eq_getElem _)
  subst this
  exact h1
theorem RowE.arrs {w : World} {F : Nat → Prop} {l : List (Str × Nat)} {A : Option Addr} {cap : Nat} (h : RowE arE w F l A cap) : ArrsF w F l A cap := by
  obtain ⟨css, h1, h2⟩ := h
  have : css = l.map fun a => [strV a.1, .int .i64 (a.2 : Int)] := by
    refine List.ext_getElem (by rw [List.length_map]; exact h1.len) fun i hi hi' => ?_
    rw [List.getElem_map]
    exact h2 i _ _ (List.getElem?_eq_getElem _) (List.getElem?_eq_getElem _)
  subst this
  exact h1
/-- The elements l lie in the row v of the call's own. -/
def Gro {α : Type} {s : Nat} (E : El α s) (T b0 : Nat) (w : World) (v : Value) (l : List α) : Prop := ∃ css : List (List Value), w.ownsRow b0 T s v l.length css.flatten ∧ css.length = l.length ∧ ∀ (i : Nat) (y : α) (c : List Value), l[i]? = some y → css[i]? = some c → E.P w (Off b0 v) y c
section
variable {α : Type} {s : Nat} {E : El α s} {T b0 : Nat} {w w1 : World} {v : Value} {l : List α}
theorem Gro.nil (E : El α s) (T b0 : Nat) (w : World) : Gro E T b0 w (.slice none 0 0) [] := ⟨[], A18.own_none w _ _ _, rfl, fun i y c h => by simp at h⟩
theorem Gro.each {css : List (List Value)} (h1 : css.length = l.length) (h2 : ∀ (i : Nat) (y : α) (c : List Value), l[i]? = some y → css[i]? = some c → E.P w (Off b0 v) y c) : ∀ c ∈ css, c.length = s := fun c hc => by
  obtain ⟨i, hi, rfl⟩ := List.mem_iff_getElem.1 hc
  exact E.len (h2 i _ _ (List.getElem?_eq_getElem (by omega)) (List.getElem?_eq_getElem hi))
/-- What leaves blocks from b0 on alone leaves the row alone. -/
theorem Gro.keep (h : Gro E T b0 w v l) (k : Kept (fun b => b0 ≤ b) w w1) : Gro E T b0 w1 v l := by
  obtain ⟨css, h1, h2, h3⟩ := h
  refine ⟨css, ⟨h1.1, ?_⟩, h2, fun i y c hy hc => E.keep (h3 i y c hy hc) ⟨k.1, fun b hb hl => k.2 b hb.1 hl⟩⟩
  rcases h1.2 with h0 | ⟨g, cap, cur, rfl, hg, hh, e1, e2, e3, e4⟩
  · exact .inl h0
  · have hlt := (h1.lt g rfl).2
    exact .inr ⟨g, cap, cur, rfl, hg, (k.2 g hg hlt).trans hh, e1, e2, e3, e4⟩
theorem Gro.below (h : Gro E T b0 w v l) (k : Below w.heap.size w w1) : Gro E T b0 w1 v l := h.keep (Kept.of_below k)
theorem Gro.gr {B : Nat} (h : Gro E T b0 w v l) (k : Gr B w w1) (hB : B < b0) : Gro E T b0 w1 v l := h.keep (k.kept fun b hb e => by omega)
theorem Gro.own (h : Gro E T b0 w v l) : ∃ css : List (List Value), w.ownsRow b0 T s v l.length css.flatten := by
  obtain ⟨css, h1, _⟩ := h
  exact ⟨css, h1⟩
theorem Gro.slice (h : Gro E T b0 w v l) : ∃ A cap, v = .slice A l.length cap ∧ l.length ≤ cap ∧ cap ≤ maxLen ∧ (A = none → cap = 0) := by
  obtain ⟨css, h1, _⟩ := h
  exact A18.own2_slice h1
theorem Gro.row (h : Gro E T b0 w v l) (hs : 0 < s) : ∃ A cap, v = .slice A l.length cap ∧ RowE E w (fun b => b0 ≤ b) l A cap := by
  obtain ⟨css, h1, h2, h3⟩ := h
  obtain ⟨A, cap, hv, hr⟩ := RowA.of_own h1 hs h2 (Gro.each h2 h3)
  exact ⟨A, cap, hv, css, hr, fun i y c hy hc => E.mono (h3 i y c hy hc) fun b _ hb => hb.1⟩
/-- The first element, in a block of its own. -/
theorem Gro.one {y : α} {c : List Value} (hc : E.P w1 (fun b => b0 ≤ b) y c) (hb : b0 ≤ w1.heap.size) : Gro E T b0 (w1.alloc (.cells c.toArray T)) (.slice (some ⟨w1.heap.size, 0, none⟩) 1 1) [y] := by
  refine ⟨[c], ?_, rfl, fun i x d hx hd => ?_⟩
  · have := World.ownsRow_lit (base := b0) (e := T) (size := s) w1 c.toArray 1 hb (by decide) (by simpa using E.len hc)
    simpa using this
  · match i, hx, hd with
    | 0, hx, hd =>
      injection hx with hx
      injection hd with hd
      subst hx hd
      exact E.keep (E.mono hc fun b hl h => ⟨h, fun e => by injection e with e; have : w1.heap.size = b := e; omega⟩) ⟨by rw [World.size_alloc]; omega, fun b hb' hl => Below.heap_alloc w1 _ b hl⟩
/-- How a row takes one more element, whose trees were made since the row. -/
structure Push {α : Type} {s : Nat} (E : El α s) (T b0 : Nat) (w : World) (v : Value) (n : Nat) (l : List α) (css : List (List Value)) : Prop where
  push : ∀ (w' : World) (v' : Value) (y : α) (c : List Value) (n1 : Nat), b0 ≤ n1 → (∀ g, v.ownBlock = some g → g < n1) → E.P w (fun b => n1 ≤ b) y c →
    w'.ownsRow b0 T s v' (n + 1) (css.flatten ++ c) → (w.alloc (.cells c.toArray T)).grownBy w' v.ownBlock → (v'.ownBlock = v.ownBlock ∨ v'.ownBlock = some (w.heap.size + 1)) → Gro E T b0 w' v' (l ++ [y])
theorem Gro.more (h : Gro E T b0 w v l) : ∃ css : List (List Value), w.ownsRow b0 T s v l.length css.flatten ∧ Push E T b0 w v l.length l css := by
  obtain ⟨css, h1, h2, h3⟩ := h
  refine ⟨css, h1, ⟨fun w' v' y c n1 hn hv hc hown hg hb => ?_⟩⟩
  have hoff : ∀ b, b < w.heap.size → Off b0 v b → Off b0 v' b := fun b hl hF => by
    refine ⟨hF.1, fun e => ?_⟩
    rcases hb with hb | hb
    · exact hF.2 (hb ▸ e)
    · rw [hb] at e
      injection e with e
      omega
  have hk : Kept (Off b0 v) w w' := by
    refine ⟨Nat.le_trans (by rw [World.size_alloc]; omega) hg.size, fun b hF hl => ?_⟩
    rw [hg.block b (by rw [World.size_alloc]; omega) (fun e => hF.2 e.symm)]
    exact Below.heap_alloc w _ b hl
  have hnew : ∀ b, b < w.heap.size → n1 ≤ b → Off b0 v b := fun b _ hn' => ⟨Nat.le_trans hn hn', fun e => by have := hv b e; omega⟩
  have hmono : ∀ {x : α} {d : List Value}, E.P w (Off b0 v) x d → E.P w' (Off b0 v') x d := fun hx => E.mono (E.keep (E.mono hx fun b hl hb => ⟨hb, hl⟩ : E.P w (fun b => Off b0 v b ∧ b < w.heap.size) _ _) ⟨hk.1, fun b hb hl => hk.2 b hb.1 hl⟩) fun b _ hb => hoff b hb.2 hb.1
  refine ⟨css ++ [c], by rw [List.flatten_append, List.length_append]; simpa using hown, by simp [h2], fun i x d hx hd => ?_⟩
  rcases Nat.lt_or_ge i l.length with hi | hi
  · rw [List.getElem?_append_left hi] at hx
    rw [List.getElem?_append_left (by omega)] at hd
    exact hmono (h3 i x d hx hd)
  · rw [List.getElem?_append_right hi] at hx
    rw [List.getElem?_append_right (by omega), show i - css.length = i - l.length by omega] at hd
    obtain ⟨m, hm⟩ : ∃ m, i - l.length = m := ⟨_, rfl⟩
    rw [hm] at hx hd
    match m, hx, hd with
    | 0, hx, hd =>
      injection hx with hx
      injection hd with hd
      subst hx hd
      exact hmono (E.mono hc hnew)
/-- Where a row's own block lies. -/
theorem Gro.lt (h : Gro E T b0 w v l) : ∀ g, v.ownBlock = some g → b0 ≤ g ∧ g < w.heap.size := by
  obtain ⟨css, h1, _⟩ := h
  exact fun g hg => h1.lt g hg
theorem Gro.grown {B : Nat} {w0 w2 : World} (h : Gro E T b0 w v l) (hw : Gr B w0 w) (h0 : w0.heap.size ≤ b0) (k : w.grownBy w2 v.ownBlock) : Gr B w0 w2 := by
  refine ⟨k.os.trans hw.os, k.tape.trans hw.tape, k.output.trans hw.output, Nat.le_trans hw.size k.size, fun j hj hn => ?_⟩
  rw [k.block j (Nat.lt_of_lt_of_le hj hw.size) (fun e => by have := (h.lt j e.symm).1; omega)]
  exact hw.block j hj hn
end
end Go.Proofs.YtpbcncfbfbghcaaGreatDoor.L20
namespace Go.Proofs.YtpbcncfbfbghcaaGreatDoor.L20
set_option maxRecDepth 100000
open Go.RowKit Mem L19
set_option linter.unusedVariables false
set_option linter.unusedSimpArgs false

/-- Where the reader stands. -/
def placeOf (w : World) (B : Nat) : Nat := (intOf ((w.cell? ⟨B, 1, none⟩).getD undef)).toNat
theorem RdS.place {base B k o : Nat} {l : List L19.Tok} {w : World} (h : RdS base B l k o w) : placeOf w B = k := by
  unfold placeOf
  rw [h.cells.1]
  simp [intOf]
def ExR (n0 : Nat) : Exp → Value → World → Prop := fun x v w' => ∃ (S T : ByteArray) (N : Int) (A : Option Addr) (L cap : Nat), v = .agg #[.string S, .int .u32 N, .string T, .slice A L cap] ∧ ExC w' (fun b => n0 ≤ b) x [.string S, .int .u32 N, .string T, .slice A L cap]
def ExsR (n0 : Nat) : List Exp → Value → World → Prop := fun x v w' => ∃ (A : Option Addr) (L cap : Nat), v = .slice A L cap ∧ x.length = L ∧ Exs w' (fun b => n0 ≤ b) x A cap
def catR {α : Type} (acc : List α) : Rs (List α) → Rs (List α)
  | .ok l ts => .ok (acc ++ l) ts
  | .bad c ts => .bad c ts
theorem catR_cons {α : Type} (acc : List α) (x : α) (r : Rs (List α)) : catR (acc ++ [x]) r = catR acc (match r with | .ok l ts => .ok (x :: l) ts | .bad c ts => .bad c ts) := by
  cases r <;> simp [catR]
def exprs (n o : Nat) (ts : List Tk) : Option (Rs (List Exp)) := bnd (expr n 1 o ts) fun x ts => bnd (more n o ts) fun l ts => some (.ok (x :: l) ts)
theorem info_expr : (Tryz.prog.info? 51).map (fun i => (i.zero, i.size, i.bytes)) = some (some (.agg #[.string ⟨#[]⟩, .int .u32 0, .string ⟨#[]⟩, .slice none 0 0]), 4, 64) := by kernel_rfl
theorem four_ex (S T : ByteArray) (N : Int) (A : Option Addr) (L cap : Nat) : ∀ u ∈ ([.string S, .int .u32 N, .string T, .slice A L cap] : List Value), u.oneCell' = true := fun u hu => by
  simp only [List.mem_cons, List.not_mem_nil, or_false] at hu
  rcases hu with rfl | rfl | rfl | rfl <;> rfl
/-- The contract of expression, up to a fuel. -/
def ExprC (base B : Nat) (l : List L19.Tok) (n : Nat) : Prop := ∀ (m : Nat), m ≤ n → ∀ (o k : Nat) (w : World) (r : Rs Exp), RdS base B l k o w → expr m 1 o (at_ l k) = some r → Calls Tryz.prog 155 #[.pointer (some ⟨B, 0, none⟩)] w (Ae base B l o w (ExR w.heap.size) r)
theorem expr_adv {l : List L19.Tok} {k j : Nat} {n o : Nat} {x : Exp} (hok : Lok l) (ho : o ≤ 100) (hk : k ≤ l.length) (hj : j ≤ l.length) (h : expr n 1 o (at_ l k) = some (.ok x (at_ l j))) : k < j := by
  obtain ⟨h1, _, h2, _⟩ := readE ho (hok.goodAt k) h
  have := tf_pos h1
  rw [at_len l hk, at_len l hj] at h2
  omega
theorem more_stop {n o : Nat} {ts : List Tk} {r : Rs (List Exp)} (hs : sg [44] ts = false) (h : more n o ts = some r) : r = .ok [] ts := by
  cases n with
  | zero => rw [more] at h; cases h
  | succ n => rw [more, hs] at h; injection h with h; exact h.symm
theorem more_step {n o : Nat} {ts : List Tk} {r : Rs (List Exp)} (hs : sg [44] ts = true) (h : more n o ts = some r) : ∃ m q, n = m + 1 ∧ expr m 1 o ts.tail = some q ∧ (match q with | .bad c us => r = .bad c us | .ok x us => ∃ r', more m o us = some r' ∧ r = catR [x] r') := by
  cases n with
  | zero => rw [more] at h; cases h
  | succ n =>
    rw [more, hs, if_pos rfl] at h
    cases e : expr n 1 o ts.tail with
    | none => rw [e] at h; cases h
    | some q =>
      rw [e] at h
      refine ⟨n, q, rfl, e, ?_⟩
      cases q with
      | bad c us => simp only [bnd] at h; injection h with h; exact h.symm
      | ok x us =>
        dsimp only
        cases e2 : more n o us with
        | none => simp only [bnd, e2] at h; cases h
        | some v =>
          refine ⟨v, rfl, ?_⟩
          cases v <;> (simp only [bnd, e2] at h; injection h with h; exact h.symm)
theorem catR_cat {α : Type} (a b : List α) (r : Rs (List α)) : catR (a ++ b) r = catR a (catR b r) := by cases r <;> simp [catR]
section
variable {base B k o : Nat} {l : List L19.Tok} {w : World}
set_option maxHeartbeats 4000000 in
theorem listE_any {n : Nat} (hE : ExprC base B l n) (h : RdS base B l k o w) {r : Rs (List Exp)} (hr : exprs n o (at_ l k) = some r) :
    Calls Tryz.prog 202 #[.pointer (some ⟨B, 0, none⟩), .func (.func 155) #[.pointer (some ⟨B, 0, none⟩)] #[]] w (Ae base B l o w (ExsR w.heap.size) r) := by
  obtain ⟨i0, hi, hi0, hi1, hi2⟩ := info_parts info_expr
  unfold exprs at hr
  obtain ⟨rE, hrE⟩ : ∃ rE, expr n 1 o (at_ l k) = some rE := by
    cases e : expr n 1 o (at_ l k) with
    | none => rw [e] at hr; cases hr
    | some v => exact ⟨v, rfl⟩
  rw [hrE] at hr
  have c1 := Lib.hid (hE n (Nat.le_refl _) o k w rE h hrE)
  have hbw := h.big
  have hBb := h.low
  have hgood := h.ok
  have hkl := h.kn
  replace hE := Lib.hid hE
  replace hr := Lib.hid hr
  replace hrE := Lib.hid hrE
  replace hgood := Lib.hid hgood
  clear h
  go_enter Tryz.func202, Tryz.ntmps202
  go_wp2_with fail
  refine (c1.out).mono ?_
  rintro e w1 (⟨x, k1, v, hx, rfl, hv, hst, hg⟩ | ⟨c, ts, hx, rfl, hg⟩)
  case inr =>
    refine ⟨rfl, Ae.bad ?_ hg⟩
    have := hr.out
    rw [hx] at this
    injection this with this
    exact this.symm
  obtain ⟨S, T, N, A, L, cap, rfl, hC⟩ := hv
  subst hx
  have hr2 : ∃ r', more n o (at_ l k1) = some r' ∧ r = catR [x] r' := by
    have := hr.out
    cases e : more n o (at_ l k1) with
    | none => simp only [bnd, e] at this; cases this
    | some v =>
      refine ⟨v, rfl, ?_⟩
      cases v <;> (simp only [bnd, e] at this; injection this with this; exact this.symm)
  have hkk := expr_adv hgood.out hst.o1 hkl hst.kn hrE.out
  have hk1l := hst.kn
  have hge := hg.size
  obtain ⟨g1, hg1⟩ : ∃ g, w1.heap.size = g := ⟨_, rfl⟩
  obtain ⟨w2, hw2⟩ : ∃ W, w1.alloc (.cells #[.string S, .int .u32 N, .string T, .slice A L cap] 51) = W := ⟨_, rfl⟩
  have hG : Gro exE 51 w.heap.size w2 (.slice (some ⟨g1, 0, none⟩) 1 1) [x] := by
    rw [← hw2, ← hg1]
    exact Gro.one (E := exE) (c := [.string S, .int .u32 N, .string T, .slice A L cap]) hC hge
  have hst2 : RdS base B l k1 o w2 := by rw [← hw2]; exact hst.alloc _
  have hg2 : Gr B w w2 := by rw [← hw2]; exact hg.below (boxed w1 _)
  have hp1 : 1 ≤ k1 := by omega
  replace hG := Lib.hid hG
  replace hst2 := Lib.hid hst2
  replace hg2 := Lib.hid hg2
  replace hr2 := Lib.hid hr2
  replace hkk := Lib.hid hkk
  clear hC hst hg c1 hr hrE
  go_wp2
  clear hw2
  go_loopw [5] (fun iv wr => ∃ (m k' : Nat) (acc : List Exp) (v : Value), v = iv ∧ m ≤ n ∧ k' ≤ l.length ∧ acc.length ≤ k' ∧ Hid (Gro exE 51 w.heap.size wr v acc) ∧ Hid (RdS base B l k' o wr) ∧ Hid (Gr B w wr) ∧ Hid (∃ r', more m o (at_ l k') = some r' ∧ r = catR acc r')) (fun _ wr => l.length - placeOf wr B)
  case atStart => exact ⟨n, k1, [x], _, rfl, Nat.le_refl _, hk1l, hp1, hG, hst2, hg2, hr2⟩
  case round =>
    clear hG hst2 hg2 hr2 hkk hp1
    obtain ⟨m, k', acc, v, rfl, hm, hk', hac, hG, hst, hg, hr⟩ := hrel
    have cN := Lib.hid (isNext_any hst.out (ks_one 44 (by decide)) (S := ⟨#[44]⟩) rfl)
    rcases hb : sg [44] (at_ l k') with _ | _
    · rw [hb] at cN
      have hr1 : r = .ok acc (at_ l k') := by
        obtain ⟨r', h1, h2⟩ := hr.out
        rw [h2, more_stop hb h1]
        simp [catR]
      have fin : ∀ W, Below wr.heap.size wr W → Ae base B l o w (ExsR w.heap.size) r (.returned v) W := fun W hW => by
        obtain ⟨A, cap, hv, hR⟩ := (hG.out.below hW).row (by decide)
        exact Ae.ok hr1 ⟨A, _, cap, hv, rfl, hR.exs⟩ (hst.out.below hW) (hg.out.below hW)
      replace fin := Lib.hid fin
      clear hG hst hg hr hb hr1 hE
      go_wp2_with fail
      refine (cN.out).mono ?_
      rintro e w3 ⟨rfl, hb3⟩
      have fin := Lib.hid (fin.out w3 hb3)
      clear hb3 cN
      go_wp2
      first | go_ret | skip
      exact fin.out
    · rw [hb] at cN
      have hkl2 := at_ne (sg_nnil hb)
      obtain ⟨m1, q, rfl, hq, hm2⟩ : ∃ m1 q, m = m1 + 1 ∧ expr m1 1 o (at_ l k').tail = some q ∧ (match q with | .bad c us => r = .bad c us | .ok x us => ∃ r', more m1 o us = some r' ∧ r = catR (acc ++ [x]) r') := by
        obtain ⟨r', h1, h2⟩ := hr.out
        obtain ⟨m1, q, e1, e2, e3⟩ := more_step hb h1
        refine ⟨m1, q, e1, e2, ?_⟩
        cases q with
        | bad c us => dsimp only at e3 ⊢; rw [h2, e3]; rfl
        | ok x us =>
          dsimp only at e3 ⊢
          obtain ⟨r'', e4, e5⟩ := e3
          exact ⟨r'', e4, by rw [h2, e5, catR_cat]⟩
      have cX := Lib.hid (fun W (hW : Below wr.heap.size wr W) => expect_any (hst.out.below hW) (ks_one 44 (by decide)) (S := ⟨#[44]⟩) rfl)
      have hplace := hst.out.place
      unfold want at cX
      rw [hb, if_pos rfl] at cX
      replace hq := Lib.hid hq
      replace hm2 := Lib.hid hm2
      clear hb
      go_wp2_with fail
      refine (cN.out).mono ?_
      rintro e w3 ⟨rfl, hb3⟩
      have cx := Lib.hid (cX.out w3 hb3)
      replace hb3 := Lib.hid hb3
      go_wp2_with fail
      refine (cx.out).mono ?_
      rintro e w4 (⟨_, k4, v4, hx4, rfl, hv4, hst4, hg4⟩ | ⟨c, ts, hx4, _⟩)
      case inr => cases hx4
      unfold UnitR at hv4
      subst hv4
      injection hx4 with _ hx4
      have hq4 := hq.out
      rw [hx4] at hq4
      have c5 := Lib.hid (hE.out m1 (by omega) o k4 w4 q hst4 hq4)
      have hk4 : k4 = k' + 1 := by
        have := congrArg List.length hx4
        rw [at_tail, at_len l (by omega), at_len l hst4.kn] at this
        have := hst4.kn
        omega
      have hG4 := (hG.out.below hb3.out).gr hg4 (by omega)
      have hg4' : Gr B w w4 := (hg.out.below hb3.out).trans hg4
      replace hst4 := Lib.hid hst4
      replace hG4 := Lib.hid hG4
      replace hg4' := Lib.hid hg4'
      replace hq4 := Lib.hid hq4
      clear cX cx cN hG hst hg hr hg4 hx4
      go_wp2_with fail
      refine (c5.out).mono ?_
      rintro e w5 (⟨y, k5, v5, hx5, rfl, hv5, hst5, hg5⟩ | ⟨c, ts, hx5, rfl, hg5⟩)
      case inr =>
        refine ⟨rfl, ?_⟩
        have := hm2.out
        subst hx5
        exact Ae.bad this (hg4'.out.trans hg5)
      subst hx5
      obtain ⟨S', T', N', A', L', cap', rfl, hC⟩ := hv5
      have hadv := expr_adv hgood.out hst5.o1 hst4.out.kn hst5.kn hq4.out
      have hG5 := hG4.out.gr hg5 (by omega)
      have hg5' : Gr B w w5 := hg4'.out.trans hg5
      have hle5 := hg5'.size
      have hk5 := hst5.kn
      have hlen := hgood.out.len
      obtain ⟨A0, c0, hv0, hs1, hs2, hs3⟩ := hG5.slice
      clear hs1 hs2 hs3
      subst hv0
      obtain ⟨an, han⟩ : ∃ an, acc.length = an := ⟨_, rfl⟩
      rw [han] at hG5 hG4 hac
      obtain ⟨css, hown0, hpush⟩ := hG5.more
      rw [han] at hpush
      have hvlt := fun g hg => (hG5.lt g hg).2
      rw [han] at hown0
      have hownA := hown0.alloc (.cells #[.string S', .int .u32 N', .string T', .slice A' L' cap'] 51)
      replace hG5 := Lib.hid hG5
      replace hC := Lib.hid hC
      replace hst5 := Lib.hid hst5
      replace hg5' := Lib.hid hg5'
      replace hadv := Lib.hid hadv
      replace hown0 := Lib.hid hown0
      have hvlt4 : Hid (∀ g, (Value.slice A0 an c0).ownBlock = some g → g < w4.heap.size) := Lib.hid (fun g hg => (hG4.out.lt g hg).2)
      have hle4 := Lib.hid hg4'.out.size
      clear hG4 hg4' hg5 hq4 hq
      go_wp2_with (at_builtin; refine wpList_append_own_at _ rfl _ _ 49 rfl w.heap.size 51 i0 (.agg #[.string ⟨#[]⟩, .int .u32 0, .string ⟨#[]⟩, .slice none 0 0]) 4 64 Tryz.underlying49 hi hi0 hi1 hi2 rfl (by decide) _ _ _ rfl hownA ⟨w5.heap.size, 0, none⟩ 1 1 [.string S', .int .u32 N', .string T', .slice A' L' cap'] rfl rfl (A18.list_new _ _ _) (four_ex _ _ _ _ _ _) (by unfold maxLen; omega) (by omega) (by simp; omega) ?_; intro v' w6 hown' hgrow _ hblk)
      have hown1 : ∀ j, (Value.slice A0 an c0).ownBlock = some j → w.heap.size ≤ j := fun j hj => (hG5.out.lt j hj).1
      have hG6 : Gro exE 51 w.heap.size w6 v' (acc ++ [y]) := hpush.push w6 v' y _ w4.heap.size hle4.out hvlt4.out hC.out hown' hgrow (by rw [World.size_alloc] at hblk; exact hblk)
      have hg6 : Gr B w w6 := (hg5'.out.below (boxed w5 _)).grow hgrow hown1
      have hst6 : RdS base B l k5 o w6 := (hst5.out.alloc _).grow hgrow (fun j hj => Nat.le_trans hbw (hown1 j hj))
      have hpl := hst6.place
      have hal : (acc ++ [y]).length = an + 1 := by rw [List.length_append, han]; rfl
      have hadv2 := hadv.out
      replace hG6 := Lib.hid hG6
      replace hg6 := Lib.hid hg6
      replace hst6 := Lib.hid hst6
      clear hpush hvlt4 hC hown' hgrow hblk hown1 hst5 hg5' hown0 hownA hG5 hst4
      go_wp2
      go_roundw
      case rel => exact ⟨m1, k5, acc ++ [y], _, rfl, by omega, hk5, by rw [hal]; omega, hG6, hst6, hg6, hm2⟩
      case measure => rw [hpl, hplace]; omega
end
end Go.Proofs.YtpbcncfbfbghcaaGreatDoor.L20
namespace Go.Proofs.YtpbcncfbfbghcaaGreatDoor.L20
set_option maxRecDepth 100000
open Go.RowKit Mem L19
set_option linter.unusedVariables false
set_option linter.unusedSimpArgs false

def StrsR (n0 : Nat) : List Str → Value → World → Prop := fun x v w' => ∃ (A : Option Addr) (L cap : Nat), v = .slice A L cap ∧ x.length = L ∧ StrsF w' (fun b => n0 ≤ b) x A cap
theorem info_string : (Tryz.prog.info? 9).map (fun i => (i.zero, i.size, i.bytes)) = some (some (.string ⟨#[]⟩), 1, 16) := by kernel_rfl
theorem name_adv {l : List L19.Tok} {k j : Nat} {x : Str} (hk : k ≤ l.length) (hj : j ≤ l.length) (h : name (at_ l k) = .ok x (at_ l j)) : k < j := by
  unfold name at h
  split at h
  · rename_i h1
    have h2 := at_ne (kd_nnil h1)
    injection h with _ h
    have := congrArg List.length h
    rw [at_tail, at_len l (by omega), at_len l hj] at this
    omega
  · cases h
theorem nmore_stop {n : Nat} {ts : List Tk} {r : Rs (List Str)} (hs : sg [44] ts = false) (h : nmore n ts = some r) : r = .ok [] ts := by
  cases n with
  | zero => rw [nmore] at h; cases h
  | succ n => rw [nmore, hs] at h; injection h with h; exact h.symm
theorem nmore_step {n : Nat} {ts : List Tk} {r : Rs (List Str)} (hs : sg [44] ts = true) (h : nmore n ts = some r) : ∃ m q, n = m + 1 ∧ name ts.tail = q ∧ (match q with | .bad c us => r = .bad c us | .ok x us => ∃ r', nmore m us = some r' ∧ r = catR [x] r') := by
  cases n with
  | zero => rw [nmore] at h; cases h
  | succ n =>
    rw [nmore, hs, if_pos rfl] at h
    cases e : name ts.tail with
    | bad c us => rw [e] at h; simp only [bnd] at h; injection h with h; exact ⟨n, _, rfl, rfl, h.symm⟩
    | ok x us =>
      rw [e] at h
      refine ⟨n, _, rfl, rfl, ?_⟩
      dsimp only
      cases e2 : nmore n us with
      | none => simp only [bnd, e2] at h; cases h
      | some v =>
        refine ⟨v, rfl, ?_⟩
        cases v <;> (simp only [bnd, e2] at h; injection h with h; exact h.symm)
section
variable {base B k o : Nat} {l : List L19.Tok} {w : World}
set_option maxHeartbeats 4000000 in
theorem listS_any {n : Nat} (h : RdS base B l k o w) {r : Rs (List Str)} (hr : names n (at_ l k) = some r) :
    Calls Tryz.prog 94 #[.pointer (some ⟨B, 0, none⟩), .func (.func 95) #[.pointer (some ⟨B, 0, none⟩)] #[]] w (Ae base B l o w (StrsR w.heap.size) r) := by
  obtain ⟨i0, hi, hi0, hi1, hi2⟩ := info_parts info_string
  unfold names at hr
  obtain ⟨rE, hrE⟩ : ∃ rE, name (at_ l k) = rE := ⟨_, rfl⟩
  rw [hrE] at hr
  have c1 := name_any h
  rw [hrE] at c1
  replace c1 := Lib.hid c1
  have hbw := h.big
  have hBb := h.low
  have hgood := h.ok
  have hkl := h.kn
  replace hr := Lib.hid hr
  replace hrE := Lib.hid hrE
  replace hgood := Lib.hid hgood
  clear h
  go_enter Tryz.func94, Tryz.ntmps94
  go_wp2_with fail
  refine (c1.out).mono ?_
  rintro e w1 (⟨x, k1, v, hx, rfl, hv, hst, hg⟩ | ⟨c, ts, hx, rfl, hg⟩)
  case inr =>
    refine ⟨rfl, Ae.bad ?_ hg⟩
    have := hr.out
    rw [hx] at this
    injection this with this
    exact this.symm
  unfold StrR at hv
  obtain ⟨X, hX⟩ : ∃ X, strV x = .string X := ⟨_, rfl⟩
  rw [hX] at hv
  subst hv
  have hC : snE.P w1 (fun b => w.heap.size ≤ b) x [.string X] := by show [Value.string X] = _; rw [hX]
  subst hx
  have hr2 : ∃ r', nmore n (at_ l k1) = some r' ∧ r = catR [x] r' := by
    have := hr.out
    cases e : nmore n (at_ l k1) with
    | none => simp only [bnd, e] at this; cases this
    | some v =>
      refine ⟨v, rfl, ?_⟩
      cases v <;> (simp only [bnd, e] at this; injection this with this; exact this.symm)
  have hkk := name_adv hkl hst.kn hrE.out
  have hk1l := hst.kn
  have hge := hg.size
  obtain ⟨g1, hg1⟩ : ∃ g, w1.heap.size = g := ⟨_, rfl⟩
  obtain ⟨w2, hw2⟩ : ∃ W, w1.alloc (.cells #[.string X] 9) = W := ⟨_, rfl⟩
  have hG : Gro snE 9 w.heap.size w2 (.slice (some ⟨g1, 0, none⟩) 1 1) [x] := by
    rw [← hw2, ← hg1]
    exact Gro.one (E := snE) (c := [.string X]) hC hge
  have hst2 : RdS base B l k1 o w2 := by rw [← hw2]; exact hst.alloc _
  have hg2 : Gr B w w2 := by rw [← hw2]; exact hg.below (boxed w1 _)
  have hp1 : 1 ≤ k1 := by omega
  replace hG := Lib.hid hG
  replace hst2 := Lib.hid hst2
  replace hg2 := Lib.hid hg2
  replace hr2 := Lib.hid hr2
  replace hkk := Lib.hid hkk
  clear hC hst hg c1 hr hrE
  go_wp2
  clear hw2
  go_loopw [5] (fun iv wr => ∃ (m k' : Nat) (acc : List Str) (v : Value), v = iv ∧ m ≤ n ∧ k' ≤ l.length ∧ acc.length ≤ k' ∧ Hid (Gro snE 9 w.heap.size wr v acc) ∧ Hid (RdS base B l k' o wr) ∧ Hid (Gr B w wr) ∧ Hid (∃ r', nmore m (at_ l k') = some r' ∧ r = catR acc r')) (fun _ wr => l.length - placeOf wr B)
  case atStart => exact ⟨n, k1, [x], _, rfl, Nat.le_refl _, hk1l, hp1, hG, hst2, hg2, hr2⟩
  case round =>
    clear hG hst2 hg2 hr2 hkk hp1
    obtain ⟨m, k', acc, v, rfl, hm, hk', hac, hG, hst, hg, hr⟩ := hrel
    have cN := Lib.hid (isNext_any hst.out (ks_one 44 (by decide)) (S := ⟨#[44]⟩) rfl)
    rcases hb : sg [44] (at_ l k') with _ | _
    · rw [hb] at cN
      have hr1 : r = .ok acc (at_ l k') := by
        obtain ⟨r', h1, h2⟩ := hr.out
        rw [h2, nmore_stop hb h1]
        simp [catR]
      have fin : ∀ W, Below wr.heap.size wr W → Ae base B l o w (StrsR w.heap.size) r (.returned v) W := fun W hW => by
        obtain ⟨A, cap, hv, hR⟩ := (hG.out.below hW).row (by decide)
        exact Ae.ok hr1 ⟨A, _, cap, hv, rfl, hR.strs⟩ (hst.out.below hW) (hg.out.below hW)
      replace fin := Lib.hid fin
      clear hG hst hg hr hb hr1
      go_wp2_with fail
      refine (cN.out).mono ?_
      rintro e w3 ⟨rfl, hb3⟩
      have fin := Lib.hid (fin.out w3 hb3)
      clear hb3 cN
      go_wp2
      first | go_ret | skip
      exact fin.out
    · rw [hb] at cN
      have hkl2 := at_ne (sg_nnil hb)
      obtain ⟨m1, q, rfl, hq, hm2⟩ : ∃ m1 q, m = m1 + 1 ∧ name (at_ l k').tail = q ∧ (match q with | .bad c us => r = .bad c us | .ok x us => ∃ r', nmore m1 us = some r' ∧ r = catR (acc ++ [x]) r') := by
        obtain ⟨r', h1, h2⟩ := hr.out
        obtain ⟨m1, q, e1, e2, e3⟩ := nmore_step hb h1
        refine ⟨m1, q, e1, e2, ?_⟩
        cases q with
        | bad c us => dsimp only at e3 ⊢; rw [h2, e3]; rfl
        | ok x us =>
          dsimp only at e3 ⊢
          obtain ⟨r'', e4, e5⟩ := e3
          exact ⟨r'', e4, by rw [h2, e5, catR_cat]⟩
      have cX := Lib.hid (fun W (hW : Below wr.heap.size wr W) => expect_any (hst.out.below hW) (ks_one 44 (by decide)) (S := ⟨#[44]⟩) rfl)
      have hplace := hst.out.place
      unfold want at cX
      rw [hb, if_pos rfl] at cX
      replace hq := Lib.hid hq
      replace hm2 := Lib.hid hm2
      clear hb
      go_wp2_with fail
      refine (cN.out).mono ?_
      rintro e w3 ⟨rfl, hb3⟩
      have cx := Lib.hid (cX.out w3 hb3)
      replace hb3 := Lib.hid hb3
      go_wp2_with fail
      refine (cx.out).mono ?_
      rintro e w4 (⟨_, k4, v4, hx4, rfl, hv4, hst4, hg4⟩ | ⟨c, ts, hx4, _⟩)
      case inr => cases hx4
      unfold UnitR at hv4
      subst hv4
      injection hx4 with _ hx4
      have hq4 := hq.out
      rw [hx4] at hq4
      have c5 := name_any hst4
      rw [hq4] at c5
      replace c5 := Lib.hid c5
      have hk4 : k4 = k' + 1 := by
        have := congrArg List.length hx4
        rw [at_tail, at_len l (by omega), at_len l hst4.kn] at this
        have := hst4.kn
        omega
      have hG4 := (hG.out.below hb3.out).gr hg4 (by omega)
      have hg4' : Gr B w w4 := (hg.out.below hb3.out).trans hg4
      replace hst4 := Lib.hid hst4
      replace hG4 := Lib.hid hG4
      replace hg4' := Lib.hid hg4'
      replace hq4 := Lib.hid hq4
      clear cX cx cN hG hst hg hr hg4 hx4
      go_wp2_with fail
      refine (c5.out).mono ?_
      rintro e w5 (⟨y, k5, v5, hx5, rfl, hv5, hst5, hg5⟩ | ⟨c, ts, hx5, rfl, hg5⟩)
      case inr =>
        refine ⟨rfl, ?_⟩
        have := hm2.out
        subst hx5
        exact Ae.bad this (hg4'.out.trans hg5)
      subst hx5
      unfold StrR at hv5
      obtain ⟨Y, hY⟩ : ∃ Y, strV y = .string Y := ⟨_, rfl⟩
      rw [hY] at hv5
      subst hv5
      have hC : snE.P w5 (fun b => w4.heap.size ≤ b) y [.string Y] := by show [Value.string Y] = _; rw [hY]
      have hadv := name_adv hst4.out.kn hst5.kn hq4.out
      have hG5 := hG4.out.gr hg5 (by omega)
      have hg5' : Gr B w w5 := hg4'.out.trans hg5
      have hle5 := hg5'.size
      have hk5 := hst5.kn
      have hlen := hgood.out.len
      obtain ⟨A0, c0, hv0, hs1, hs2, hs3⟩ := hG5.slice
      clear hs1 hs2 hs3
      subst hv0
      obtain ⟨an, han⟩ : ∃ an, acc.length = an := ⟨_, rfl⟩
      rw [han] at hG5 hG4 hac
      obtain ⟨css, hown0, hpush⟩ := hG5.more
      rw [han] at hpush
      have hvlt := fun g hg => (hG5.lt g hg).2
      rw [han] at hown0
      have hownA := hown0.alloc (.cells #[.string Y] 9)
      replace hG5 := Lib.hid hG5
      replace hC := Lib.hid hC
      replace hst5 := Lib.hid hst5
      replace hg5' := Lib.hid hg5'
      replace hadv := Lib.hid hadv
      replace hown0 := Lib.hid hown0
      have hvlt4 : Hid (∀ g, (Value.slice A0 an c0).ownBlock = some g → g < w4.heap.size) := Lib.hid (fun g hg => (hG4.out.lt g hg).2)
      have hle4 := Lib.hid hg4'.out.size
      clear hG4 hg4' hg5 hq4 hq
      go_wp2_with (at_builtin; refine wpList_append_own_at _ rfl _ _ 23 rfl w.heap.size 9 i0 (.string ⟨#[]⟩) 1 16 Tryz.underlying23 hi hi0 hi1 hi2 rfl (by decide) _ _ _ rfl hownA ⟨w5.heap.size, 0, none⟩ 1 1 [.string Y] rfl rfl (A18.list_new _ _ _) (one_str _) (by unfold maxLen; omega) (by omega) (by simp; omega) ?_; intro v' w6 hown' hgrow _ hblk)
      have hown1 : ∀ j, (Value.slice A0 an c0).ownBlock = some j → w.heap.size ≤ j := fun j hj => (hG5.out.lt j hj).1
      have hG6 : Gro snE 9 w.heap.size w6 v' (acc ++ [y]) := hpush.push w6 v' y _ w4.heap.size hle4.out hvlt4.out hC.out hown' hgrow (by rw [World.size_alloc] at hblk; exact hblk)
      have hg6 : Gr B w w6 := (hg5'.out.below (boxed w5 _)).grow hgrow hown1
      have hst6 : RdS base B l k5 o w6 := (hst5.out.alloc _).grow hgrow (fun j hj => Nat.le_trans hbw (hown1 j hj))
      have hpl := hst6.place
      have hal : (acc ++ [y]).length = an + 1 := by rw [List.length_append, han]; rfl
      have hadv2 := hadv.out
      replace hG6 := Lib.hid hG6
      replace hg6 := Lib.hid hg6
      replace hst6 := Lib.hid hst6
      clear hpush hvlt4 hC hown' hgrow hblk hown1 hst5 hg5' hown0 hownA hG5 hst4
      go_wp2
      go_roundw
      case rel => exact ⟨m1, k5, acc ++ [y], _, rfl, by omega, hk5, by rw [hal]; omega, hG6, hst6, hg6, hm2⟩
      case measure => rw [hpl, hplace]; omega
end
end Go.Proofs.YtpbcncfbfbghcaaGreatDoor.L20
namespace Go.Proofs.YtpbcncfbfbghcaaGreatDoor.L20
set_option maxRecDepth 100000
open Go.RowKit Mem L19
set_option linter.unusedVariables false
set_option linter.unusedSimpArgs false

/-- How strongly an operator binds, as the landed code counts. -/
def strI (T : Str) : Nat := if 0 < lev T then lev T - 1 else if T = eNeg ∨ T = eNot then 6 else 7
def opsN : List Str := [[124, 124], [38, 38], [61, 61], [33, 61], [60], [62], [60, 61], [62, 61], [94], [43], [45], [42], [47], [37], eNeg, eNot]
theorem lev_not {T : Str} (h : T ∉ opsN) : lev T = 0 := by
  unfold opsN at h
  simp only [List.mem_cons, List.not_mem_nil, or_false, not_or] at h
  unfold lev
  simp [h]
theorem strI_not {T : Str} (h : T ∉ opsN) : strI T = 7 := by
  unfold strI
  rw [lev_not h, if_neg (by decide), if_neg]
  rintro (rfl | rfl) <;> exact h (by decide)
/-- The operator's level, from the strength. -/
theorem strI_lev {T : Str} {v : Nat} (h1 : 1 ≤ v) (h6 : v ≤ 6) : (strI T = v - 1) ↔ lev T = v := by
  unfold strI
  split
  · omega
  · split <;> omega
set_option maxHeartbeats 4000000 in
theorem strength_any {T : Str} {X : ByteArray} (hX : strV T = .string X) (w : World) : Calls Tryz.prog 199 #[.string X] w fun e w' => e = .returned (.int .i64 (strI T : Int)) ∧ w = w' := by
  have t : ∀ c : Str, (X.toList == c) = (T == c) := fun c => by
    have := str_beq hX (b := c) (B := ⟨c.toArray⟩) rfl
    rw [← this]
    simp [ByteArray.toList_eq]
  by_cases hm : T ∈ opsN
  · unfold opsN at hm
    simp only [List.mem_cons, List.not_mem_nil, or_false] at hm
    have q1 : (X.toList == [124, 124]) = (T == [124, 124]) := t _
    have q2 : (X.toList == [38, 38]) = (T == [38, 38]) := t _
    have q3 : (X.toList == [61, 61]) = (T == [61, 61]) := t _
    have q4 : (X.toList == [33, 61]) = (T == [33, 61]) := t _
    have q5 : (X.toList == [60]) = (T == [60]) := t _
    have q6 : (X.toList == [62]) = (T == [62]) := t _
    have q7 : (X.toList == [60, 61]) = (T == [60, 61]) := t _
    have q8 : (X.toList == [62, 61]) = (T == [62, 61]) := t _
    have q9 : (X.toList == [94]) = (T == [94]) := t _
    have q10 : (X.toList == [43]) = (T == [43]) := t _
    have q11 : (X.toList == [45]) = (T == [45]) := t _
    have q12 : (X.toList == [42]) = (T == [42]) := t _
    have q13 : (X.toList == [47]) = (T == [47]) := t _
    have q14 : (X.toList == [37]) = (T == [37]) := t _
    have q15 : (X.toList == [110, 101, 103]) = (T == [110, 101, 103]) := t _
    have q16 : (X.toList == [110, 111, 116]) = (T == [110, 111, 116]) := t _
    clear t hX
    rcases hm with rfl | rfl | rfl | rfl | rfl | rfl | rfl | rfl | rfl | rfl | rfl | rfl | rfl | rfl | rfl | rfl
    case inl => rw [show ((strI [124, 124] : Nat) : Int) = 0 from rfl]; (go_enter Tryz.func199, Tryz.ntmps199; go_wp2; (first | go_ret | skip); exact ⟨rfl, rfl⟩)
    case inr.inl => rw [show ((strI [38, 38] : Nat) : Int) = 1 from rfl]; (go_enter Tryz.func199, Tryz.ntmps199; go_wp2; (first | go_ret | skip); exact ⟨rfl, rfl⟩)
    case inr.inr.inl => rw [show ((strI [61, 61] : Nat) : Int) = 2 from rfl]; (go_enter Tryz.func199, Tryz.ntmps199; go_wp2; (first | go_ret | skip); exact ⟨rfl, rfl⟩)
    case inr.inr.inr.inl => rw [show ((strI [33, 61] : Nat) : Int) = 2 from rfl]; (go_enter Tryz.func199, Tryz.ntmps199; go_wp2; (first | go_ret | skip); exact ⟨rfl, rfl⟩)
    case inr.inr.inr.inr.inl => rw [show ((strI [60] : Nat) : Int) = 2 from rfl]; (go_enter Tryz.func199, Tryz.ntmps199; go_wp2; (first | go_ret | skip); exact ⟨rfl, rfl⟩)
    case inr.inr.inr.inr.inr.inl => rw [show ((strI [62] : Nat) : Int) = 2 from rfl]; (go_enter Tryz.func199, Tryz.ntmps199; go_wp2; (first | go_ret | skip); exact ⟨rfl, rfl⟩)
    case inr.inr.inr.inr.inr.inr.inl => rw [show ((strI [60, 61] : Nat) : Int) = 2 from rfl]; (go_enter Tryz.func199, Tryz.ntmps199; go_wp2; (first | go_ret | skip); exact ⟨rfl, rfl⟩)
    case inr.inr.inr.inr.inr.inr.inr.inl => rw [show ((strI [62, 61] : Nat) : Int) = 2 from rfl]; (go_enter Tryz.func199, Tryz.ntmps199; go_wp2; (first | go_ret | skip); exact ⟨rfl, rfl⟩)
    case inr.inr.inr.inr.inr.inr.inr.inr.inl => rw [show ((strI [94] : Nat) : Int) = 3 from rfl]; (go_enter Tryz.func199, Tryz.ntmps199; go_wp2; (first | go_ret | skip); exact ⟨rfl, rfl⟩)
    case inr.inr.inr.inr.inr.inr.inr.inr.inr.inl => rw [show ((strI [43] : Nat) : Int) = 4 from rfl]; (go_enter Tryz.func199, Tryz.ntmps199; go_wp2; (first | go_ret | skip); exact ⟨rfl, rfl⟩)
    case inr.inr.inr.inr.inr.inr.inr.inr.inr.inr.inl => rw [show ((strI [45] : Nat) : Int) = 4 from rfl]; (go_enter Tryz.func199, Tryz.ntmps199; go_wp2; (first | go_ret | skip); exact ⟨rfl, rfl⟩)
    case inr.inr.inr.inr.inr.inr.inr.inr.inr.inr.inr.inl => rw [show ((strI [42] : Nat) : Int) = 5 from rfl]; (go_enter Tryz.func199, Tryz.ntmps199; go_wp2; (first | go_ret | skip); exact ⟨rfl, rfl⟩)
    case inr.inr.inr.inr.inr.inr.inr.inr.inr.inr.inr.inr.inl => rw [show ((strI [47] : Nat) : Int) = 5 from rfl]; (go_enter Tryz.func199, Tryz.ntmps199; go_wp2; (first | go_ret | skip); exact ⟨rfl, rfl⟩)
    case inr.inr.inr.inr.inr.inr.inr.inr.inr.inr.inr.inr.inr.inl => rw [show ((strI [37] : Nat) : Int) = 5 from rfl]; (go_enter Tryz.func199, Tryz.ntmps199; go_wp2; (first | go_ret | skip); exact ⟨rfl, rfl⟩)
    case inr.inr.inr.inr.inr.inr.inr.inr.inr.inr.inr.inr.inr.inr.inl => rw [show ((strI eNeg : Nat) : Int) = 6 from rfl]; unfold eNeg at *; (go_enter Tryz.func199, Tryz.ntmps199; go_wp2; (first | go_ret | skip); exact ⟨rfl, rfl⟩)
    case inr.inr.inr.inr.inr.inr.inr.inr.inr.inr.inr.inr.inr.inr.inr => rw [show ((strI eNot : Nat) : Int) = 6 from rfl]; unfold eNot at *; (go_enter Tryz.func199, Tryz.ntmps199; go_wp2; (first | go_ret | skip); exact ⟨rfl, rfl⟩)
  · rw [strI_not hm]
    unfold opsN eNeg eNot at hm
    simp only [List.mem_cons, List.not_mem_nil, or_false, not_or] at hm
    have f : ∀ c : Str, T ≠ c → (X.toList == c) = false := fun c h => (t c).trans (beq_eq_false_iff_ne.2 h)
    obtain ⟨m1, m2, m3, m4, m5, m6, m7, m8, m9, m10, m11, m12, m13, m14, m15, m16⟩ := hm
    replace m1 := f _ m1
    replace m2 := f _ m2
    replace m3 := f _ m3
    replace m4 := f _ m4
    replace m5 := f _ m5
    replace m6 := f _ m6
    replace m7 := f _ m7
    replace m8 := f _ m8
    replace m9 := f _ m9
    replace m10 := f _ m10
    replace m11 := f _ m11
    replace m12 := f _ m12
    replace m13 := f _ m13
    replace m14 := f _ m14
    replace m15 := f _ m15
    replace m16 := f _ m16
    rw [show ((7 : Nat) : Int) = 7 from rfl]
    clear t f hX
    (go_enter Tryz.func199, Tryz.ntmps199; go_wp2; (first | go_ret | skip); exact ⟨rfl, rfl⟩)
end Go.Proofs.YtpbcncfbfbghcaaGreatDoor.L20
