/- The contract of the landed Parse (layer 20). The contract of the landed Parse: the tokens are good (layer 20). -/
import Derived.Test.YtpbcncfbfbghcaaGreatDoorP20L20Pa1
namespace Go.Proofs.YtpbcncfbfbghcaaGreatDoor.L20
set_option maxRecDepth 100000
open Go.RowKit Mem L19
open M17 (Laid Laid.below)
set_option linter.unusedVariables false
set_option linter.unusedSimpArgs false

theorem box_new (w : World) (cs : List Value) (T : TypeId) : ∃ W g, w.alloc (.cells cs.toArray T) = W ∧ w.heap.size = g ∧ Blk T W g cs ∧ Below w.heap.size w W := ⟨_, _, rfl, rfl, Blk.new w T cs, boxed w _⟩
theorem tokens_use (s : ByteArray) {ts : List L19.Tok} {n e0 : Nat} (ha : ans s.data.toList = (ts, n, e0)) {len : Nat} (hl : ts.length = len) {ni ei : Int} (hni : (n : Int) = ni) (hei : (e0 : Int) = ei) (w : World) (hL : Laid w) :
    Calls Tryz.prog 19 #[.string s] w fun e w' => ∃ (A : Option Addr) (cap : Nat), e = .returned (.tuple #[.slice A len cap, .int .i64 ni, .int .i64 ei]) ∧ IsTk w' A len cap ts ∧ Below w.heap.size w w' := by
  subst hl hni hei
  refine (Tokens_any s w hL).mono fun e w' h => ?_
  rw [ha] at h
  obtain ⟨v, he, hown, hb⟩ := h
  obtain ⟨A, cap, rfl, hI⟩ := IsTk.of_own hown rfl
  exact ⟨A, cap, he, hI, hb⟩
set_option maxHeartbeats 4000000 in
/-- No tokens: the empty program. -/
theorem program_nil {B : Nat} {A : Option Addr} {cap : Nat} {w : World} (hb : Blk 63 w B [.slice A 0 cap, .int .i64 0, .int .i64 0]) :
    Calls Tryz.prog 29 #[.pointer (some ⟨B, 0, none⟩)] w fun e w' => e = .returned (.agg #[.slice none 0 0, .slice none 0 0, .slice none 0 0]) ∧ Below w.heap.size w w' := by
  obtain ⟨W0, g, hW0, hg, hb0, hl0⟩ := box_new w [.slice none 0 0, .slice none 0 0, .slice none 0 0] 27
  obtain ⟨W1, g1, hW1, hg1, hb1, hl1⟩ := box_new W0 [.slice none 0 0, .slice none 0 0, .slice none 0 0] 27
  have hbB := (hb.below hl0).below hl1
  have y0 := hbB.cell 0
  have y1 := hbB.cell 1
  simp only [List.getElem?_cons_zero, List.getElem?_cons_succ] at y0 y1
  have hbl := chain hl0 hl1
  have h01 := hb0.below hl1
  have hfin : ∀ q W, W = W1.drewN q → Blk 27 (((W.setCell ⟨g, 0, none⟩ (.slice none 0 0)).setCell ⟨g, 1, none⟩ (.slice none 0 0)).setCell ⟨g, 2, none⟩ (.slice none 0 0)) g [.slice none 0 0, .slice none 0 0, .slice none 0 0] ∧
      Below w.heap.size w (((W.setCell ⟨g, 0, none⟩ (.slice none 0 0)).setCell ⟨g, 1, none⟩ (.slice none 0 0)).setCell ⟨g, 2, none⟩ (.slice none 0 0)) ∧ Blk 27 W g [.slice none 0 0, .slice none 0 0, .slice none 0 0] ∧ Blk 27 W g1 [.slice none 0 0, .slice none 0 0, .slice none 0 0] := fun q W hW => by
    have hbq : Below W1.heap.size W1 W := by rw [hW]; exact chainN (Below.refl _ _) q
    have h01q := h01.below hbq
    have hbq2 := chain hbl hbq
    exact ⟨((h01q.set 0 _).set 1 _).set 2 _, ((hbq2.setCell (p := ⟨g, 0, none⟩) (Nat.le_of_eq hg) _).setCell (p := ⟨g, 1, none⟩) (Nat.le_of_eq hg) _).setCell (p := ⟨g, 2, none⟩) (Nat.le_of_eq hg) _, h01q, hb1.below hbq⟩
  replace hfin := Lib.hid hfin
  clear hb hb0 hb1 hl0 hl1 hbB hbl h01
  go_enter Tryz.func29, Tryz.ntmps29
  go_wp2
  clear hW0 hW1
  go_loopw [16] (fun _ wr => wr = W1) (fun _ wr => 0)
  case atStart => exact rfl
  case round =>
    have hrel' : wr = W1 := hrel
    subst hrel'
    go_wp2_with fail
    go_quiet (fail)
    obtain ⟨Wq, hWq⟩ : ∃ W, wr.drewN nq = W := ⟨_, rfl⟩
    obtain ⟨q1, q2, q3, q4⟩ := hfin.out nq Wq hWq.symm
    obtain ⟨x0, x1, x2, _, _, _⟩ := pg_box q4
    obtain ⟨u0, u1, u2, f0, f1, f2⟩ := pg_box q3
    replace q1 := Lib.hid q1
    replace q2 := Lib.hid q2
    clear q3 q4 hfin y0 y1
    rw [hWq]
    go_wp2
    exact ret_cell (cs := [.slice none 0 0, .slice none 0 0, .slice none 0 0]) rfl Tryz.underlying27 (by kernel_rfl) (by simp) q1.out ⟨rfl, q2.out⟩
/-- What Parse hands back. -/
def PaP (r : Ans) (w : World) (e : Ending) (w' : World) : Prop := ∃ (V A E : Option Addr) (lv cv la ca lf ce : Nat), e = .returned (.tuple #[.agg #[.slice V lv cv, .slice A la ca, .slice E lf ce], .int .i64 (r.2.1 : Int), .int .i64 (r.2.2 : Int)]) ∧
  r.1.vars.length = lv ∧ r.1.arrays.length = la ∧ r.1.funcs.length = lf ∧ PgM w' (fun b => w.heap.size ≤ b) r.1 V A E cv ca ce ∧ Below w.heap.size w w'
/-- How the three results are read. -/
theorem res3_read {w : World} {g2 g3 g4 : Nat} {p0 p1 p2 : Value} {x y : Int} (h : Res3 g2 g3 g4 w p0 p1 p2 x y) :
    w.cell? ⟨g2, 0, none⟩ = some p0 ∧ w.cell? ⟨g2, 1, none⟩ = some p1 ∧ w.cell? ⟨g2, 2, none⟩ = some p2 ∧ w.cell? ⟨g3, 0, none⟩ = some (.int .i64 x) ∧ w.cell? ⟨g4, 0, none⟩ = some (.int .i64 y) :=
  ⟨(pg_box h.a).1, (pg_box h.a).2.1, (pg_box h.a).2.2.1, h.b.cell 0, h.c.cell 0⟩
theorem Res3.below {w w1 : World} {g2 g3 g4 : Nat} {p0 p1 p2 : Value} {x y : Int} (h : Res3 g2 g3 g4 w p0 p1 p2 x y) (k : Below w.heap.size w w1) : Res3 g2 g3 g4 w1 p0 p1 p2 x y := ⟨h.a.below k, h.b.below k, h.c.below k⟩
end Go.Proofs.YtpbcncfbfbghcaaGreatDoor.L20
namespace Go.Proofs.YtpbcncfbfbghcaaGreatDoor.L20
set_option maxRecDepth 100000
open Go.RowKit Mem L19
open M17 (Laid Laid.below)
set_option linter.unusedVariables false
set_option linter.unusedSimpArgs false
theorem fresh_own3 {w : World} {base n cap : Nat} {e : TypeId} {A : Option Addr} {xs : List Value} (h : w.ownsRow base e 3 (.slice A n cap) n xs) (a : Addr) (ha : A = some a) : base ≤ a.block := by
  subst ha
  rcases h.2 with ⟨h0, h1⟩ | ⟨g, cap', cur, hv, _⟩
  · injection h0 with hx
    cases hx
  · injection hv with hA _ _
    injection hA with hA
    subst hA
    exact (h.lt g rfl).1
theorem tokens_use2 (s : ByteArray) {ts : List L19.Tok} {n e0 : Nat} (ha : ans s.data.toList = (ts, n, e0)) {len : Nat} (hl : ts.length = len) {ni ei : Int} (hni : (n : Int) = ni) (hei : (e0 : Int) = ei) (w : World) (hL : Laid w) :
    Calls Tryz.prog 19 #[.string s] w fun e w' => ∃ (A : Option Addr) (cap : Nat), e = .returned (.tuple #[.slice A len cap, .int .i64 ni, .int .i64 ei]) ∧ IsTk w' A len cap ts ∧ (∀ a, A = some a → w.heap.size ≤ a.block ∧ (0 < len → a.block < w'.heap.size)) ∧ Below w.heap.size w w' := by
  subst hl hni hei
  refine (Tokens_any s w hL).mono fun e w' h => ?_
  rw [ha] at h
  obtain ⟨v, he, hown, hb⟩ := h
  obtain ⟨A, cap, rfl, hI⟩ := IsTk.of_own hown rfl
  refine ⟨A, cap, he, hI, fun a ea => ⟨fresh_own3 hown a ea, fun h0 => ?_⟩, hb⟩
  obtain ⟨_, _, _, b, o, _, e2, e3, _⟩ := hI.at h0
  rw [ea] at e2
  injection e2 with e2
  rw [e2]; exact e3
def ansOf (l : List L19.Tok) : Rs Prog → Ans
  | .ok p _ => (p, 0, 0)
  | .bad c q => (Prog.nil, lineAt l q.length, c)
theorem below_of_gr {n B : Nat} {w0 w w' : World} (h : Below n w0 w) (g : Gr B w w') (hn : n ≤ B) (hs : n ≤ w.heap.size) : Below n w0 w' := by
  refine ⟨g.os.trans h.os, g.tape.trans h.tape, g.output.trans h.output, Nat.le_trans h.size g.size, fun j hj => ?_⟩
  rw [g.block j (by have := h.size; omega) (fun e => by injection e; omega)]
  exact h.block j hj
section
variable {w : World}
set_option maxHeartbeats 8000000 in
theorem Parse_some {s : ByteArray} {ts : List L19.Tok} {n : Nat} (ha : ans s.data.toList = (ts, n, 0)) (hne : ts ≠ []) (hL : Laid w) : Calls Tryz.prog 13 #[.string s] w (PaP (parse s.data.toList) w) := by
  obtain ⟨W2, g2, hW2, hg2, hb2, hl2⟩ := box_new w [.slice none 0 0, .slice none 0 0, .slice none 0 0] 27
  obtain ⟨W3, g3, hW3, hg3, hb3, hl3⟩ := box_new W2 [.int .i64 0] 3
  obtain ⟨W4, g4, hW4, hg4, hb4, hl4⟩ := box_new W3 [.int .i64 0] 28
  have z2 := hl2.size
  have z3 := hl3.size
  have y2 := hb2.lt
  have y3 := hb3.lt
  have y4 := hb4.lt
  have hmf : ∀ (fn : Go.Fn) (first cap : Array Value) (w : World), (Instr.makeFunc fn first cap).run Tryz.prog w = .ok (.func fn first cap) w := fun _ _ _ _ => rfl
  obtain ⟨ni, hni⟩ : ∃ ni : Int, (n : Int) = ni := ⟨_, rfl⟩
  have hl := chain (chain hl2 hl3) hl4
  obtain ⟨len, hlen⟩ : ∃ len, ts.length = len := ⟨_, rfl⟩
  have c1 := Lib.hid (tokens_use2 s ha hlen hni (ei := 0) rfl W4 (hL.below hl))
  have hlok : Lok ts := by
    have hg := good_ans s.data.toList
    have hb := ans_bound s.data.toList
    rw [ha] at hg hb
    exact ⟨hg, hne, hb.1, fun t ht => (hb.2.2.2.1 t ht).1⟩
  have hz4 : W4.heap.size ≤ W4.heap.size := Nat.le_refl _
  have k2 := Lib.hid ((hb2.below hl3).below hl4)
  have k3 := Lib.hid (hb3.below hl4)
  have k4 := Lib.hid hb4
  replace hl := Lib.hid hl
  obtain ⟨r, hr⟩ : ∃ r, prog (fuel (pairs ts)) Prog.nil (pairs ts) = some r := by
    have := tot_prog (fuel (pairs ts)) Prog.nil (pairs ts) hlok.good (Nat.le_refl _)
    cases e : prog (fuel (pairs ts)) Prog.nil (pairs ts) with
    | none => exact absurd e this
    | some r => exact ⟨r, rfl⟩
  have hpa : parse s.data.toList = ansOf ts r := by
    unfold parse parseT
    rw [ha]
    simp only [if_true, hr]
    cases r <;> rfl
  replace hr := Lib.hid hr
  replace hpa := Lib.hid hpa
  replace hlok := Lib.hid hlok
  obtain ⟨Q, hQ⟩ : ∃ Q, PaP (parse s.data.toList) w = Q := ⟨_, rfl⟩
  rw [hQ]
  replace hQ := Lib.hid hQ
  clear hL ha hni hl2 hl3 hl4 hb2 hb3 hb4
  go_enter_defers Tryz.func13, Tryz.ntmps13
  go_wp2_with fail
  refine (c1.out).mono ?_
  rintro e w5 ⟨A, cap, rfl, hI, hA, hb5⟩
  have hs5 := hb5.size
  have m2 := k2.out.below hb5
  have m3 := k3.out.below hb5
  have m4 := k4.out.below hb5
  have q3 := m3.cell 0
  have q4 := m4.cell 0
  simp only [List.getElem?_cons_zero] at q3 q4
  have f3 := m3.frz 0
  have f4 := m4.frz 0
  have hR6 : Res3 g2 g3 g4 ((w5.setCell ⟨g3, 0, none⟩ (.int .i64 ni)).setCell ⟨g4, 0, none⟩ (.int .i64 0)) (.slice none 0 0) (.slice none 0 0) (.slice none 0 0) ni 0 := 
    ⟨Blk.other (Blk.other m2 (by omega) _) (by omega) _, Blk.other (m3.set 0 _) (by omega) _, (Blk.other m4 (by omega) _).set 0 _⟩
  have hB6 : Below w.heap.size w ((w5.setCell ⟨g3, 0, none⟩ (.int .i64 ni)).setCell ⟨g4, 0, none⟩ (.int .i64 0)) := ((chain hl.out hb5).setCell (p := ⟨g3, 0, none⟩) (by show w.heap.size ≤ g3; omega) _).setCell (p := ⟨g4, 0, none⟩) (by show w.heap.size ≤ g4; omega) _
  have r4 := hR6.c.cell 0
  simp only [List.getElem?_cons_zero] at r4
  replace hR6 := Lib.hid hR6
  replace hB6 := Lib.hid hB6
  replace hI := Lib.hid hI
  replace hA := Lib.hid hA
  clear hb5 m2 m3 m4 k2 k3 k4 c1 hl
  go_wp2_with fail
  obtain ⟨U, hU⟩ : ∃ U, ((w5.setCell ⟨g3, 0, none⟩ (.int .i64 ni)).setCell ⟨g4, 0, none⟩ (.int .i64 0)) = U := ⟨_, rfl⟩
  have hUs : w5.heap.size = U.heap.size := by rw [← hU]; simp
  have hl0 : 0 < len := by
    have := hlok.out.ne
    rw [← hlen]
    exact List.length_pos_iff.2 this
  have hIU : IsTk U A len cap ts := by
    have h := hI.out
    refine ⟨h.len, h.le, h.capm, h.nil, fun j hj => ?_⟩
    obtain ⟨b, o', e, e1, e2⟩ := h.rd j hj
    have := (hA.out _ e).1
    have : W4.heap.size ≤ b := this
    rw [← hU]
    exact ⟨b, o', e, by simpa using e1, (World.cell?_setCell_other _ _ _ _ (fun x => by injection x with x; omega)).trans ((World.cell?_setCell_other _ _ _ _ (fun x => by injection x with x; omega)).trans e2)⟩
  have hAU : ∀ a, A = some a → a.block < U.heap.size := fun a ea => by rw [← hUs]; exact (hA.out a ea).2 hl0
  rw [hU, hUs]
  rw [hU] at hR6 hB6
  clear hU r4 q3 q4 f3 f4 hI hA
  obtain ⟨W7, B, hW7, hB7, hb7, hl7⟩ := box_new U [.slice A len cap, .int .i64 0, .int .i64 0] 63
  have hW7' : U.alloc (.cells #[.slice A len cap, .int .i64 0, .int .i64 0] 63) = W7 := hW7
  rw [hW7', hB7]
  have hRd : RdS W7.heap.size B ts 0 0 W7 := ⟨⟨A, len, cap, hb7, hIU.below hl7, fun a ea => ⟨by have := hAU a ea; omega, by have := hAU a ea; have := hl7.size; omega⟩⟩, hb7.lt, Nat.le_refl _, hlok.out, Nat.zero_le _, Nat.zero_le _⟩
  have hR7 := hR6.out.below hl7
  have hB7' := chain hB6.out hl7
  have hwB : w.heap.size ≤ B := by have := hB6.out.size; omega
  have hg2B : g2 ≠ B := by omega
  have hg3B : g3 ≠ B := by omega
  have hg4B : g4 ≠ B := by omega
  refine (program_any hRd hr.out).mono ?_
  rintro e w8 (⟨p, k, v, hrr, rfl, hv, hs8, hgr⟩ | ⟨c, q, hrr, rfl, hgr⟩)
  · obtain ⟨V, A', E, lv, cv, la, ca, lf, ce, rfl, v1, v2, v3, hpm⟩ := hv
    have hR8 : Res3 g2 g3 g4 w8 (.slice none 0 0) (.slice none 0 0) (.slice none 0 0) ni 0 := ⟨hgr.blk hR7.a hg2B, hgr.blk hR7.b hg3B, hgr.blk hR7.c hg4B⟩
    have hB8 := below_of_gr hB7' hgr hwB (by have := hB7'.size; omega)
    obtain ⟨l1, l2, l3, l4, l5⟩ := res3_read hR8
    obtain ⟨_, _, _, f1, f2, f3⟩ := pg_box hR8.a
    have f4 := hR8.b.frz 0
    have f5 := hR8.c.frz 0
    have hw7 : w.heap.size ≤ W7.heap.size := hB7'.size
    have hlt : g2 < W7.heap.size ∧ g3 < W7.heap.size ∧ g4 < W7.heap.size := ⟨hR7.a.lt, hR7.b.lt, hR7.c.lt⟩
    have fin : ∀ W, Kept (fun b => W7.heap.size ≤ b) w8 W → Below w.heap.size w W → Q (.returned (.tuple #[.agg #[.slice V lv cv, .slice A' la ca, .slice E lf ce], .int .i64 0, .int .i64 0])) W := fun W hW hWw => by
      rw [← hQ.out, hpa.out, hrr]
      exact ⟨V, A', E, lv, cv, la, ca, lf, ce, rfl, v1, v2, v3, (hpm.keep hW).mono fun b _ hb => by omega, hWw⟩
    replace fin := Lib.hid fin
    replace hR8 := Lib.hid hR8
    replace hB8 := Lib.hid hB8
    clear hR7 hR6 hB6 hB7' hRd hpm hgr hs8 hb7 hl7 hIU hAU hW7
    go_wp2_with fail
    obtain ⟨W9, hW9⟩ : ∃ W, (((((w8.setCell ⟨g2, 0, none⟩ (.slice V lv cv)).setCell ⟨g2, 1, none⟩ (.slice A' la ca)).setCell ⟨g2, 2, none⟩ (.slice E lf ce)).setCell ⟨g3, 0, none⟩ (.int .i64 0)).setCell ⟨g4, 0, none⟩ (.int .i64 0)) = W := ⟨_, rfl⟩
    obtain ⟨hR9, hB9, hK9⟩ : Res3 g2 g3 g4 W9 (.slice V lv cv) (.slice A' la ca) (.slice E lf ce) 0 0 ∧ Below w.heap.size w W9 ∧ Kept (fun b => W7.heap.size ≤ b) w8 W9 := by
      have h := hR8.out
      rw [← hW9]
      refine ⟨⟨Blk.other (Blk.other (((h.a.set 0 _).set 1 _).set 2 _) (by omega) _) (by omega) _, Blk.other ((Blk.other (Blk.other (Blk.other h.b (by omega) _) (by omega) _) (by omega) _).set 0 _) (by omega) _, (Blk.other (Blk.other (Blk.other (Blk.other h.c (by omega) _) (by omega) _) (by omega) _) (by omega) _).set 0 _⟩,
        ((((hB8.out.setCell (p := ⟨g2, 0, none⟩) (by show w.heap.size ≤ g2; omega) _).setCell (p := ⟨g2, 1, none⟩) (by show w.heap.size ≤ g2; omega) _).setCell (p := ⟨g2, 2, none⟩) (by show w.heap.size ≤ g2; omega) _).setCell (p := ⟨g3, 0, none⟩) (by show w.heap.size ≤ g3; omega) _).setCell (p := ⟨g4, 0, none⟩) (by show w.heap.size ≤ g4; omega) _, ?_⟩
      exact ((((Kept.set w8 (by show ¬ W7.heap.size ≤ g2; omega) _).trans (Kept.set _ (by show ¬ W7.heap.size ≤ g2; omega) _)).trans (Kept.set _ (by show ¬ W7.heap.size ≤ g2; omega) _)).trans (Kept.set _ (by show ¬ W7.heap.size ≤ g3; omega) _)).trans (Kept.set _ (by show ¬ W7.heap.size ≤ g4; omega) _)
    rw [hW9]
    clear l1 l2 l3 l4 l5 f1 f2 f3 f4 f5
    refine leaves_cons (f := 28) (args := #[.pointer (some ⟨g2, 0, none⟩), .pointer (some ⟨g3, 0, none⟩), .pointer (some ⟨g4, 0, none⟩)]) (by simp) (by simp [go_sem]) ?_
    refine (catch_idle g2 g3 g4 _).mono ?_
    rintro e u' w' ⟨rfl, rfl, rfl⟩
    obtain ⟨l1, l2, l3, l4, l5⟩ := res3_read (hR9.below (boxed W9 (.cells #[.int .i64 0, .int .i64 0] 60)))
    simp [Leaves, settle, results, Tryz.results13, go_sem, l1, l2, l3, l4, l5]
    exact fin.out _ (hK9.trans (Kept.of_below (boxed W9 _))) (chain hB9 (boxed W9 _))
  · have hR8 : Res3 g2 g3 g4 w8 (.slice none 0 0) (.slice none 0 0) (.slice none 0 0) ni 0 := ⟨hgr.blk hR7.a hg2B, hgr.blk hR7.b hg3B, hgr.blk hR7.c hg4B⟩
    have hB8 := below_of_gr hB7' hgr hwB (by have := hB7'.size; omega)
    have fin : ∀ W, Below w.heap.size w W → Q (.returned (.tuple #[.agg #[.slice none 0 0, .slice none 0 0, .slice none 0 0], .int .i64 ((lnAt ts q : Nat) : Int), .int .i64 ((c : Nat) : Int)])) W := fun W hWw => by
      rw [← hQ.out, hpa.out, hrr]
      exact ⟨none, none, none, 0, 0, 0, 0, 0, 0, rfl, rfl, rfl, rfl, PgM.nil W _, hWw⟩
    replace fin := Lib.hid fin
    clear hR7 hR6 hB6 hB7' hRd hgr hb7 hl7 hIU hAU hW7
    refine leaves_cons (f := 28) (args := #[.pointer (some ⟨g2, 0, none⟩), .pointer (some ⟨g3, 0, none⟩), .pointer (some ⟨g4, 0, none⟩)]) (by simp) (by simp [go_sem]) ?_
    refine (catch_fail hR8 (by omega) (by omega) (by omega) (lnAt ts q) c []).mono ?_
    rintro e u' w' ⟨rfl, rfl, hR9, hB9⟩
    obtain ⟨l1, l2, l3, l4, l5⟩ := res3_read hR9
    simp [Leaves, settle, results, Tryz.results13, go_sem, l1, l2, l3, l4, l5]
    exact fin.out _ (by
      have h := hB9 w.heap.size (by omega) (by omega) (by omega) hB8.size
      exact ⟨h.os.trans hB8.os, h.tape.trans hB8.tape, h.output.trans hB8.output, Nat.le_trans hB8.size h.size, fun j hj => (h.block j hj).trans (hB8.block j hj)⟩)
set_option maxHeartbeats 8000000 in
theorem Parse_nil {s : ByteArray} {ts : List L19.Tok} {n : Nat} (ha : ans s.data.toList = ([], n, 0)) (hL : Laid w) : Calls Tryz.prog 13 #[.string s] w (PaP (parse s.data.toList) w) := by
  obtain ⟨W2, g2, hW2, hg2, hb2, hl2⟩ := box_new w [.slice none 0 0, .slice none 0 0, .slice none 0 0] 27
  obtain ⟨W3, g3, hW3, hg3, hb3, hl3⟩ := box_new W2 [.int .i64 0] 3
  obtain ⟨W4, g4, hW4, hg4, hb4, hl4⟩ := box_new W3 [.int .i64 0] 28
  have z2 := hl2.size
  have z3 := hl3.size
  have y2 := hb2.lt
  have y3 := hb3.lt
  have y4 := hb4.lt
  have hmf : ∀ (fn : Go.Fn) (first cap : Array Value) (w : World), (Instr.makeFunc fn first cap).run Tryz.prog w = .ok (.func fn first cap) w := fun _ _ _ _ => rfl
  obtain ⟨ni, hni⟩ : ∃ ni : Int, (n : Int) = ni := ⟨_, rfl⟩
  have hl := chain (chain hl2 hl3) hl4
  have c1 := Lib.hid (tokens_use2 s ha (len := 0) rfl hni (ei := 0) rfl W4 (hL.below hl))
  have hz4 : W4.heap.size ≤ W4.heap.size := Nat.le_refl _
  have k2 := Lib.hid ((hb2.below hl3).below hl4)
  have k3 := Lib.hid (hb3.below hl4)
  have k4 := Lib.hid hb4
  replace hl := Lib.hid hl
  have hpa : parse s.data.toList = (Prog.nil, 0, 0) := by
    unfold parse parseT
    rw [ha]
    simp [pairs, fuel, prog]
  replace hpa := Lib.hid hpa
  obtain ⟨Q, hQ⟩ : ∃ Q, PaP (parse s.data.toList) w = Q := ⟨_, rfl⟩
  rw [hQ]
  replace hQ := Lib.hid hQ
  clear hL ha hni hl2 hl3 hl4 hb2 hb3 hb4
  go_enter_defers Tryz.func13, Tryz.ntmps13
  go_wp2_with fail
  refine (c1.out).mono ?_
  rintro e w5 ⟨A, cap, rfl, hI, hA, hb5⟩
  have hs5 := hb5.size
  have m2 := k2.out.below hb5
  have m3 := k3.out.below hb5
  have m4 := k4.out.below hb5
  have q3 := m3.cell 0
  have q4 := m4.cell 0
  simp only [List.getElem?_cons_zero] at q3 q4
  have f3 := m3.frz 0
  have f4 := m4.frz 0
  have hR6 : Res3 g2 g3 g4 ((w5.setCell ⟨g3, 0, none⟩ (.int .i64 ni)).setCell ⟨g4, 0, none⟩ (.int .i64 0)) (.slice none 0 0) (.slice none 0 0) (.slice none 0 0) ni 0 := 
    ⟨Blk.other (Blk.other m2 (by omega) _) (by omega) _, Blk.other (m3.set 0 _) (by omega) _, (Blk.other m4 (by omega) _).set 0 _⟩
  have hB6 : Below w.heap.size w ((w5.setCell ⟨g3, 0, none⟩ (.int .i64 ni)).setCell ⟨g4, 0, none⟩ (.int .i64 0)) := ((chain hl.out hb5).setCell (p := ⟨g3, 0, none⟩) (by show w.heap.size ≤ g3; omega) _).setCell (p := ⟨g4, 0, none⟩) (by show w.heap.size ≤ g4; omega) _
  have r4 := hR6.c.cell 0
  simp only [List.getElem?_cons_zero] at r4
  replace hR6 := Lib.hid hR6
  replace hB6 := Lib.hid hB6
  clear hb5 m2 m3 m4 k2 k3 k4 c1 hl
  go_wp2_with fail
  obtain ⟨U, hU⟩ : ∃ U, ((w5.setCell ⟨g3, 0, none⟩ (.int .i64 ni)).setCell ⟨g4, 0, none⟩ (.int .i64 0)) = U := ⟨_, rfl⟩
  have hUs : w5.heap.size = U.heap.size := by rw [← hU]; simp
  rw [hU, hUs]
  rw [hU] at hR6 hB6
  clear hU r4 q3 q4 f3 f4 hI hA
  obtain ⟨W7, B, hW7, hB7, hb7, hl7⟩ := box_new U [.slice A 0 cap, .int .i64 0, .int .i64 0] 63
  have hW7' : U.alloc (.cells #[.slice A 0 cap, .int .i64 0, .int .i64 0] 63) = W7 := hW7
  rw [hW7', hB7]
  have hR7 := hR6.out.below hl7
  have hB7' := chain hB6.out hl7
  have hwB : w.heap.size ≤ B := by have := hB6.out.size; omega
  have hg2B : g2 ≠ B := by omega
  have hg3B : g3 ≠ B := by omega
  have hg4B : g4 ≠ B := by omega
  refine (program_nil hb7).mono ?_
  rintro e w8 ⟨rfl, hk8⟩
  have hR8 := hR7.below hk8
  have hB8 := chain hB7' hk8
  obtain ⟨l1, l2, l3, l4, l5⟩ := res3_read hR8
  obtain ⟨_, _, _, f1, f2, f3⟩ := pg_box hR8.a
  have f4 := hR8.b.frz 0
  have f5 := hR8.c.frz 0
  have fin : ∀ W, Below w.heap.size w W → Q (.returned (.tuple #[.agg #[.slice none 0 0, .slice none 0 0, .slice none 0 0], .int .i64 0, .int .i64 0])) W := fun W hWw => by
    rw [← hQ.out, hpa.out]
    exact ⟨none, none, none, 0, 0, 0, 0, 0, 0, rfl, rfl, rfl, rfl, PgM.nil W _, hWw⟩
  replace fin := Lib.hid fin
  replace hR8 := Lib.hid hR8
  replace hB8 := Lib.hid hB8
  clear hR7 hR6 hB6 hB7' hk8 hb7 hl7 hW7
  go_wp2_with fail
  obtain ⟨W9, hW9⟩ : ∃ W, (((((w8.setCell ⟨g2, 0, none⟩ (.slice none 0 0)).setCell ⟨g2, 1, none⟩ (.slice none 0 0)).setCell ⟨g2, 2, none⟩ (.slice none 0 0)).setCell ⟨g3, 0, none⟩ (.int .i64 0)).setCell ⟨g4, 0, none⟩ (.int .i64 0)) = W := ⟨_, rfl⟩
  obtain ⟨hR9, hB9⟩ : Res3 g2 g3 g4 W9 (.slice none 0 0) (.slice none 0 0) (.slice none 0 0) 0 0 ∧ Below w.heap.size w W9 := by
    have h := hR8.out
    rw [← hW9]
    exact ⟨⟨Blk.other (Blk.other (((h.a.set 0 _).set 1 _).set 2 _) (by omega) _) (by omega) _, Blk.other ((Blk.other (Blk.other (Blk.other h.b (by omega) _) (by omega) _) (by omega) _).set 0 _) (by omega) _, (Blk.other (Blk.other (Blk.other (Blk.other h.c (by omega) _) (by omega) _) (by omega) _) (by omega) _).set 0 _⟩,
      ((((hB8.out.setCell (p := ⟨g2, 0, none⟩) (by show w.heap.size ≤ g2; omega) _).setCell (p := ⟨g2, 1, none⟩) (by show w.heap.size ≤ g2; omega) _).setCell (p := ⟨g2, 2, none⟩) (by show w.heap.size ≤ g2; omega) _).setCell (p := ⟨g3, 0, none⟩) (by show w.heap.size ≤ g3; omega) _).setCell (p := ⟨g4, 0, none⟩) (by show w.heap.size ≤ g4; omega) _⟩
  rw [hW9]
  clear l1 l2 l3 l4 l5 f1 f2 f3 f4 f5
  refine leaves_cons (f := 28) (args := #[.pointer (some ⟨g2, 0, none⟩), .pointer (some ⟨g3, 0, none⟩), .pointer (some ⟨g4, 0, none⟩)]) (by simp) (by simp [go_sem]) ?_
  refine (catch_idle g2 g3 g4 _).mono ?_
  rintro e u' w' ⟨rfl, rfl, rfl⟩
  obtain ⟨l1, l2, l3, l4, l5⟩ := res3_read (hR9.below (boxed W9 (.cells #[.int .i64 0, .int .i64 0] 60)))
  simp [Leaves, settle, results, Tryz.results13, go_sem, l1, l2, l3, l4, l5]
  exact fin.out _ (chain hB9 (boxed W9 _))
end
end Go.Proofs.YtpbcncfbfbghcaaGreatDoor.L20
