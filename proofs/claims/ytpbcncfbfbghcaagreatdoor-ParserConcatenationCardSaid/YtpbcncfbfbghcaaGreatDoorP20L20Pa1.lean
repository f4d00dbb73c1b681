/- The landed closure that recovers (layer 20). -/
import Derived.Test.YtpbcncfbfbghcaaGreatDoorP20M
import Derived.Recover
namespace Go.Proofs.YtpbcncfbfbghcaaGreatDoor.L20
set_option maxRecDepth 100000
open Go.RowKit Mem L19
set_option linter.unusedVariables false
set_option linter.unusedSimpArgs false

theorem ta_hit (v : Value) (w : World) : (Instr.typeAssert (.iface 60 v) 20 60 true).run Tryz.prog w = .ok (.tuple #[v, .bool true]) w := by
  unfold Instr.typeAssert
  simp [run_underlying Tryz.underlying60, Result.andThen]
theorem ta_nil (w : World) : (Instr.typeAssert .nilIface 20 60 true).run Tryz.prog w = .ok (.tuple #[.agg #[.int .i64 0, .int .i64 0], .bool false]) w := by
  have hi : ∃ i, Tryz.prog.info? 60 = some i ∧ i.zero = some (.agg #[.int .i64 0, .int .i64 0]) := ⟨_, rfl, by kernel_rfl⟩
  obtain ⟨i, hi, hz⟩ := hi
  have hzv : (zeroValue 60).run Tryz.prog w = .ok (.agg #[.int .i64 0, .int .i64 0]) w := by unfold zeroValue; simp only [Sem.run_bind, run_typeInfo w hi, hz, Result.andThen]; rfl
  unfold Instr.typeAssert
  simp [run_underlying Tryz.underlying60, hzv, Result.andThen]
/-- The three result boxes of Parse. -/
structure Res3 (g2 g3 g4 : Nat) (w : World) (p0 p1 p2 : Value) (x y : Int) : Prop where
  a : Blk 27 w g2 [p0, p1, p2]
  b : Blk 3 w g3 [.int .i64 x]
  c : Blk 28 w g4 [.int .i64 y]
set_option maxHeartbeats 4000000 in
theorem catch_idle (g2 g3 g4 : Nat) (w : World) :
    CallsD Tryz.prog 28 #[.pointer (some ⟨g2, 0, none⟩), .pointer (some ⟨g3, 0, none⟩), .pointer (some ⟨g4, 0, none⟩)] .returning w fun e u' w' => e = .returned (.tuple #[]) ∧ u' = .returning ∧ w' = w.alloc (.cells #[.int .i64 0, .int .i64 0] 60) := by
  refine callsD_of_wpS Tryz.func28 rfl fun c₀ cs hu => ?_
  have t1 := ta_nil
  apply wpS_seq
  apply wpS_region
  simp only [Tryz.ntmps28, List.size_toArray, List.length_cons, List.length_nil, Nat.reduceAdd, Nat.reduceSub, Array.replicate_succ, Array.replicate_zero, List.push_toArray, List.append_toArray, List.nil_append, List.cons_append]
  simp [wpOpsS, go_sem, recoverD, hu, Exit.thenS, t1]
  apply wpS_seq
  apply wpS_region
  simp [wpOpsS, go_sem, Exit.thenS]
  refine wpS_cond (t := false) (by simp [Act.eval]) ?_
  simp only [Bool.false_eq_true, if_false]
  refine wpS_of_wp (wp_skip ?_)
  cases c₀
  simp_all [bodyPostS, results, Tryz.results28]
set_option maxHeartbeats 8000000 in
theorem catch_fail {g2 g3 g4 : Nat} {w : World} {p0 p1 p2 : Value} {x y : Int} (h : Res3 g2 g3 g4 w p0 p1 p2 x y) (h23 : g2 ≠ g3) (h24 : g2 ≠ g4) (h34 : g3 ≠ g4) (z e : Nat) (older : List PanicEntry) :
    CallsD Tryz.prog 28 #[.pointer (some ⟨g2, 0, none⟩), .pointer (some ⟨g3, 0, none⟩), .pointer (some ⟨g4, 0, none⟩)] (.panicking (fl z e :: older)) w fun en u' w' =>
      en = .returned (.tuple #[]) ∧ u' = .panicking ({ fl z e with recovered := true } :: older) ∧ Res3 g2 g3 g4 w' (.slice none 0 0) (.slice none 0 0) (.slice none 0 0) (z : Int) (e : Int) ∧ (∀ n, n ≤ g2 → n ≤ g3 → n ≤ g4 → n ≤ w.heap.size → Below n w w') := by
  obtain ⟨zi, hzi⟩ : ∃ zi : Int, (z : Int) = zi := ⟨_, rfl⟩
  obtain ⟨ei, hei⟩ : ∃ ei : Int, (e : Int) = ei := ⟨_, rfl⟩
  unfold fl
  rw [hzi, hei]
  clear hzi hei
  obtain ⟨w1, hw1⟩ : ∃ W, w.alloc (.cells #[.int .i64 zi, .int .i64 ei] 60) = W := ⟨_, rfl⟩
  have hbl : Below w.heap.size w w1 := by rw [← hw1]; exact boxed w _
  have hf : Blk 60 w1 w.heap.size [.int .i64 zi, .int .i64 ei] := by rw [← hw1]; exact Blk.new w _ _
  have l2 := h.a.lt
  have l3 := h.b.lt
  have l4 := h.c.lt
  have ha1 := h.a.below hbl
  have hb1 := h.b.below hbl
  have hc1 := h.c.below hbl
  refine callsD_of_wpS Tryz.func28 rfl fun c₀ cs hu => ?_
  have t1 := ta_hit
  have hz0 : ∀ W : World, W.cell? ⟨w.heap.size, 0, none⟩ = W.cell? ⟨w.heap.size, 0, none⟩ := fun _ => rfl
  apply wpS_seq
  apply wpS_region
  simp only [Tryz.ntmps28, List.size_toArray, List.length_cons, List.length_nil, Nat.reduceAdd, Nat.reduceSub, Array.replicate_succ, Array.replicate_zero, List.push_toArray, List.append_toArray, List.nil_append, List.cons_append]
  simp [wpOpsS, go_sem, recoverD, hu, Exit.thenS, t1]
  apply wpS_seq
  apply wpS_region
  simp [wpOpsS, go_sem, Exit.thenS]
  refine wpS_cond (t := true) (by simp [Act.eval]) ?_
  simp only [if_true]
  refine wpS_of_wp ?_
  rw [hw1]
  obtain ⟨w2, hw2⟩ : ∃ W, w1.drew = W := ⟨_, rfl⟩
  have hbl2 : Below w.heap.size w w2 := by rw [← hw2]; exact below_drewB hbl
  have ha2 : Blk 27 w2 g2 [p0, p1, p2] := by rw [← hw2]; exact ha1
  have hb2 : Blk 3 w2 g3 [.int .i64 x] := by rw [← hw2]; exact hb1
  have hc2 : Blk 28 w2 g4 [.int .i64 y] := by rw [← hw2]; exact hc1
  have n2 : w.heap.size ≠ g2 := by omega
  have n3 : w.heap.size ≠ g3 := by omega
  have n4 : w.heap.size ≠ g4 := by omega
  replace hw2 := Lib.hid hw2
  clear ha1 hb1 hc1 hbl t1 hz0
  refine wp_region_held_drew (S := fun W => Blk 60 W w.heap.size [.int .i64 zi, .int .i64 ei]) (by kernel_rfl) hf (fun hHeld => ?_)
  rw [hw2.out] at hHeld ⊢
  refine wpAnyH_take (i := 0) (v := .agg #[.slice none 0 0, .slice none 0 0, .slice none 0 0]) rfl (by kernel_rfl) (by kernel_rfl) (by kernel_rfl) (fun _ _ _ h => h) (Or.inl ⟨by rfl, ?h0⟩) (by assumption) ?r0
  case h0 =>
    intro W hW
    go_simp
  simp only [Act.put, List.setIfInBounds_toArray, List.set_cons_zero, List.set_cons_succ]
  refine wpAnyH_take (i := 1) (v := .pointer (some ⟨w.heap.size, 0, none⟩)) rfl (by kernel_rfl) (by kernel_rfl) (by kernel_rfl) (fun _ _ _ h => h) (Or.inl ⟨by rfl, ?h1⟩) (by assumption) ?r1
  case h1 =>
    intro W hW
    go_simp
  simp only [Act.put, List.setIfInBounds_toArray, List.set_cons_zero, List.set_cons_succ]
  refine wpAnyH_take (i := 2) (v := .int .i64 zi) rfl (by kernel_rfl) (by kernel_rfl) (by kernel_rfl) (fun _ _ _ h => h) (Or.inl ⟨by rfl, ?h2⟩) (by assumption) ?r2
  case h2 =>
    intro W hW
    have q1 := hW.cell 0
    simp only [List.getElem?_cons_zero] at q1
    go_simp
  simp only [Act.put, List.setIfInBounds_toArray, List.set_cons_zero, List.set_cons_succ]
  refine wpAnyH_take (i := 3) (v := .pointer (some ⟨w.heap.size, 1, none⟩)) rfl (by kernel_rfl) (by kernel_rfl) (by kernel_rfl) (fun _ _ _ h => h) (Or.inl ⟨by rfl, ?h3⟩) (by assumption) ?r3
  case h3 =>
    intro W hW
    go_simp
  simp only [Act.put, List.setIfInBounds_toArray, List.set_cons_zero, List.set_cons_succ]
  refine wpAnyH_take (i := 4) (v := .int .i64 ei) rfl (by kernel_rfl) (by kernel_rfl) (by kernel_rfl) (fun _ _ _ h => h) (Or.inl ⟨by rfl, ?h4⟩) (by assumption) ?r4
  case h4 =>
    intro W hW
    have q1 := hW.cell 1
    simp only [List.getElem?_cons_zero, List.getElem?_cons_succ] at q1
    go_simp
  simp only [Act.put, List.setIfInBounds_toArray, List.set_cons_zero, List.set_cons_succ]
  refine wpAnyH_ready (rs := [5]) (by kernel_rfl) (by simp) ?_
  refine AllReadyH.cons rfl (fun K hK => ?_) AllReadyH.nil
  · obtain ⟨x0, x1, x2, f0, f1, f2⟩ := pg_box ha2
    go_simp
    refine Shut.out hK _ _ (Blk.other (Blk.other (Blk.other (by assumption) n2 _) n2 _) n2 _) (fun hHeld => ?_)
    try simp only [Act.put, List.setIfInBounds_toArray, List.set_cons_zero, List.set_cons_succ]
    obtain ⟨w3, hw3⟩ : ∃ W, ((w2.setCell ⟨g2, 0, none⟩ (.slice none 0 0)).setCell ⟨g2, 1, none⟩ (.slice none 0 0)).setCell ⟨g2, 2, none⟩ (.slice none 0 0) = W := ⟨_, rfl⟩
    rw [hw3] at hHeld ⊢
    have ha3 : Blk 27 w3 g2 [.slice none 0 0, .slice none 0 0, .slice none 0 0] := by rw [← hw3]; exact ((ha2.set 0 _).set 1 _).set 2 _
    have hb3 : Blk 3 w3 g3 [.int .i64 x] := by rw [← hw3]; exact Blk.other (Blk.other (Blk.other hb2 h23.symm _) h23.symm _) h23.symm _
    have hc3 : Blk 28 w3 g4 [.int .i64 y] := by rw [← hw3]; exact Blk.other (Blk.other (Blk.other hc2 h24.symm _) h24.symm _) h24.symm _
    have hB3 : ∀ n, n ≤ g2 → n ≤ g3 → n ≤ g4 → n ≤ w.heap.size → Below n w w3 := fun n e2 e3 e4 e5 => by rw [← hw3]; exact (((hbl2.mono e5).setCell (p := ⟨g2, 0, none⟩) e2 _).setCell (p := ⟨g2, 1, none⟩) e2 _).setCell (p := ⟨g2, 2, none⟩) e2 _
    refine wpAnyH_ready (rs := [6]) (by kernel_rfl) (by simp) ?_
    refine AllReadyH.cons rfl (fun K hK => ?_) AllReadyH.nil
    · have q1 := hb3.cell 0
      have q2 := hb3.frz 0
      simp only [List.getElem?_cons_zero] at q1
      go_simp
      refine Shut.out hK _ _ (Blk.other (by assumption) n3 _) (fun hHeld => ?_)
      try simp only [Act.put, List.setIfInBounds_toArray, List.set_cons_zero, List.set_cons_succ]
      obtain ⟨w4, hw4⟩ : ∃ W, w3.setCell ⟨g3, 0, none⟩ (.int .i64 zi) = W := ⟨_, rfl⟩
      rw [hw4] at hHeld ⊢
      have ha4 : Blk 27 w4 g2 [.slice none 0 0, .slice none 0 0, .slice none 0 0] := by rw [← hw4]; exact Blk.other ha3 h23 _
      have hb4 : Blk 3 w4 g3 [.int .i64 zi] := by rw [← hw4]; exact hb3.set 0 _
      have hc4 : Blk 28 w4 g4 [.int .i64 y] := by rw [← hw4]; exact Blk.other hc3 h34.symm _
      have hB4 : ∀ n, n ≤ g2 → n ≤ g3 → n ≤ g4 → n ≤ w.heap.size → Below n w w4 := fun n e2 e3 e4 e5 => by rw [← hw4]; exact (hB3 n e2 e3 e4 e5).setCell (p := ⟨g3, 0, none⟩) e3 _
      refine wpAnyH_ready (rs := [7]) (by kernel_rfl) (by simp) ?_
      refine AllReadyH.cons rfl (fun K hK => ?_) AllReadyH.nil
      · have q3 := hc4.cell 0
        have q4 := hc4.frz 0
        simp only [List.getElem?_cons_zero] at q3
        go_simp
        refine Shut.out hK _ _ (Blk.other (by assumption) n4 _) (fun hHeld => ?_)
        refine wpAnyH_done (by kernel_rfl) ?_ _
        have hR : Res3 g2 g3 g4 (w4.setCell ⟨g4, 0, none⟩ (.int .i64 ei)) (.slice none 0 0) (.slice none 0 0) (.slice none 0 0) zi ei := ⟨Blk.other ha4 h24 _, Blk.other hb4 h34 _, hc4.set 0 _⟩
        have hB5 : ∀ n, n ≤ g2 → n ≤ g3 → n ≤ g4 → n ≤ w.heap.size → Below n w (w4.setCell ⟨g4, 0, none⟩ (.int .i64 ei)) := fun n e2 e3 e4 e5 => (hB4 n e2 e3 e4 e5).setCell (p := ⟨g4, 0, none⟩) e4 _
        cases c₀
        simp only [bodyPostS]
        refine ⟨trivial, _, rfl, .tuple #[], by simp [results, Tryz.results28], rfl, ?_, hR, hB5⟩
        simp_all
end Go.Proofs.YtpbcncfbfbghcaaGreatDoor.L20
