/- The contract of the landed Parse, whole (layer 20). -/
import Derived.Test.YtpbcncfbfbghcaaGreatDoorP20N
namespace Go.Proofs.YtpbcncfbfbghcaaGreatDoor.L20
set_option maxRecDepth 100000
open Go.RowKit Mem L19
open M17 (Laid Laid.below)
set_option linter.unusedVariables false
set_option linter.unusedSimpArgs false

section
variable {w : World}
set_option maxHeartbeats 8000000 in
theorem Parse_bad {s : ByteArray} {n e0 : Nat} (ha : ans s.data.toList = ([], n, e0)) (he0 : e0 ≠ 0) (hL : Laid w) : Calls Tryz.prog 13 #[.string s] w (PaP (Prog.nil, n, e0) w) := by
  obtain ⟨W2, g2, hW2, hg2, hb2, hl2⟩ := box_new w [.slice none 0 0, .slice none 0 0, .slice none 0 0] 27
  obtain ⟨W3, g3, hW3, hg3, hb3, hl3⟩ := box_new W2 [.int .i64 0] 3
  obtain ⟨W4, g4, hW4, hg4, hb4, hl4⟩ := box_new W3 [.int .i64 0] 28
  have z2 := hl2.size
  have z3 := hl3.size
  have y2 := hb2.lt
  have y3 := hb3.lt
  have hmf : ∀ (fn : Go.Fn) (first cap : Array Value) (w : World), (Instr.makeFunc fn first cap).run Tryz.prog w = .ok (.func fn first cap) w := fun _ _ _ _ => rfl
  obtain ⟨ni, hni⟩ : ∃ ni : Int, (n : Int) = ni := ⟨_, rfl⟩
  obtain ⟨ei, hei⟩ : ∃ ei : Int, (e0 : Int) = ei := ⟨_, rfl⟩
  have t1 : (ei != 0) = true := by rw [bne_iff_ne]; omega
  have hl := chain (chain hl2 hl3) hl4
  have c1 := Lib.hid (tokens_use s ha (len := 0) rfl hni hei W4 (hL.below hl))
  have k2 := Lib.hid ((hb2.below hl3).below hl4)
  have k3 := Lib.hid (hb3.below hl4)
  have k4 := Lib.hid hb4
  replace hl := Lib.hid hl
  obtain ⟨Q, hQ⟩ : ∃ Q, PaP (Prog.nil, n, e0) w = Q := ⟨_, rfl⟩
  have fin : ∀ W', Below w.heap.size w W' → Q (.returned (.tuple #[.agg #[.slice none 0 0, .slice none 0 0, .slice none 0 0], .int .i64 ni, .int .i64 ei])) W' := fun W' hW => by
    rw [← hQ, ← hni, ← hei]
    exact ⟨none, none, none, 0, 0, 0, 0, 0, 0, rfl, rfl, rfl, rfl, PgM.nil W' _, hW⟩
  rw [hQ]
  replace fin := Lib.hid fin
  clear hL ha hni hei hl2 hl3 hl4 hb2 hb3 hb4 hQ
  go_enter_defers Tryz.func13, Tryz.ntmps13
  go_wp2_with fail
  refine (c1.out).mono ?_
  rintro e w5 ⟨A, cap, rfl, hI, hb5⟩
  have m2 := k2.out.below hb5
  have m3 := k3.out.below hb5
  have m4 := k4.out.below hb5
  have q3 := m3.cell 0
  have q4 := m4.cell 0
  simp only [List.getElem?_cons_zero] at q3 q4
  have f3 := m3.frz 0
  have f4 := m4.frz 0
  obtain ⟨W6, hW6⟩ : ∃ W, (w5.setCell ⟨g3, 0, none⟩ (.int .i64 ni)).setCell ⟨g4, 0, none⟩ (.int .i64 ei) = W := ⟨_, rfl⟩
  have hR6 : Res3 g2 g3 g4 W6 (.slice none 0 0) (.slice none 0 0) (.slice none 0 0) ni ei := by
    rw [← hW6]
    exact ⟨Blk.other (Blk.other m2 (by omega) _) (by omega) _, Blk.other (m3.set 0 _) (by omega) _, (Blk.other m4 (by omega) _).set 0 _⟩
  have hB6 : Below w.heap.size w W6 := by rw [← hW6]; exact ((chain hl.out hb5).setCell (p := ⟨g3, 0, none⟩) (by show w.heap.size ≤ g3; omega) _).setCell (p := ⟨g4, 0, none⟩) (by show w.heap.size ≤ g4; omega) _
  have r3 := hR6.b.cell 0
  have r4 := hR6.c.cell 0
  simp only [List.getElem?_cons_zero] at r3 r4
  obtain ⟨p0, p1, p2, e0', e1', e2'⟩ := pg_box hR6.a
  have f3' := hR6.b.frz 0
  have f4' := hR6.c.frz 0
  replace hR6 := Lib.hid hR6
  replace hB6 := Lib.hid hB6
  clear hI hb5 m2 m3 m4 k2 k3 k4 c1 hl
  go_wp2_with fail
  go_region
  obtain ⟨Wx, hWx⟩ : ∃ W, (((((W6.setCell ⟨g2, 0, none⟩ (.slice none 0 0)).setCell ⟨g2, 1, none⟩ (.slice none 0 0)).setCell ⟨g2, 2, none⟩ (.slice none 0 0)).setCell ⟨g3, 0, none⟩ (.int .i64 ni)).setCell ⟨g4, 0, none⟩ (.int .i64 ei)).drew = W := ⟨_, rfl⟩
  obtain ⟨hR, hB⟩ : Res3 g2 g3 g4 Wx (.slice none 0 0) (.slice none 0 0) (.slice none 0 0) ni ei ∧ Below w.heap.size w Wx := by
    have h := hR6.out
    rw [← hWx]
    exact ⟨⟨Blk.other (Blk.other (((h.a.set 0 _).set 1 _).set 2 _) (by omega) _) (by omega) _, Blk.other ((Blk.other (Blk.other (Blk.other h.b (by omega) _) (by omega) _) (by omega) _).set 0 _) (by omega) _, (Blk.other (Blk.other (Blk.other (Blk.other h.c (by omega) _) (by omega) _) (by omega) _) (by omega) _).set 0 _⟩,
      below_drewB (((((hB6.out.setCell (p := ⟨g2, 0, none⟩) (by show w.heap.size ≤ g2; omega) _).setCell (p := ⟨g2, 1, none⟩) (by show w.heap.size ≤ g2; omega) _).setCell (p := ⟨g2, 2, none⟩) (by show w.heap.size ≤ g2; omega) _).setCell (p := ⟨g3, 0, none⟩) (by show w.heap.size ≤ g3; omega) _).setCell (p := ⟨g4, 0, none⟩) (by show w.heap.size ≤ g4; omega) _)⟩
  rw [hWx]
  go_wp2_with fail
  refine leaves_cons (f := 28) (args := #[.pointer (some ⟨g2, 0, none⟩), .pointer (some ⟨g3, 0, none⟩), .pointer (some ⟨g4, 0, none⟩)]) (by simp) (by simp [go_sem]) ?_
  refine (catch_idle g2 g3 g4 _).mono ?_
  rintro e u' w' ⟨rfl, rfl, rfl⟩
  obtain ⟨l1, l2, l3, l4, l5⟩ := res3_read (hR.below (boxed Wx (.cells #[.int .i64 0, .int .i64 0] 60)))
  simp [Leaves, settle, results, Tryz.results13, go_sem, l1, l2, l3, l4, l5]
  exact fin.out _ (chain hB (boxed Wx _))
end
end Go.Proofs.YtpbcncfbfbghcaaGreatDoor.L20
