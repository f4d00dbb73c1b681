/- A layout and a position as arguments: what the reading says of them, and back. -/
import Derived.Test.YtcfoclmkhippoaaL16Mem
import Derived.OpenShut
import Derived.WalkKit
import Derived.ProofKit
import Derived.ChangeSame
import Derived.DataShut
namespace Go.Proofs.Ytcfoclmkhippoaa.L16
set_option maxRecDepth 100000
open Go.RowKit Mem Go.ChangeShapes Go.WideShapes Go.ChangeAt
set_option linter.unusedVariables false
set_option linter.unusedSimpArgs false

theorem cells_int : Try.prog.cellsOf 3 = 1 := by kernel_rfl
theorem cells_ly : Try.prog.cellsOf 23 = 2 := by kernel_rfl
theorem cells_ps : Try.prog.cellsOf 25 = 3 := by kernel_rfl
section
variable {H : Type} {enc : TypeId × Value → H} {w : World} {base : Nat} {spare : Nat → Bool} {held : Bool} {r : Reach} {b0 : Nat}
def lyD (D S : Int) : DataW H := .agg [.lit (.int .i64 D), .lit (.int .i64 S)]
def psD (s r o : Int) : DataW H := .agg [.lit (.int .i64 s), .lit (.int .i64 r), .lit (.int .i64 o)]
theorem open_layout {v : Value} {d : DataW H} {ps : List MemPlace} (hval : Value.okWide Try.prog w r b0 23 v) (hd : DataW.Trod enc Try.prog w base spare held 23 v d ps) :
    ∃ D S : Int, (Lit.int .i64 D).wf = true ∧ (Lit.int .i64 S).wf = true ∧ v = lyV D S ∧ d = lyD D S ∧ ps = [] := by
  unfold Value.okWide at hval
  rw [Try.underlying23] at hval
  obtain ⟨cs, rfl, hsz, _⟩ := hval
  rw [cells_ly] at hsz
  obtain ⟨fuel, hf⟩ := hd
  rw [show (Value.agg cs).cells.toList = cs.toList from rfl] at hf
  have hl : cs.toList.length = 2 := by simpa using hsz
  match hc : cs.toList, hl with
  | [c0, c1], _ =>
    rw [hc] at hf
    obtain ⟨z0, z1, n, hx, _, e0, e1⟩ := trod_struct2 Try.underlying23 hf
    have e0 : DataW.trod enc Try.prog w base spare held n 3 (([c0, c1].drop 0).take (Try.prog.cellsOf 3)) = some z0 := e0
    have e1 : DataW.trod enc Try.prog w base spare held n 3 (([c0, c1].drop 1).take (Try.prog.cellsOf 3)) = some z1 := e1
    simp only [cells_int, List.drop_zero, List.drop_succ_cons, List.take_succ_cons, List.take_zero] at e0 e1
    obtain ⟨m0, h0, rfl, w0⟩ := DataW.trod_int Try.underlying3 e0
    obtain ⟨m1, h1, rfl, w1⟩ := DataW.trod_int Try.underlying3 e1
    injection h0 with h0 _
    injection h1 with h1 _
    subst h0 h1
    injection hx with h3 h4
    refine ⟨m0, m1, w0, w1, ?_, h3, h4⟩
    unfold lyV
    congr 1
    exact Array.toList_inj.1 hc
theorem shut_layout {D S : Int} (h0 : (Lit.int .i64 D).wf = true) (h1 : (Lit.int .i64 S).wf = true) : DataW.Trod enc Try.prog w base spare held 23 (lyV D S) (lyD D S) [] := by
  refine ⟨2, ?_⟩
  rw [show (lyV D S).cells.toList = [.int .i64 D, .int .i64 S] from rfl]
  have hi := fun (k : Int) (hw : (Lit.int .i64 k).wf = true) => trod_int_mk (enc := enc) (P := Try.prog) (w := w) (base := base) (spare := spare) (held := held) 0 Try.underlying3 hw
  have := trod_struct2_mk (enc := enc) (w := w) (base := base) (spare := spare) (held := held) (n := 1) (cs := [.int .i64 D, .int .i64 S]) (y0 := (.lit (.int .i64 D), [])) (y1 := (.lit (.int .i64 S), [])) Try.underlying23 (by rw [cells_ly]; rfl)
    (by rw [cells_int]; exact hi _ h0) (by rw [cells_int]; exact hi _ h1)
  exact this
theorem open_position {v : Value} {d : DataW H} {ps : List MemPlace} (hval : Value.okWide Try.prog w r b0 25 v) (hd : DataW.Trod enc Try.prog w base spare held 25 v d ps) :
    ∃ s r o : Int, (Lit.int .i64 s).wf = true ∧ (Lit.int .i64 r).wf = true ∧ (Lit.int .i64 o).wf = true ∧ v = psV s r o ∧ d = psD s r o ∧ ps = [] := by
  unfold Value.okWide at hval
  rw [Try.underlying25] at hval
  obtain ⟨cs, rfl, hsz, _⟩ := hval
  rw [cells_ps] at hsz
  obtain ⟨fuel, hf⟩ := hd
  rw [show (Value.agg cs).cells.toList = cs.toList from rfl] at hf
  have hl : cs.toList.length = 3 := by simpa using hsz
  match hc : cs.toList, hl with
  | [c0, c1, c2], _ =>
    rw [hc] at hf
    obtain ⟨xs, n, _, hx, _, hlen, hel⟩ := DataW.trod_struct Try.underlying25 hf
    injection hx with h3 h4
    match xs, hlen with
    | [z0, z1, z2], _ =>
      have e0 : DataW.trod enc Try.prog w base spare held n 3 (([c0, c1, c2].drop 0).take (Try.prog.cellsOf 3)) = some z0 := hel 0 _ rfl
      have e1 : DataW.trod enc Try.prog w base spare held n 3 (([c0, c1, c2].drop 1).take (Try.prog.cellsOf 3)) = some z1 := hel 1 _ rfl
      have e2 : DataW.trod enc Try.prog w base spare held n 3 (([c0, c1, c2].drop 2).take (Try.prog.cellsOf 3)) = some z2 := hel 2 _ rfl
      simp only [cells_int, List.drop_zero, List.drop_succ_cons, List.take_succ_cons, List.take_zero] at e0 e1 e2
      obtain ⟨m0, h0, rfl, w0⟩ := DataW.trod_int Try.underlying3 e0
      obtain ⟨m1, h1, rfl, w1⟩ := DataW.trod_int Try.underlying3 e1
      obtain ⟨m2, h2, rfl, w2⟩ := DataW.trod_int Try.underlying3 e2
      injection h0 with h0 _
      injection h1 with h1 _
      injection h2 with h2 _
      subst h0 h1 h2
      refine ⟨m0, m1, m2, w0, w1, w2, ?_, h3, h4⟩
      unfold psV
      congr 1
      exact Array.toList_inj.1 hc
theorem shut_position {s r o : Int} (h0 : (Lit.int .i64 s).wf = true) (h1 : (Lit.int .i64 r).wf = true) (h2 : (Lit.int .i64 o).wf = true) : DataW.Trod enc Try.prog w base spare held 25 (psV s r o) (psD s r o) [] := by
  refine ⟨2, ?_⟩
  rw [show (psV s r o).cells.toList = [.int .i64 s, .int .i64 r, .int .i64 o] from rfl]
  have hi := fun (k : Int) (hw : (Lit.int .i64 k).wf = true) => trod_int_mk (enc := enc) (P := Try.prog) (w := w) (base := base) (spare := spare) (held := held) 0 Try.underlying3 hw
  have := trod_struct_mk (enc := enc) (w := w) (base := base) (spare := spare) (held := held) (n := 1) (cs := [.int .i64 s, .int .i64 r, .int .i64 o])
    (xs := [(.lit (.int .i64 s), []), (.lit (.int .i64 r), []), (.lit (.int .i64 o), [])])
    Try.underlying25 (by rw [cells_ps]; rfl) (by simp [cells_int, hi _ h0, hi _ h1, hi _ h2])
  exact this
end
end Go.Proofs.Ytcfoclmkhippoaa.L16
