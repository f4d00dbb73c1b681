/- Rows of strings and of shares just made. No function is named here. -/
import Derived.Test.YtcfoclmkhippoaaE15Kg
namespace Go.Proofs.Ytcfoclmkhippoaa.E15
set_option maxRecDepth 100000
open Go.RowKit Mem S14
open Go.Proofs.Ytcfoclmkhippoaa.G5 Go.Proofs.Ytcfoclmkhippoaa.G7
open Go.Proofs.Ytcfoclmkhippoaa.G6 (IsSl rs rs_len rs_get rs_set rs_one rs_snoc make_zeros zeros_at own_zeros info_byte u8s conv_sl)
set_option linter.unusedVariables false
set_option linter.unusedSimpArgs false

theorem info_str : (Try.prog.info? 9).map (fun i => (i.zero, i.size, i.bytes)) = some (some (.string ⟨#[]⟩), 1, 16) := by kernel_rfl
theorem info_share : (Try.prog.info? 46).map (fun i => (i.zero, i.size, i.bytes)) = some (some (.agg #[.int .i64 0, .string ⟨#[]⟩]), 2, 24) := by kernel_rfl
theorem list_new (w : World) (l : List Value) (t : TypeId) : ∀ j u, l[j]? = some u → (w.alloc (.cells l.toArray t)).cell? ((⟨w.heap.size, 0, none⟩ : Addr).add j) = some u := by
  intro j u hj
  rw [add_at, World.cell?_alloc_new]
  simpa using hj
theorem own_mono {w : World} {base base' e size n : Nat} {v : Value} {xs : List Value} (h : w.ownsRow base e size v n xs) (hb : base' ≤ base) : w.ownsRow base' e size v n xs := ⟨h.1, h.2.imp id fun ⟨g, cap, cur, h1, h2, h3⟩ => ⟨g, cap, cur, h1, Nat.le_trans hb h2, h3⟩⟩
theorem headD_get (l : List (List R)) (h : 0 < l.length) : l.headD [] = l[0] := by
  cases l with
  | nil => cases h
  | cons b l => rfl
theorem raws_snoc (l : List Sh) (s : Sh) : rw_ (raws (l ++ [s])) = rw_ (raws l) ++ [.int .i64 (s.1.toNat : Int), .string (str s.2)] := by
  unfold raws
  rw [List.map_append, List.map_cons, List.map_nil, rw_snoc]
theorem below_none {w w' : World} (h : w.grownBy w' none) : Below w.heap.size w w' := (Below.refl _ _).grown h (Nat.le_refl _) (fun j e => by cases e)
/-- make([]string, n). -/
theorem make_strs (w : World) (n : Nat) (hn : n ≤ 1000) : ∃ W, (Instr.makeSlice 39 (.int .i64 (n : Int)) (.int .i64 (n : Int))).run Try.prog w = .ok (.slice (some ⟨w.heap.size, 0, none⟩) n n) W ∧ VAt W w.heap.size (bs (List.replicate n [])) ∧ Below w.heap.size w W ∧ w.heap.size < W.heap.size := by
  obtain ⟨i0, hi, hz0, hz1, hz2⟩ := info_parts info_str
  obtain ⟨W, h1, h2, h3⟩ := run_make_full (P := Try.prog) w w.heap.size 39 9 i0 _ 1 Try.underlying39 hi hz0 hz1 .i64 .i64 n (by rw [hz2]; omega) (by unfold maxLen; omega) (Nat.le_refl _)
  refine ⟨W, h1, ?_, below_none h3, (h2.lt _ rfl).2⟩
  have h4 := VAt.of_row h2
  rw [Nat.mul_one, show (Value.string ⟨#[]⟩).cells = #[.string ⟨#[]⟩] from rfl, toList_madeCells_one] at h4
  rwa [show bs (List.replicate n []) = List.replicate n (.string ⟨#[]⟩) by unfold bs; rw [List.map_replicate]; rfl]
theorem made_two (n : Nat) : (madeCells #[.int .i64 0, .string ⟨#[]⟩] (n * 2)).toList = rw_ (List.replicate n (0, [])) := by
  refine List.ext_getElem? fun j => ?_
  by_cases hj : j < n * 2
  · have e := flat_get encR_len (List.replicate n ((0, []) : Rw)) (j / 2) (j % 2) (by rw [List.length_replicate]; omega) (by omega)
    rw [show j / 2 * 2 + j % 2 = j by omega] at e
    unfold rw_
    rw [e, List.getElem_replicate]
    have h2 : j % 2 = 0 ∨ j % 2 = 1 := by omega
    rcases h2 with h2 | h2
    · simp [madeCells, hj, h2, encR]
    · simp [madeCells, hj, h2, encR]
      rfl
  · rw [List.getElem?_eq_none (by simp [madeCells]; omega), List.getElem?_eq_none (by rw [rw_len, List.length_replicate]; omega)]
/-- make([]api.Share, n). -/
theorem make_shares (w : World) (n : Nat) (hn : n ≤ 1000) : ∃ W, (Instr.makeSlice 44 (.int .i64 (n : Int)) (.int .i64 (n : Int))).run Try.prog w = .ok (.slice (some ⟨w.heap.size, 0, none⟩) n n) W ∧ VAt W w.heap.size (rw_ (List.replicate n (0, []))) ∧ Below w.heap.size w W ∧ w.heap.size < W.heap.size := by
  obtain ⟨i0, hi, hz0, hz1, hz2⟩ := info_parts info_share
  obtain ⟨W, h1, h2, h3⟩ := run_make_full (P := Try.prog) w w.heap.size 44 46 i0 _ 2 Try.underlying44 hi hz0 hz1 .i64 .i64 n (by rw [hz2]; omega) (by unfold maxLen; omega) (Nat.le_refl _)
  refine ⟨W, h1, ?_, below_none h3, (h2.lt _ rfl).2⟩
  have h4 := VAt.of_row h2
  rwa [show (Value.agg #[.int .i64 0, .string ⟨#[]⟩]).cells = #[.int .i64 0, .string ⟨#[]⟩] from rfl, made_two] at h4
end Go.Proofs.Ytcfoclmkhippoaa.E15
