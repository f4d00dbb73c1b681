/- What the laws' walks share (layer 18). -/
import Derived.Test.YthmgocjmfhpafaaDoorA18Awake
import Derived.DataShut
import Derived.Deep.Cut
namespace Go.Proofs.YthmgocjmfhpafaaDoor.A18
set_option maxRecDepth 100000
open Go.RowKit Mem
open M17 (Laid Laid.below gPow tPow cPow cU64)
set_option linter.unusedVariables false
set_option linter.unusedSimpArgs false

theorem laid_of {W : World} (h : laidMetH Tryd.prog Rows.assemblerResultRow.laid W) : Laid W := by
  rw [MakeChecks.laidMetH_plain _ _ _ (by kernel_rfl)] at h
  have h3 : laidMet Tryd.prog (("internal/strconv.uint64pow10", Lib.tabData .u64 Lib.pow10Tab) :: []) W := h.tail.tail
  exact Lib.tabIs_of_head gPow tPow Tryd.underlying150 Tryd.underlying82 cU64 cPow h3
/-- .. where the tables of unicode/utf8 are listed, too. -/
theorem laid_of5 {W : World} (h : laidMetH Tryd.prog Rows.assemblerRoundTripRow.laid W) : Laid W := by
  rw [MakeChecks.laidMetH_plain _ _ _ (by kernel_rfl)] at h
  have h3 : laidMet Tryd.prog (("internal/strconv.uint64pow10", Lib.tabData .u64 Lib.pow10Tab) :: ("unicode/utf8.acceptRanges", Rows.laid_unicode_utf8_acceptRanges) :: ("unicode/utf8.first", Rows.laid_unicode_utf8_first) :: []) W := h.tail.tail
  exact Lib.tabIs_of_head gPow tPow Tryd.underlying150 Tryd.underlying82 cU64 cPow h3
/-- A call that makes memory, with plain letters for its four results. -/
theorem Assemble_use (s : ByteArray) (hs : s.size ≤ 20000) (o : Int) (w : World) (hL : Laid w) :
    Calls Tryd.prog 12 #[.string s, .int .i64 o] w fun e w' => ∃ (A : Option Addr) (cap : Nat), e = .returned (.tuple #[.string ⟨(asm s.data.toList o).text.toArray⟩, .slice A (asm s.data.toList o).labs.length cap, .int .i64 ((asm s.data.toList o).line : Int), .int .i64 ((asm s.data.toList o).err : Int)]) ∧ IsPs w' A (asm s.data.toList o).labs.length cap (asm s.data.toList o).labs ∧ Below w.heap.size w w' :=
  (Assemble_any s hs o w hL).mono fun e w' ⟨v, B, he, _, hown, hb⟩ => by
    obtain ⟨A, cap, rfl, hI⟩ := IsPs.of_own hown rfl
    exact ⟨A, cap, he, hI, hb⟩
theorem asm_len (s : List UInt8) (o : Int) : (asm s o).text.length ≤ 40000 ∧ (asm s o).labs.length ≤ s.length := by
  by_cases h : (asm s o).err = 0
  · have H := asm_ok h
    refine ⟨by rw [text_len H]; exact H.len, ?_⟩
    rw [labels_all H]
    have h1 : (dfs (wof (toks s))).length ≤ (wof (toks s)).length := List.length_filterMap_le _ _
    have h2 := toks_le s
    rw [wof_len] at h1
    omega
  · obtain ⟨h1, h2⟩ := asm_bad h
    rw [h1, h2]
    simp
theorem IsPs.take {w : World} {A : Option Addr} {n cap : Nat} {l : List (List UInt8 × Int)} (h : IsPs w A n cap l) {k : Nat} (hk : k ≤ n) : IsPs w A k cap (l.take k) := by
  refine ⟨by rw [List.length_take, h.len]; omega, Nat.le_trans hk h.le, h.capm, h.nil, fun j hj => ?_⟩
  have e : l.flatMap enc2 = (l.take k).flatMap enc2 ++ (l.drop k).flatMap enc2 := by rw [← List.flatMap_append, List.take_append_drop]
  obtain ⟨b, o, h1, h2, h3⟩ := h.rd j (by rw [e, List.length_append]; omega)
  refine ⟨b, o, h1, h2, h3.trans ?_⟩
  congr 1
  simp only [e]
  rw [List.getElem_append_left hj]
end Go.Proofs.YthmgocjmfhpafaaDoor.A18
