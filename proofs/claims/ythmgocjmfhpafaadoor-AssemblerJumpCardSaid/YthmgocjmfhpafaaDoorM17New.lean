/- Texts that a law writes down; outcomes compared. -/
import Derived.Test.YthmgocjmfhpafaaDoorM17OwnC
import Derived.Test.YthmgocjmfhpafaaDoorM17OwnH
import Derived.Laws.StructEq
namespace Go.Proofs.YthmgocjmfhpafaaDoor.M17
set_option maxRecDepth 100000
open Go.RowKit Mem
set_option linter.unusedVariables false
set_option linter.unusedSimpArgs false

/-- Run does what the plain machine does, and leaves what lay there. -/
theorem Run_own {A IA : Option Addr} {n c m ic : Nat} {ts : List Txt} {inp : List Nat} {w : World} (h : IsTxts w A n c ts) (hI : IsInp w IA m ic inp) (start steps : Int) :
    Calls Tryd.prog 26 #[.slice A n c, .int .i64 start, .slice IA m ic, .int .i64 steps] w fun e w' => e = .returned (outV (ans ts start inp steps)) ∧ Below w.heap.size w w' := Run_any (fun _ _ _ _ _ _ h hol => step_own h hol) h hI start steps
theorem rd_block {W : World} {g : Nat} {l : List Value} {T : TypeId} (h : Blk T W g l) : Rd W (some ⟨g, 0, none⟩) l := fun j hj => ⟨g, 0, rfl, h.lt, by rw [Nat.zero_add, h.cell, List.getElem?_eq_getElem hj]⟩
/-- A slice of texts that has just been written down. -/
theorem txts_new (w : World) (ts : List Txt) (hf : ∀ t ∈ ts, FitT t) (hn : ts.length ≤ 1000) : IsTxts (w.alloc (.cells (ts.flatMap encT).toArray 52)) (some ⟨w.heap.size, 0, none⟩) ts.length ts.length ts :=
  ⟨rfl, Nat.le_refl _, by unfold maxLen; omega, (fun e => by cases e), rd_block (Blk.new w _ _), hf⟩
theorem txts_one (w : World) (z : Int) (S : ByteArray) (hf : FitT (z, S)) : IsTxts (w.alloc (.cells #[.int .i64 z, .string S] 52)) (some ⟨w.heap.size, 0, none⟩) 1 1 [(z, S)] := txts_new w [(z, S)] (fun t h => by rw [List.mem_singleton.1 h]; exact hf) (by simp)
theorem inp_none (w : World) : IsInp w none 0 0 [] := ⟨rfl, Nat.le_refl _, by decide, fun _ => rfl, (fun j h => by simp [us] at h), fun x h => by cases h⟩
theorem IsInp.below {w w1 : World} {A : Option Addr} {n cap : Nat} {l : List Nat} (h : IsInp w A n cap l) (k : Below w.heap.size w w1) : IsInp w1 A n cap l := ⟨h.len, h.le, h.capm, h.nil, h.rd.below k, h.fit⟩
theorem fit_small (z : Int) (S : ByteArray) (h0 : 0 ≤ z) (h1 : z ≤ 1000000) (h2 : S.size ≤ 1000000) : FitT (z, S) := ⟨⟨by dsimp only; omega, by dsimp only; omega⟩, by unfold maxLen; dsimp only; omega⟩
theorem boxed (w : World) (x : Obj) : Below w.heap.size w (w.alloc x) := (Below.refl _ _).alloc (Nat.le_refl _) _
/-! ### The examples of the chapter -/
theorem ex_one : ans [(0, ⟨#[49, 50, 32, 51, 48, 43, 46, 36]⟩)] 0 [] 100 = ⟨[42], 0, 8⟩ := by decide +kernel
theorem ex_two : ans [(0, ⟨#[49, 32, 48, 47]⟩)] 0 [] 100 = ⟨[], 12, 4⟩ := by decide +kernel
theorem ex_three : ans [(0, ⟨#[48, 58]⟩)] 0 [] 1000 = ⟨[], 12, 130⟩ := by decide +kernel
end Go.Proofs.YthmgocjmfhpafaaDoor.M17
