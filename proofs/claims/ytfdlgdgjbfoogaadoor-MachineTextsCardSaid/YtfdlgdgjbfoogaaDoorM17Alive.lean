/- The laws' helper alive: the examples of the chapter. -/
import Derived.Test.YtfdlgdgjbfoogaaDoorM17New
namespace Go.Proofs.YtfdlgdgjbfoogaaDoor.M17
set_option maxRecDepth 100000
open Go.RowKit Mem
set_option linter.unusedVariables false
set_option linter.unusedSimpArgs false

theorem run_one (W : World) (S : ByteArray) (hS : S.size ≤ 1000) (steps : Int) : Calls Tryd.prog 12 #[.slice (some ⟨W.heap.size, 0, none⟩) 1 1, .int .i64 0, .slice none 0 0, .int .i64 steps] (W.alloc (.cells #[.int .i64 0, .string S] 34)) fun e w' => e = .returned (outV (ans [(0, S)] 0 [] steps)) ∧ Below W.heap.size W w' :=
  (Run_own (txts_one W 0 S (fit_small 0 S (by decide) (by decide) (by omega))) (inp_none _) 0 steps).mono fun e w' ⟨he, hb⟩ => ⟨he, chain (boxed W _) hb⟩
set_option maxHeartbeats 4000000 in
theorem alive_any (w : World) : Calls Tryd.prog 6 #[] w fun e w' => e = .returned (.bool true) ∧ Below w.heap.size w w' := by
  have c1 := fun W => run_one W ⟨#[49, 50, 32, 51, 48, 43, 46, 36]⟩ (by decide) 100
  have c2 := fun W => run_one W ⟨#[49, 32, 48, 47]⟩ (by decide) 100
  have c3 := fun W => run_one W ⟨#[48, 58]⟩ (by decide) 1000
  rw [ex_one] at c1
  rw [ex_two] at c2
  rw [ex_three] at c3
  unfold outV at c1 c2 c3
  dsimp only at c1 c2 c3
  rw [show ((0 : Nat) : Int) = 0 from rfl, show ((8 : Nat) : Int) = 8 from rfl] at c1
  rw [show ((12 : Nat) : Int) = 12 from rfl, show ((4 : Nat) : Int) = 4 from rfl] at c2
  rw [show ((12 : Nat) : Int) = 12 from rfl, show ((130 : Nat) : Int) = 130 from rfl] at c3
  replace c1 := Lib.hid c1
  replace c2 := Lib.hid c2
  replace c3 := Lib.hid c3
  go_enter Tryd.func6, Tryd.ntmps6
  go_wp2_with fail
  refine (c1.out _).mono ?_
  rintro e w1 ⟨rfl, hb1⟩
  have v1 := Blk.new w1 31 [.string ⟨#[42]⟩, .int .i64 0, .int .i64 8]
  have hb2 := chain hb1 (boxed w1 (.cells [.string ⟨#[42]⟩, .int .i64 0, .int .i64 8].toArray 31))
  obtain ⟨X1, hX1⟩ : ∃ X, w1.heap.size = X := ⟨_, rfl⟩
  obtain ⟨W1, hW1⟩ : ∃ W, w1.alloc (.cells #[.string ⟨#[42]⟩, .int .i64 0, .int .i64 8] 31) = W := ⟨_, rfl⟩
  rw [show (w1.alloc (.cells [.string ⟨#[42]⟩, .int .i64 0, .int .i64 8].toArray 31)) = W1 from hW1, hX1] at v1
  rw [show (w1.alloc (.cells [.string ⟨#[42]⟩, .int .i64 0, .int .i64 8].toArray 31)) = W1 from hW1] at hb2
  replace v1 := Lib.hid v1
  replace hb2 := Lib.hid hb2
  clear hb1 c1
  go_wp2_with fail
  refine (c2.out _).mono ?_
  rintro e w2 ⟨rfl, hb3⟩
  have v1' := (hb3.block X1 v1.out.lt).trans v1.out
  have v2 := Blk.new w2 31 [.string ⟨#[]⟩, .int .i64 12, .int .i64 4]
  have hb4 := chain (chain hb2.out hb3) (boxed w2 (.cells [.string ⟨#[]⟩, .int .i64 12, .int .i64 4].toArray 31))
  have v1'' := (Below.heap_alloc w2 (.cells [.string ⟨#[]⟩, .int .i64 12, .int .i64 4].toArray 31) X1 (Nat.lt_of_lt_of_le v1.out.lt hb3.size)).trans v1'
  obtain ⟨X2, hX2⟩ : ∃ X, w2.heap.size = X := ⟨_, rfl⟩
  obtain ⟨W2, hW2⟩ : ∃ W, w2.alloc (.cells #[.string ⟨#[]⟩, .int .i64 12, .int .i64 4] 31) = W := ⟨_, rfl⟩
  rw [show (w2.alloc (.cells [.string ⟨#[]⟩, .int .i64 12, .int .i64 4].toArray 31)) = W2 from hW2, hX2] at v2
  rw [show (w2.alloc (.cells [.string ⟨#[]⟩, .int .i64 12, .int .i64 4].toArray 31)) = W2 from hW2] at hb4 v1''
  have v1 : Blk 31 W2 X1 _ := v1''
  replace v1 := Lib.hid v1
  replace v2 := Lib.hid v2
  replace hb4 := Lib.hid hb4
  clear v1' v1'' hb3 hb2 c2 hW1 hX1
  go_wp2_with fail
  refine (c3.out _).mono ?_
  rintro e w3 ⟨rfl, hb5⟩
  have g := World.grownBy_alloc w3 (.cells [.string ⟨#[]⟩, .int .i64 12, .int .i64 130].toArray 31) none
  have v3 := Blk.new w3 31 [.string ⟨#[]⟩, .int .i64 12, .int .i64 130]
  have u1 : Blk 31 (w3.alloc (.cells [.string ⟨#[]⟩, .int .i64 12, .int .i64 130].toArray 31)) X1 _ := (g.block X1 (Nat.lt_of_lt_of_le v1.out.lt hb5.size) (by simp)).trans ((hb5.block X1 v1.out.lt).trans v1.out)
  have u2 : Blk 31 (w3.alloc (.cells [.string ⟨#[]⟩, .int .i64 12, .int .i64 130].toArray 31)) X2 _ := (g.block X2 (Nat.lt_of_lt_of_le v2.out.lt hb5.size) (by simp)).trans ((hb5.block X2 v2.out.lt).trans v2.out)
  have hb6 := chain (chain hb4.out hb5) (boxed w3 (.cells [.string ⟨#[]⟩, .int .i64 12, .int .i64 130].toArray 31))
  obtain ⟨X3, hX3⟩ : ∃ X, w3.heap.size = X := ⟨_, rfl⟩
  obtain ⟨W3, hW3⟩ : ∃ W, w3.alloc (.cells #[.string ⟨#[]⟩, .int .i64 12, .int .i64 130] 31) = W := ⟨_, rfl⟩
  rw [show (w3.alloc (.cells [.string ⟨#[]⟩, .int .i64 12, .int .i64 130].toArray 31)) = W3 from hW3] at v3 u1 u2 hb6
  rw [hX3] at v3
  have a0 := u1.cell 0
  have a1 := u1.cell 1
  have a2 := u1.cell 2
  have b0 := u2.cell 0
  have b1 := u2.cell 1
  have b2 := u2.cell 2
  have d0 := v3.cell 0
  have d1 := v3.cell 1
  have d2 := v3.cell 2
  simp only [List.getElem?_cons_zero, List.getElem?_cons_succ] at a0 a1 a2 b0 b1 b2 d0 d1 d2
  replace hb6 := Lib.hid hb6
  clear v1 v2 v3 u1 u2 g hb5 hb4 c3 hW2 hX2
  go_wp2
  trace_state
  first | go_ret | skip
  exact ⟨rfl, hb6.out⟩
end Go.Proofs.YtfdlgdgjbfoogaaDoor.M17
