/- MachineRuns, walked. -/
import Derived.Test.YtfdlgdgjbfoogaaM17Alive
import Derived.Test.YtfdlgdgjbfoogaaM17RefG
import Derived.Test.YtfdlgdgjbfoogaaM17RefR
import Derived.Test.YtfdlgdgjbfoogaaM17Lin
import Derived.Deep.Cut
import Derived.Test.YtfdlgdgjbfoogaaM17Open
import Derived.Test.YtfdlgdgjbfoogaaArr2
namespace Go.Proofs.Ytfdlgdgjbfoogaa.M17
set_option maxRecDepth 100000
open Go.RowKit Mem
set_option linter.unusedVariables false
set_option linter.unusedSimpArgs false

set_option maxHeartbeats 4000000 in
theorem walk_runs {A IA : Option Addr} {n c m ic : Nat} {ts : List Txt} {inp : List Nat} {w : World} (h : IsTxts w A n c ts) (hI : IsInp w IA m ic inp) (a0 a1 : Int) :
    Calls Try.prog 3 #[.slice A n c, .slice IA m ic, .agg #[.int .i64 a0, .int .i64 a1]] w fun e w' => e = .returned (.bool true) ∧ Below w.heap.size w w' := by
  have cA := Lib.hid alive_any
  have hbx := boxed w (.cells #[.int .i64 a0, .int .i64 a1] 24)
  have v0 := Blk.new w 24 [.int .i64 a0, .int .i64 a1]
  obtain ⟨X, hX⟩ : ∃ X, w.heap.size = X := ⟨_, rfl⟩
  obtain ⟨W0, hW0⟩ : ∃ W, w.alloc (.cells #[.int .i64 a0, .int .i64 a1] 24) = W := ⟨_, rfl⟩
  rw [show (w.alloc (.cells [.int .i64 a0, .int .i64 a1].toArray 24)) = W0 from hW0, hX] at v0
  rw [hW0] at hbx
  have hT := Lib.hid (h.below hbx)
  have hN := Lib.hid (hI.below hbx)
  replace v0 := Lib.hid v0
  replace hbx := Lib.hid hbx
  clear h hI
  go_enter Try.func3, Try.ntmps3
  go_wp2_with fail
  refine (cA.out _).mono ?_
  rintro e w1 ⟨rfl, hb1⟩
  have v1 : Blk 24 w1 X _ := (hb1.block X v0.out.lt).trans v0.out
  have hT1 := Lib.hid (hT.out.below hb1)
  have hN1 := Lib.hid (hN.out.below hb1)
  have hb2 := Lib.hid (chain hbx.out hb1)
  have x0 : w1.cell? ⟨X, 0, none⟩ = some (.int .i64 a0) := v1.cell 0
  have x1 : w1.cell? ⟨X, 1, none⟩ = some (.int .i64 a1) := v1.cell 1
  have cG := Lib.hid (great_any hT1.out IA m ic a1)
  replace v1 := Lib.hid v1
  clear hT hN v0 hbx hb1 cA hW0
  go_wp2_with fail
  refine (cG.out).mono ?_
  rintro e w2 ⟨hg, hb3⟩
  have v2 : Blk 24 w2 X _ := (hb3.block X v1.out.lt).trans v1.out
  have hT2 := Lib.hid (hT1.out.below hb3)
  have hN2 := Lib.hid (hN1.out.below hb3)
  have hb4 := Lib.hid (chain hb2.out hb3)
  have hXl := v2.lt
  have y0 : w2.cell? ⟨X, 0, none⟩ = some (.int .i64 a0) := v2.cell 0
  have y1 : w2.cell? ⟨X, 1, none⟩ = some (.int .i64 a1) := v2.cell 1
  clear hT1 hN1 v1 hb3 hb2 cG x0 x1 v2
  rcases hg with rfl | rfl
  · have ld0 : ∀ W, Below w2.heap.size w2 W → W.cell? ⟨X, 0, none⟩ = some (.int .i64 a0) := fun W hb => (hb.cell (p := ⟨X, 0, none⟩) hXl).trans y0
    have ld1 : ∀ W, Below w2.heap.size w2 W → W.cell? ⟨X, 1, none⟩ = some (.int .i64 a1) := fun W hb => (hb.cell (p := ⟨X, 1, none⟩) hXl).trans y1
    have c1 := fun (W : World) (hb : Below w2.heap.size w2 W) => (Run_own (hT2.out.below hb) (hN2.out.below hb) a0 a1).mono (R' := fun e w' => e = .returned (outV (ans ts a0 inp a1)) ∧ Below w2.heap.size w2 w') (fun e w' ⟨he, hw⟩ => ⟨he, hb.trans (hw.mono hb.size)⟩)
    have c2 := fun (W : World) (hb : Below w2.heap.size w2 W) => (RRun_any (hT2.out.below hb) (hN2.out.below hb) a0 a1).mono (R' := fun e w' => e = .returned (outV (ans ts a0 inp a1)) ∧ Below w2.heap.size w2 w') (fun e w' ⟨he, hw⟩ => ⟨he, hb.trans (hw.mono hb.size)⟩)
    obtain ⟨x, hx⟩ : ∃ x, ans ts a0 inp a1 = x := ⟨_, rfl⟩
    rw [hx] at c1 c2
    unfold outV at c1 c2
    obtain ⟨O, hO⟩ : ∃ O : ByteArray, ⟨x.out.toArray⟩ = O := ⟨_, rfl⟩
    obtain ⟨oe, hoe⟩ : ∃ o : Int, (x.err : Int) = o := ⟨_, rfl⟩
    obtain ⟨os, hos⟩ : ∃ o : Int, (x.steps : Int) = o := ⟨_, rfl⟩
    rw [hO, hoe, hos] at c1 c2
    have hOO : (O.toList == O.toList) = true := beq_self_eq_true _
    replace c1 := Lib.hid c1
    replace c2 := Lib.hid c2
    have keep0 := Below.refl w2.heap.size w2
    have keep1 : ∀ W, Below w2.heap.size w2 W → Below w2.heap.size w2 (World.drew W) := fun W h => h.drew
    clear hx hO hoe hos hT2 hN2
    go_wp2_with fail
    go_region_held3 (fun W => Below w2.heap.size w2 W) (first | exact keep0 | exact keep1 _ keep0 | assumption) (first | (go_at_call 10; (with_reducible refine (c1.out _ (by first | exact keep0 | exact keep1 _ keep0 | assumption)).mono ?_); rintro e w9 ⟨rfl, hb9⟩) | (go_at_call 11; (with_reducible refine (c2.out _ (by first | exact keep0 | exact keep1 _ keep0 | assumption)).mono ?_); rintro e w8 ⟨rfl, hb8⟩))
    all_goals (
      go_wp2
      first | go_ret | skip
      first | exact ⟨rfl, hb4.out.trans (Below.mono (by assumption) hb4.out.size)⟩ | exact ⟨rfl, hb4.out.trans (hb8.mono hb4.out.size)⟩ | exact ⟨rfl, hb4.out.trans (hb9.mono hb4.out.size)⟩)
  · go_wp2
    first | go_ret | skip
    exact ⟨rfl, hb4.out⟩
/-- The same at what the reading says. -/
theorem row_runs (A : Option Addr) (n c : Nat) (ts : List Txt) (IA : Option Addr) (m ic : Nat) (zs : List Int) (a0 a1 : Int) (w : World) (h : IsTxts w A n c ts) (hI : IsRow .u32 w IA m ic zs) (q0 : -9223372036854775808 ≤ a0 ∧ a0 ≤ 9223372036854775807) (q1 : -9223372036854775808 ≤ a1 ∧ a1 ≤ 9223372036854775807) : Calls Try.prog 3 #[.slice A n c, .slice IA m ic, .agg #[.int .i64 a0, .int .i64 a1]] w fun e w' => e = .returned (.bool true) ∧ Below w.heap.size w w' := by
  obtain ⟨l, hl⟩ := IsInp.of_row hI
  exact walk_runs h hl a0 a1
end Go.Proofs.Ytfdlgdgjbfoogaa.M17
