/- The laws' helper awake: the examples of the chapter. -/
import Derived.Test.YthmgocjmfhpafaaDoorA18Own7
import Derived.Test.YthmgocjmfhpafaaDoorA18Own8
import Derived.Test.YthmgocjmfhpafaaDoorA18Ref1
namespace Go.Proofs.YthmgocjmfhpafaaDoor.A18
set_option maxRecDepth 100000
open Go.RowKit Mem
open M17 (Laid Laid.below)
set_option linter.unusedVariables false
set_option linter.unusedSimpArgs false

theorem ex_asm : asm [48, 32, 38, 101, 110, 100, 32, 63, 32, 54, 53, 32, 46, 32, 101, 110, 100, 58, 32, 36] 10000 = ⟨[48, 32, 48, 49, 48, 48, 49, 50, 63, 54, 53, 46, 36], [([101, 110, 100], 10012)], 0, 0⟩ := by
  unfold asm asmW
  rw [if_neg (by decide), if_neg (by decide +kernel), if_neg (by decide +kernel)]
  have h1 : bld (adr (lbs nul 10000 [] (wof (toks [48, 32, 38, 101, 110, 100, 32, 63, 32, 54, 53, 32, 46, 32, 101, 110, 100, 58, 32, 36])))) [] (wof (toks [48, 32, 38, 101, 110, 100, 32, 63, 32, 54, 53, 32, 46, 32, 101, 110, 100, 58, 32, 36])) = [48, 32, 48, 49, 48, 48, 49, 50, 63, 54, 53, 46, 36] := by decide +kernel
  have h2 : lbs nul 10000 [] (wof (toks [48, 32, 38, 101, 110, 100, 32, 63, 32, 54, 53, 32, 46, 32, 101, 110, 100, 58, 32, 36])) = [([101, 110, 100], 10012)] := by decide +kernel
  rw [h1, h2]
theorem ex_dsm : dsm [49, 50, 32, 51, 43] = ⟨[49, 50, 32, 51, 32, 43], 0⟩ := by
  unfold dsm
  rw [if_neg (by decide +kernel)]
  have h1 : jn (dis [] [49, 50, 32, 51, 43]) = [49, 50, 32, 51, 32, 43] := by decide +kernel
  rw [h1]
theorem boxed (w : World) (x : Obj) : Below w.heap.size w (w.alloc x) := (Below.refl _ _).alloc (Nat.le_refl _) _
theorem ps_new (w : World) (S : ByteArray) (z : Int) : IsPs (w.alloc (.cells #[.string S, .int .i64 z] 37)) (some ⟨w.heap.size, 0, none⟩) 1 1 [(S.data.toList, z)] := by
  refine ⟨rfl, Nat.le_refl _, by decide, (fun e => by cases e), fun j hj => ⟨w.heap.size, 0, rfl, by rw [World.size_alloc]; omega, ?_⟩⟩
  have := list_new w [.string S, .int .i64 z] 37 j
  rw [add_at] at this
  rw [Nat.zero_add]
  exact this _ (by show (List.flatMap enc2 [(S.data.toList, z)])[j]? = _; rw [List.getElem?_eq_getElem hj])
set_option maxHeartbeats 4000000 in
theorem awake_any (w : World) (hL : Laid w) : Calls Tryd.prog 11 #[] w fun e w' => e = .returned (.bool true) ∧ Below w.heap.size w w' := by
  have c1 := Assemble_any ⟨#[48, 32, 38, 101, 110, 100, 32, 63, 32, 54, 53, 32, 46, 32, 101, 110, 100, 58, 32, 36]⟩ (by decide) 10000 w hL
  rw [show (ByteArray.mk #[48, 32, 38, 101, 110, 100, 32, 63, 32, 54, 53, 32, 46, 32, 101, 110, 100, 58, 32, 36]).data.toList = [48, 32, 38, 101, 110, 100, 32, 63, 32, 54, 53, 32, 46, 32, 101, 110, 100, 58, 32, 36] from rfl, ex_asm] at c1
  have c2 := fun W => Disassemble_any ⟨#[49, 50, 32, 51, 43]⟩ (by decide) W
  rw [show (ByteArray.mk #[49, 50, 32, 51, 43]).data.toList = [49, 50, 32, 51, 43] from rfl, ex_dsm] at c2
  have c2 : ∀ W, Calls Tryd.prog 15 #[.string ⟨#[49, 50, 32, 51, 43]⟩] W fun e w' => e = .returned (.tuple #[.string ⟨#[49, 50, 32, 51, 32, 43]⟩, .int .i64 0]) ∧ Below W.heap.size W w' := c2
  replace c1 := Lib.hid c1
  replace c2 := Lib.hid c2
  clear hL
  go_enter Tryd.func11, Tryd.ntmps11
  go_wp2_with fail
  refine (c1.out).mono ?_
  rintro e w1 ⟨v1, B1, rfl, hB1, hown1, hb1⟩
  obtain ⟨A1, cap1, rfl, hI1⟩ := IsPs.of_own hown1 rfl
  rw [show asmV ⟨[48, 32, 48, 49, 48, 48, 49, 50, 63, 54, 53, 46, 36], [([101, 110, 100], 10012)], 0, 0⟩ (.slice A1 ([(([101, 110, 100] : List UInt8), (10012 : Int))]).length cap1) = .tuple #[.string ⟨#[48, 32, 48, 49, 48, 48, 49, 50, 63, 54, 53, 46, 36]⟩, .slice A1 1 cap1, .int .i64 0, .int .i64 0] from rfl]
  have hI1 : IsPs w1 A1 1 cap1 [([101, 110, 100], 10012)] := hI1
  replace hI1 := Lib.hid hI1
  replace hb1 := Lib.hid hb1
  clear hown1 hB1
  go_wp2_with fail
  refine (c2.out _).mono ?_
  rintro e w2 ⟨rfl, hb2⟩
  have hI2 := hI1.out.below hb2
  have hI3 := hI2.below (boxed w2 (.cells #[.string ⟨#[101, 110, 100]⟩, .int .i64 10012] 37))
  have cS := sameSyms_any hI3 (ps_new w2 ⟨#[101, 110, 100]⟩ 10012) (by decide) (by decide)
  rw [show (ByteArray.mk #[101, 110, 100]).data.toList = [101, 110, 100] from rfl, decide_eq_true rfl] at cS
  replace cS := Lib.hid cS
  replace hb2 := Lib.hid (chain (chain hb1.out hb2) (boxed w2 (.cells #[.string ⟨#[101, 110, 100]⟩, .int .i64 10012] 37)))
  clear hI2 hI3 hI1
  go_wp2_with fail
  refine (cS.out).mono ?_
  rintro e w3 ⟨rfl, q, rfl⟩
  go_wp2
  first | go_ret | skip
  exact ⟨rfl, chainN hb2.out q⟩
end Go.Proofs.YthmgocjmfhpafaaDoor.A18
