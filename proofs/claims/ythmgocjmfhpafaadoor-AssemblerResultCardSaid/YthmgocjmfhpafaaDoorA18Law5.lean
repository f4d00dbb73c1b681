/- AssemblerResult, walked. -/
import Derived.Test.YthmgocjmfhpafaaDoorA18Lib
import Derived.Test.YthmgocjmfhpafaaDoorA18Ref7
namespace Go.Proofs.YthmgocjmfhpafaaDoor.A18
set_option maxRecDepth 100000
open Go.RowKit Mem
open M17 (Laid Laid.below)
set_option linter.unusedVariables false
set_option linter.unusedSimpArgs false

theorem rAssemble_use (s : ByteArray) (hs : s.size ≤ 20000) (o : Int) (w : World) :
    Calls Tryd.prog 13 #[.string s, .int .i64 o] w fun e w' => ∃ (A : Option Addr) (cap : Nat), e = .returned (.tuple #[.string ⟨(asm s.data.toList o).text.toArray⟩, .slice A (asm s.data.toList o).labs.length cap, .int .i64 ((asm s.data.toList o).line : Int), .int .i64 ((asm s.data.toList o).err : Int)]) ∧ IsPs w' A (asm s.data.toList o).labs.length cap (asm s.data.toList o).labs ∧ Below w.heap.size w w' :=
  (rAssemble_any s hs o w).mono fun e w' ⟨v, B, he, _, hown, hb⟩ => by
    obtain ⟨A, cap, rfl, hI⟩ := IsPs.of_own hown rfl
    exact ⟨A, cap, he, hI, hb⟩
set_option maxHeartbeats 16000000 in
theorem walk_result (s : ByteArray) (a : Int) (w : World) (hL : Laid w) (hs : s.size ≤ 140737488351232) :
    Calls Tryd.prog 3 #[.string s, .int .i64 a] w fun e w' => e = .returned (.bool true) ∧ Below w.heap.size w w' := by
  have cW := Lib.hid awake_any
  have hL := Lib.hid hL
  by_cases h1 : 600 < s.size
  · have d1 : decide ((600 : Int) < (s.size : Int)) = true := decide_eq_true (by omega)
    have cW1 := Lib.hid (cW.out w hL.out)
    clear h1
    go_enter Tryd.func3, Tryd.ntmps3
    go_wp2_with fail
    refine (cW1.out).mono ?_
    rintro e w1 ⟨rfl, hb1⟩
    go_wp2
    first | go_ret | skip
    exact ⟨rfl, hb1⟩
  have d1 : decide ((600 : Int) < (s.size : Int)) = false := decide_eq_false (by omega)
  have c1 := Assemble_use s (by omega) a
  have c2 := rAssemble_use s (by omega) a
  have hx2 := (asm_len s.data.toList a).2
  have hsl : s.data.toList.length ≤ 600 := by have : s.data.toList.length = s.size := by simp
                                              omega
  obtain ⟨x, hx⟩ : ∃ x, asm s.data.toList a = x := ⟨_, rfl⟩
  rw [hx] at c1 c2 hx2
  obtain ⟨xt, xl, xn, xe⟩ := x
  dsimp only at c1 c2 hx2
  obtain ⟨SX, hSX⟩ : ∃ S : ByteArray, ⟨xt.toArray⟩ = S := ⟨_, rfl⟩
  rw [hSX] at c1 c2
  obtain ⟨ll, hll⟩ : ∃ l, xl.length = l := ⟨_, rfl⟩
  rw [hll] at c1 c2 hx2
  have s2 : (SX.toList == SX.toList) = true := by simp
  have s3 : ((xn : Int) == (xn : Int)) = true := by simp
  have s4 : ((xe : Int) == (xe : Int)) = true := by simp
  have cS := Lib.hid (fun (A1 A2 : Option Addr) (p1 p2 : Nat) (W : World) (h1 : IsPs W A1 ll p1 xl) (h2 : IsPs W A2 ll p2 xl) => show Calls Tryd.prog 14 #[.slice A1 ll p1, .slice A2 ll p2] W fun e w' => e = .returned (.bool true) ∧ ∃ q, w' = W.drewN q by
    have := sameSyms_any h1 h2 (by omega) (by omega)
    rw [decide_eq_true rfl] at this
    exact this)
  replace c1 := Lib.hid (c1 w hL.out)
  replace c2 := Lib.hid c2
  clear h1 hx2 hsl hx hll hSX
  go_enter Tryd.func3, Tryd.ntmps3
  go_wp2_with fail
  refine (c1.out).mono ?_
  rintro e w2 ⟨A2, p2, rfl, hI2, hb2⟩
  replace hI2 := Lib.hid hI2
  replace hb2 := Lib.hid hb2
  go_wp2_with fail
  refine (c2.out _).mono ?_
  rintro e w3 ⟨A3, p3, rfl, hI3, hb3⟩
  have cS := Lib.hid (cS.out A2 A3 p2 p3 w3 (hI2.out.below hb3) hI3)
  replace hb3 := Lib.hid (chain hb2.out hb3)
  clear hI2 hI3
  go_wp2_with fail
  refine (cS.out).mono ?_
  rintro e w4 ⟨rfl, q4, rfl⟩
  have hb4 := Lib.hid (chainN hb3.out q4)
  have cW7 := Lib.hid (cW.out _ (hL.out.below hb4.out))
  go_wp2_with fail
  refine (cW7.out).mono ?_
  rintro e w8 ⟨rfl, hb8⟩
  go_wp2
  first | go_ret | skip
  exact ⟨rfl, chain hb4.out hb8⟩
theorem row_result (s : ByteArray) (a : Int) (w : World) (hL : Laid w) (hs : s.size ≤ 140737488351232) (q1 : (Lit.int .i64 a).wf = true) : Calls Tryd.prog 3 #[.string s, .int .i64 a] w fun e w' => e = .returned (.bool true) ∧ Below w.heap.size w w' := walk_result s a w hL hs
end Go.Proofs.YthmgocjmfhpafaaDoor.A18
