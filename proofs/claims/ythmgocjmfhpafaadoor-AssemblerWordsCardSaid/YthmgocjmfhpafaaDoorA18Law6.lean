/- AssemblerWords, walked. -/
import Derived.Test.YthmgocjmfhpafaaDoorA18Lib
import Derived.Test.YthmgocjmfhpafaaDoorA18Ref5
import Derived.Test.YthmgocjmfhpafaaDoorA18Ref8
namespace Go.Proofs.YthmgocjmfhpafaaDoor.A18
set_option maxRecDepth 100000
open Go.RowKit Mem
open M17 (Laid Laid.below)
set_option linter.unusedVariables false
set_option linter.unusedSimpArgs false

set_option maxHeartbeats 16000000 in
theorem walk_words (s : ByteArray) (w : World) (hL : Laid w) (hs : s.size ≤ 140737488351232) :
    Calls Tryd.prog 4 #[.string s] w fun e w' => e = .returned (.bool true) ∧ Below w.heap.size w w' := by
  have cW := Lib.hid awake_any
  have hL := Lib.hid hL
  by_cases h1 : 600 < s.size
  · have d1 : decide ((600 : Int) < (s.size : Int)) = true := decide_eq_true (by omega)
    have cW1 := Lib.hid (cW.out w hL.out)
    clear h1
    go_enter Tryd.func4, Tryd.ntmps4
    go_wp2_with fail
    refine (cW1.out).mono ?_
    rintro e w1 ⟨rfl, hb1⟩
    go_wp2
    first | go_ret | skip
    exact ⟨rfl, hb1⟩
  have d1 : decide ((600 : Int) < (s.size : Int)) = false := decide_eq_false (by omega)
  have hsl : s.data.toList.length ≤ 600 := by have : s.data.toList.length = s.size := by simp
                                              omega
  have c1 := fun W => Disassemble_any s (by omega) W
  have c2 := fun W => rDisassemble_any s (by omega) W
  have c3 := fun W => Words_any s (by omega) W
  have c4 := fun W => rWords_any s (by omega) W
  have hwn := toks_le s.data.toList
  rw [← wof_len] at hwn
  obtain ⟨L, hLL⟩ : ∃ L, wof (toks s.data.toList) = L := ⟨_, rfl⟩
  rw [hLL] at c3 c4 hwn
  unfold WsP at c3 c4
  obtain ⟨n, hn⟩ : ∃ n, L.length = n := ⟨_, rfl⟩
  rw [hn] at c3 c4 hwn
  unfold DmP at c1 c2
  obtain ⟨x, hx⟩ : ∃ x, dsm s.data.toList = x := ⟨_, rfl⟩
  rw [hx] at c1 c2
  obtain ⟨xt, xe⟩ := x
  unfold strV at c1 c2
  dsimp only at c1 c2
  obtain ⟨SX, hSX⟩ : ∃ S : ByteArray, ⟨xt.toArray⟩ = S := ⟨_, rfl⟩
  rw [hSX] at c1 c2
  have s2 : (SX.toList == SX.toList) = true := by simp
  have s4 : ((xe : Int) == (xe : Int)) = true := by simp
  have cS2 := Lib.hid (fun (A1 A2 : Option Addr) (p1 p2 : Nat) (W : World) (h1 : IsSt W A1 n p1 L) (h2 : IsSt W A2 n p2 L) => show Calls Tryd.prog 17 #[.slice A1 n p1, .slice A2 n p2] W fun e w' => e = .returned (.bool true) ∧ ∃ q, w' = W.drewN q by
    have := same2_any h1 h2 (by omega) (by omega)
    rw [decide_eq_true rfl] at this
    exact this)
  replace c1 := Lib.hid c1
  replace c2 := Lib.hid c2
  replace c3 := Lib.hid c3
  replace c4 := Lib.hid c4
  replace hn := Lib.hid hn
  clear h1 hsl hx hwn hLL hSX
  go_enter Tryd.func4, Tryd.ntmps4
  go_wp2_with fail
  refine (c1.out _).mono ?_
  rintro e w1 ⟨rfl, hb1⟩
  replace hb1 := Lib.hid hb1
  go_wp2_with fail
  refine (c2.out _).mono ?_
  rintro e w2 ⟨rfl, hb2⟩
  have hb4 := Lib.hid (chain hb1.out hb2)
  clear hb1 hb2
  go_wp2_with fail
  refine (c3.out _).mono ?_
  rintro e w5 ⟨v5, B5, rfl, hB5, hown5, hb5⟩
  obtain ⟨A5, p5, rfl, hI5⟩ := IsSt.of_own hown5 hn.out
  replace hb5 := Lib.hid (chain hb4.out hb5)
  replace hI5 := Lib.hid hI5
  clear hown5 hB5
  go_wp2_with fail
  refine (c4.out _).mono ?_
  rintro e w6 ⟨v6, B6, rfl, hB6, hown6, hb6⟩
  obtain ⟨A6, p6, rfl, hI6⟩ := IsSt.of_own hown6 hn.out
  have cS2 := Lib.hid (cS2.out A5 A6 p5 p6 w6 (hI5.out.below hb6) hI6)
  replace hb6 := Lib.hid (chain hb5.out hb6)
  clear hown6 hB6 hI6
  go_wp2_with fail
  refine (cS2.out).mono ?_
  rintro e w7 ⟨rfl, q7, rfl⟩
  have hb7 := Lib.hid (chainN hb6.out q7)
  have cW7 := Lib.hid (cW.out _ (hL.out.below hb7.out))
  go_wp2_with fail
  refine (cW7.out).mono ?_
  rintro e w8 ⟨rfl, hb8⟩
  go_wp2
  first | go_ret | skip
  exact ⟨rfl, chain hb7.out hb8⟩
theorem row_words (s : ByteArray) (w : World) (hL : Laid w) (hs : s.size ≤ 140737488351232) : Calls Tryd.prog 4 #[.string s] w fun e w' => e = .returned (.bool true) ∧ Below w.heap.size w w' := walk_words s w hL hs
end Go.Proofs.YthmgocjmfhpafaaDoor.A18
