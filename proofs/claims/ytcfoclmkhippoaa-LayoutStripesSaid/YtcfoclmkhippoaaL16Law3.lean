/- The walk of the law LayoutStripes. -/
import Derived.Test.YtcfoclmkhippoaaL16Open
import Derived.Test.YtcfoclmkhippoaaL16Lp
import Derived.Test.YtcfoclmkhippoaaL16Ref4
namespace Go.Proofs.Ytcfoclmkhippoaa.L16
set_option maxRecDepth 100000
open Go.RowKit Mem
open Go.Proofs.Ytcfoclmkhippoaa.G5 Go.Proofs.Ytcfoclmkhippoaa.G7 Go.Proofs.Ytcfoclmkhippoaa.E15
set_option linter.unusedVariables false
set_option linter.unusedSimpArgs false

/-- How long the list of stripes and each stripe is. -/
theorem sts_small {D S : Int} {x : List R} {k : Int} {L : List (List (List R))} (h : StsQ D S x k L) (hx : x.length ≤ 100000) : L.length ≤ 100000 ∧ ∀ s ∈ L, s.length ≤ 1000 := by
  rcases h.err with e | e
  · obtain ⟨hL, rfl⟩ := h.yes e
    have h1 := hL.1; have h2 := hL.2.1; have h3 := hL.2.2.1; have h4 := hL.2.2.2
    refine ⟨by rw [sts_len]; exact Nat.le_trans (cnt_le (by omega)) hx, fun s hs => ?_⟩
    obtain ⟨t, _, rfl⟩ := List.mem_map.1 hs
    rw [stp_len]
    omega
  · rw [(h.no e).2]
    exact ⟨Nat.zero_le _, fun s hs => by cases hs⟩
set_option maxHeartbeats 8000000 in
theorem walk_stripes (D S : Int) (c : ByteArray) (w : World) :
    Calls Try.prog 5 #[lyV D S, .string c] w fun e w' => e = .returned (.bool true) ∧ Below w.heap.size w w' := by
  have cA := fun W => alive_any W
  have hP := LB.new w D S 23
  obtain ⟨W0, hW0⟩ : ∃ W0, w.alloc (.cells #[.int .i64 D, .int .i64 S] 23) = W0 := ⟨_, rfl⟩
  rw [hW0] at hP
  obtain ⟨A, hA⟩ : ∃ A, w.heap.size = A := ⟨_, rfl⟩
  rw [hA] at hP
  have hAh := Lib.hid hA
  replace cA := Lib.hid cA
  replace hP := Lib.hid hP
  by_cases hn : 600 < c.size
  · have t1 : decide ((600 : Int) < (c.size : Int)) = true := decide_eq_true (by omega)
    have t2 : decide (600 < c.size) = true := decide_eq_true hn
    unfold lyV
    clear hn
    go_enter Try.func5, Try.ntmps5
    go_wp2_with fail
    refine (cA.out _).mono ?_
    rintro e w1 ⟨rfl, hb1⟩
    have hfin := Lib.hid (hP.out.next hb1).bel
    clear hP hb1 hW0
    go_wp2
    go_ret
    exact ⟨rfl, hfin.out⟩
  have t1 : decide ((600 : Int) < (c.size : Int)) = false := decide_eq_false (by omega)
  have t2 : decide (600 < c.size) = false := decide_eq_false hn
  have hc : c.size ≤ 100000 := by omega
  have c1 := fun W => sts_own D S c hc W
  have c2 := fun W => rsts_any D S c hc W
  have hsm := fun k L (h : StsQ D S (el c) k L) => sts_small h (by rw [el_len]; exact hc)
  unfold lyV at c1 c2
  unfold lyV
  replace c1 := Lib.hid c1
  replace c2 := Lib.hid c2
  replace hsm := Lib.hid hsm
  clear hn hc
  go_enter Try.func5, Try.ntmps5
  go_wp2_with fail
  refine (cA.out _).mono ?_
  rintro e w1 ⟨rfl, hb1⟩
  replace hP := Lib.hid (hP.out.next hb1)
  clear hW0 hb1
  have x0 := hP.out.c0
  have x1 := hP.out.c1
  go_wp2_with fail
  refine (c1.out _).mono ?_
  rintro e w2 ⟨k1, L1, A1, m1, hq1, rfl, hI1, hb2⟩
  replace hP := Lib.hid (hP.out.next hb2)
  clear x0 x1 hb2
  have x0 := hP.out.c0
  have x1 := hP.out.c1
  replace hI1 := Lib.hid hI1
  replace hq1 := Lib.hid hq1
  go_wp2_with fail
  refine (c2.out _).mono ?_
  rintro e w3 ⟨k2, L2, A2, m2, hq2, rfl, hI2, hb3⟩
  obtain ⟨rfl, rfl⟩ := hq2.only hq1.out
  obtain ⟨hs1, hs2⟩ := hsm.out _ _ hq2
  have cS := ssame_any (hI1.out.below hb3) hI2 hs1 hs1 hs2
  have hfin := Lib.hid (hP.out.next hb3).bel
  have t3 : (k2 == k2) = true := beq_self_eq_true _
  obtain ⟨N, hN⟩ : ∃ N, L2.length = N := ⟨_, rfl⟩
  rw [hN] at cS ⊢
  replace cS := Lib.hid cS
  clear x0 x1 hb3 hP hI1 hI2 hq1 hq2 hs1 hs2 hsm c1 c2 hN
  go_wp2_with fail
  refine (cS.out).mono ?_
  rintro e w4 ⟨⟨b, rfl, hb⟩, q, rfl⟩
  obtain rfl := hb.2 (by first | trivial | rfl)
  have hf2 := Lib.hid (chainN hfin.out q)
  clear hb cS hfin
  go_wp2
  go_ret
  exact ⟨rfl, hf2.out⟩
/-- The same at what the reading says. -/
theorem row_stripes (D S : Int) (c : ByteArray) (w : World) (hD : (Lit.int .i64 D).wf = true) (hS : (Lit.int .i64 S).wf = true) (hc : c.size ≤ 140737488351232) : Calls Try.prog 5 #[lyV D S, .string c] w fun e w' => e = .returned (.bool true) ∧ Below w.heap.size w w' := by
  exact walk_stripes D S c w
end Go.Proofs.Ytcfoclmkhippoaa.L16
