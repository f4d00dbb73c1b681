/- The walks of the laws CellsDistance, CellsBytes and CellsRoundTrip. -/
import Derived.Test.YtkjbbhlekadomaaC1Law
import Derived.Test.YtkjbbhlekadomaaC1RTo
namespace Go.Proofs.Ytkjbbhlekadomaa.C1
open Go.RowKit Mem

set_option maxHeartbeats 1000000 in
theorem walk_distance (a b : ByteArray) (w : World) (ha : a.size ≤ 140737488351232) (hb : b.size ≤ 140737488351232) :
    Calls Try.prog 5 #[.string a, .string b] w fun e w' => e = .returned (.bool true) ∧ Below w.heap.size w w' := by
  by_cases hs : a.size + b.size ≤ 4000
  · have hle : (a.size : Int) + (b.size : Int) ≤ 4000 := by omega
    go_enter Try.func5, Try.ntmps5
    go_wp2_with fail
    refine (alive_any _).mono ?_
    rintro e w1 ⟨rfl, hb1⟩
    go_wp2_with fail
    refine (distance_any a b _ (by omega) (by omega)).mono ?_
    rintro e w2 ⟨rfl, n, rfl⟩
    go_wp2_with fail
    refine (rdistance_any a b _ (by omega) (by omega)).mono ?_
    rintro e w2 ⟨rfl, n2, rfl⟩
    go_wp2
    go_ret
    exact ⟨rfl, chainN hb1 _⟩
  · have hgt : (4000 : Int) < (a.size : Int) + (b.size : Int) := by omega
    go_enter Try.func5, Try.ntmps5
    go_wp2_with fail
    refine (alive_any _).mono ?_
    rintro e w1 ⟨rfl, hb1⟩
    go_wp2
    go_ret
    exact ⟨rfl, hb1⟩

theorem walk_bytes (b c : ByteArray) (w : World) (hb : b.size ≤ 140737488351232) (hc : c.size ≤ 140737488351232) :
    Calls Try.prog 4 #[.string b, .string c] w fun e w' => e = .returned (.bool true) ∧ Below w.heap.size w w' := by
  by_cases hs : b.size + c.size ≤ 4000
  · have hle : (b.size : Int) + (c.size : Int) ≤ 4000 := by omega
    go_enter Try.func4, Try.ntmps4
    go_wp2_with fail
    refine (alive_any _).mono ?_
    rintro e w1 ⟨rfl, hb1⟩
    go_wp2_with fail
    refine (toBytes_any c _ (by omega)).mono ?_
    rintro e w2 ⟨v, rfl, hv, hb2⟩
    go_wp2_with fail
    refine (rtoBytes_any c _ (by omega)).mono ?_
    rintro e w3 ⟨u, rfl, hu, hb3⟩
    go_wp2_with fail
    refine (fromBytes_any b _ (by omega)).mono ?_
    rintro e w4 ⟨rfl, hb4⟩
    go_wp2_with fail
    refine (rfromBytes_any b _ (by omega)).mono ?_
    rintro e w5 ⟨rfl, hb5⟩
    have hv5 := own_below (own_below (own_below hv hb3) hb4) hb5
    have hu5 := own_below (own_below hu hb4) hb5
    have hl : (tbL c.data.toList).length ≤ 1000000 := by
      unfold tbL
      split
      · refine Nat.le_trans (bad_le _ _) ?_
        have : c.data.toList.length = c.size := by simp
        omega
      · simp
    have hS := Lib.hid (same_any v u _ _ _ w5 hl hv5 hu5)
    have hb' := chain (chain (chain (chain hb1 hb2) hb3) hb4) hb5
    clear hv hu hv5 hu5 hb1 hb2 hb3 hb4 hb5 hl
    go_wp2_with fail
    refine hS.out.mono ?_
    rintro e w6 ⟨rfl, n, rfl⟩
    go_wp2
    go_ret
    exact ⟨rfl, chainN hb' _⟩
  · have hgt : (4000 : Int) < (b.size : Int) + (c.size : Int) := by omega
    go_enter Try.func4, Try.ntmps4
    go_wp2_with fail
    refine (alive_any _).mono ?_
    rintro e w1 ⟨rfl, hb1⟩
    go_wp2
    go_ret
    exact ⟨rfl, hb1⟩
end Go.Proofs.Ytkjbbhlekadomaa.C1
