/- The walks of the laws ScanStrings and ScanJoin. -/
import Derived.Test.YtiodkllckcpinaaGreatDoorS14Awake
import Derived.Test.YtiodkllckcpinaaGreatDoorM14BE
import Derived.Test.YtiodkllckcpinaaGreatDoorS14Ref4
set_option linter.unusedVariables false
set_option linter.unusedSimpArgs false
set_option maxRecDepth 100000
namespace Go.Proofs.YtiodkllckcpinaaGreatDoor
namespace S14
open Go.RowKit Mem F13

theorem rd_list (W : World) (T : TypeId) (vs : List Value) : Rd (W.alloc (.cells vs.toArray T)) (some ⟨W.heap.size, 0, none⟩) vs := fun j hj => by
 refine ⟨W.heap.size, 0, rfl, by simp, ?_⟩
 rw [World.cell?_alloc_new, Nat.zero_add]
 simp [hj]
theorem busy_list (cs : List ByteArray) (W : World) (hn : cs.length ≤ 10) (hcs : ∀ c ∈ cs, c.size ≤ 1000000) : Calls Tryz.prog 13 #[.slice (some ⟨W.heap.size, 0, none⟩) cs.length cs.length, .int .i64 10] (W.alloc (.cells (cs.map Value.string).toArray 9)) fun e w' => ∃ z : Int, (z = 0 ∨ z = 1) ∧ e = .returned (.int .i64 z) ∧ Below W.heap.size W w' :=
 (rbusy_any cs _ cs.length _ hn hcs (rd_list W 9 (cs.map Value.string))).mono fun e w' h => by
  obtain ⟨⟨z, hz, he⟩, hb⟩ := h
  exact ⟨z, hz, he, chain ((Below.refl _ _).alloc (Nat.le_refl _) _) hb⟩
set_option maxHeartbeats 8000000 in
theorem walk_strings (c : ByteArray) (w : World) (hc : c.size ≤ 140737488351232) : Calls Tryz.prog 4 #[.string c] w fun e w' => e = .returned (.bool true) ∧ Below w.heap.size w w' := by
 have cA := Lib.hid (fun W => awake_any W)
 by_cases h : 2000 < c.size
 ·have d1 : decide ((2000 : Int) < (c.size : Int)) = true := decide_eq_true (by omega)
  have d1' : decide (2000 < c.size) = true := decide_eq_true h
  clear h hc
  go_enter Tryz.func4, Tryz.ntmps4
  go_wp2_with fail
  refine (cA.out _).mono ?_
  rintro e w1 ⟨rfl, hb1⟩
  go_wp2
  go_ret
  exact ⟨rfl, hb1⟩
 ·have d1 : decide ((2000 : Int) < (c.size : Int)) = false := decide_eq_false (by omega)
  have d1' : decide (2000 < c.size) = false := decide_eq_false h
  have cB := fun W => busy_list [c] W (by show 1 ≤ 10; omega) (fun x hx => by rw [List.mem_singleton.1 hx]; omega)
  simp only [List.length_cons, List.length_nil, Nat.zero_add, List.map_cons, List.map_nil] at cB
  have cP := fun W => piece_own c W (by omega)
  have cR := fun W => rpiece_any c W (by omega)
  unfold PcP at cP cR
  have c2 : c.size ≤ 2000 := by omega
  replace cB := Lib.hid cB
  replace cP := Lib.hid cP
  replace cR := Lib.hid cR
  replace c2 := Lib.hid c2
  clear h hc
  go_enter Tryz.func4, Tryz.ntmps4
  go_wp2_with fail
  with_reducible refine (cB.out _).mono ?_
  rintro e w1 ⟨z, hz, rfl, hb1⟩
  clear cB
  rcases hz with rfl | rfl
  ·go_wp2_with fail
   refine (cP.out _).mono ?_
   rintro e w2 ⟨l, v, hl, rfl, hr, hb2⟩
   obtain ⟨A1, cap1, rfl, _, _, hR1⟩ := rdS_of hr
   rw [List.length_map]
   go_wp2_with fail
   refine (cR.out _).mono ?_
   rintro e w3 ⟨l2, v2, hl2, rfl, hr2, hb3⟩
   obtain rfl := hl.only hl2
   obtain ⟨A2, cap2, rfl, _, _, hR2⟩ := rdS_of hr2
   have hn : (l.map fun s => ((0 : Nat), s)).length ≤ 100000000 := by
    rw [List.length_map]
    have := hl.len
    have := c2.out
    omega
   have cS := rsame_any _ A1 A2 cap1 cap2 w3 hn (hR1.below hb3) hR2
   rw [List.length_map] at cS ⊢
   have hB := Lib.hid (chain (chain hb1 hb2) hb3)
   replace cS := Lib.hid cS
   clear hl hl2 hr hr2 hR1 hR2 hn hb1 hb2 hb3 cP cR
   go_wp2_with fail
   with_reducible refine (cS.out).mono ?_
   rintro e w4 ⟨rfl, m, rfl⟩
   clear cS
   go_wp2_with fail
   refine (cA.out _).mono ?_
   rintro e w5 ⟨rfl, hb5⟩
   have hfin := Lib.hid (chain (chainN hB.out m) hb5)
   clear hB hb5
   go_wp2
   go_ret
   exact ⟨rfl, hfin.out⟩
  ·go_wp2_with fail
   refine (cA.out _).mono ?_
   rintro e w2 ⟨rfl, hb2⟩
   have hfin := Lib.hid (chain hb1 hb2)
   clear hb1 hb2
   go_wp2
   go_ret
   exact ⟨rfl, hfin.out⟩
set_option maxHeartbeats 8000000 in
theorem walk_join (A : Option Addr) (n cap : Nat) (fs : List Fr) (w : World) (hfs : IsFrames w A n cap fs) : Calls Tryz.prog 5 #[.slice A n cap] w fun e w' => e = .returned (.bool true) ∧ Below w.heap.size w w' := by
 have cA := Lib.hid (fun W => awake_any W)
 obtain rfl := hfs.len
 by_cases h : 4 < fs.length
 ·have d1 : decide ((4 : Int) < (fs.length : Int)) = true := decide_eq_true (by omega)
  have d1' : decide (4 < fs.length) = true := decide_eq_true h
  clear h hfs
  go_enter Tryz.func5, Tryz.ntmps5
  go_wp2_with fail
  refine (cA.out _).mono ?_
  rintro e w1 ⟨rfl, hb1⟩
  go_wp2
  go_ret
  exact ⟨rfl, hb1⟩
 ·have d1 : decide ((4 : Int) < (fs.length : Int)) = false := decide_eq_false (by omega)
  have d1' : decide (4 < fs.length) = false := decide_eq_false h
  have cJ := join_own fs A cap w hfs (by omega)
  have cR := fun (W : World) (hb : Below w.heap.size w W) => rjoin_any fs A cap W (hfs.below hb) (by omega)
  unfold JoP at cJ
  unfold JoP' at cR
  replace cJ := Lib.hid cJ
  replace cR := Lib.hid cR
  clear h hfs
  go_enter Tryz.func5, Tryz.ntmps5
  go_wp2_with fail
  refine cJ.out.mono ?_
  rintro e w1 ⟨S, k, hJ, rfl, hb1⟩
  go_wp2_with fail
  refine (cR.out _ hb1).mono ?_
  rintro e w2 ⟨S2, k2, hJ2, rfl, hb2⟩
  obtain ⟨rfl, rfl⟩ := hJ.only hJ2
  have hB := Lib.hid (chain hb1 hb2)
  clear hJ hJ2 hb1 hb2 cJ cR
  go_wp2_with fail
  refine (cA.out _).mono ?_
  rintro e w3 ⟨rfl, hb3⟩
  have hfin := Lib.hid (chain hB.out hb3)
  clear hB hb3
  go_wp2
  go_ret
  exact ⟨rfl, hfin.out⟩
end S14
end Go.Proofs.YtiodkllckcpinaaGreatDoor
