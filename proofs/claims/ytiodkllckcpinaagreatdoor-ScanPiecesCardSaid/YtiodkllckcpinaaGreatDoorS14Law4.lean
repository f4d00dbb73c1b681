/- The walk of the law ScanPieces. -/
import Derived.Test.YtiodkllckcpinaaGreatDoorS14Awake
import Derived.Test.YtiodkllckcpinaaGreatDoorS14Law1
import Derived.Test.YtiodkllckcpinaaGreatDoorS14Cells
set_option linter.unusedVariables false
set_option linter.unusedSimpArgs false
set_option maxRecDepth 100000
namespace Go.Proofs.YtiodkllckcpinaaGreatDoor
namespace S14
open Go.RowKit Mem F13

theorem busy_listD (cs : List ByteArray) (W : World) (hn : cs.length ≤ 10) (hcs : ∀ c ∈ cs, c.size ≤ 1000000) : Calls Tryz.prog 13 #[.slice (some ⟨W.heap.size, 0, none⟩) cs.length cs.length, .int .i64 10] (World.drew (W.alloc (.cells (cs.map Value.string).toArray 9))) fun e w' => ∃ z : Int, (z = 0 ∨ z = 1) ∧ e = .returned (.int .i64 z) ∧ Below W.heap.size W w' :=
 (rbusy_any cs _ cs.length _ hn hcs ((rd_list W 9 (cs.map Value.string)).below (chainN (Below.refl _ _) 1))).mono fun e w' h => by
  obtain ⟨⟨z, hz, he⟩, hb⟩ := h
  exact ⟨z, hz, he, chain (chainN ((Below.refl _ _).alloc (Nat.le_refl _) _) 1) hb⟩
set_option maxHeartbeats 8000000 in
theorem walk_pieces (A : Option Addr) (n cap : Nat) (ps : List Pt) (m : Nat) (w : World) (hps : IsParts w A n cap ps) (hn : n * 48 ≤ 140737488355328) (hm : m ≤ 65535) : Calls Tryz.prog 3 #[.slice A n cap, .int .u16 (m : Int)] w fun e w' => e = .returned (.bool true) ∧ Below w.heap.size w w' := by
 have cA := Lib.hid (fun W => awake_any W)
 obtain rfl := hps.len
 have cC := cells_any ps A cap w hps hn
 unfold CeP at cC
 replace cC := Lib.hid cC
 have m1 : (m : Int) ≤ 65535 := by omega
 clear hps hn hm
 go_enter Tryz.func3, Tryz.ntmps3
 go_wp2_with fail
 refine cC.out.mono ?_
 rintro e w1 ⟨S, B, hSB, rfl, hb1⟩
 clear cC
 cases B with
 | false =>
  clear hSB
  go_wp2_with fail
  refine (cA.out _).mono ?_
  rintro e w2 ⟨rfl, hb2⟩
  have hfin := Lib.hid (chain hb1 hb2)
  clear hb1 hb2
  go_wp2
  go_ret
  exact ⟨rfl, hfin.out⟩
 | true =>
  have hS := hSB rfl
  clear hSB
  obtain ⟨K, hK⟩ : ∃ K : Nat, K = m % (S.size + 1) := ⟨_, rfl⟩
  have hKS : K ≤ S.size := by rw [hK]; exact Nat.le_of_lt_succ (Nat.mod_lt _ (by omega))
  obtain ⟨s1, hs1⟩ : ∃ s : Nat, s = S.size + 1 := ⟨_, rfl⟩
  have sI : (S.size : Int) + 1 = (s1 : Int) := by omega
  rw [← hs1] at hK
  have K1 : (m : Int) % (s1 : Int) = (K : Int) := by rw [hK]; exact (Int.natCast_emod m s1).symm
  have K2 : (m : Int).tmod (s1 : Int) = (K : Int) := by rw [Int.tmod_eq_emod_of_nonneg (by omega)]; exact K1
  have z1 : ¬ (s1 : Int) = 0 := by omega
  have z2 : ((s1 : Int) == 0) = false := beq_eq_false_iff_ne.2 z1
  have k0 : (0 : Int) ≤ (K : Int) := by omega
  have kS : (K : Int) ≤ (S.size : Int) := by omega
  have k4 : (K : Int) ≤ 4000 := by omega
  have s4 : (S.size : Int) ≤ 4000 := by omega
  have s5 : (s1 : Int) ≤ 4001 := by omega
  have hz1 : (S.extract 0 K).size ≤ 4000 := by rw [ByteArray.size_extract]; omega
  have hz2 : (S.extract K S.size).size ≤ 4000 := by rw [ByteArray.size_extract]; omega
  obtain ⟨T1, hT1⟩ : ∃ T, S.extract 0 K = T := ⟨_, rfl⟩
  obtain ⟨T2, hT2⟩ : ∃ T, S.extract K S.size = T := ⟨_, rfl⟩
  rw [hT1] at hz1
  rw [hT2] at hz2
  have cB := fun W => busy_listD [S, T1, T2] W (by show 3 ≤ 10; omega) (fun x hx => by
   rcases List.mem_cons.1 hx with rfl | hx
   ·omega
   ·rcases List.mem_cons.1 hx with rfl | hx
    ·omega
    ·rw [List.mem_singleton.1 hx]; omega)
  simp only [List.length_cons, List.length_nil, Nat.zero_add, Nat.reduceAdd, List.map_cons, List.map_nil] at cB
  have cPo := fun A W h => pieces_own [T1, T2] A 2 W (by show 2 ≤ 10; omega) (fun x hx => by
   rcases List.mem_cons.1 hx with rfl | hx
   ·omega
   ·rw [List.mem_singleton.1 hx]; omega) h
  have cPr := fun A W h => rpieces_any [T1, T2] A 2 W (by show 2 ≤ 10; omega) (fun x hx => by
   rcases List.mem_cons.1 hx with rfl | hx
   ·omega
   ·rw [List.mem_singleton.1 hx]; omega) h
  unfold PsP at cPo cPr
  simp only [List.length_cons, List.length_nil, Nat.zero_add, Nat.reduceAdd, List.map_cons, List.map_nil] at cPo cPr
  have cP := fun W => piece_own S W (by omega)
  have cR := fun W => rpiece_any S W (by omega)
  unfold PcP at cP cR
  replace cB := Lib.hid cB
  replace cPo := Lib.hid cPo
  replace cPr := Lib.hid cPr
  replace cP := Lib.hid cP
  replace cR := Lib.hid cR
  have hSh := Lib.hid hS
  have hB1 := Lib.hid hb1
  clear hK hKS hs1 hz1 hz2 hS hb1
  go_wp2
  go_region
  have hR := (rd_list w1 9 [.string T1, .string T2]).below (chainN (Below.refl _ _) 1)
  have hB2 := chainN (hB1.out.alloc hB1.out.size (.cells #[.string T1, .string T2] 9)) 1
  obtain ⟨w2, hw2⟩ : ∃ W, World.drew (w1.alloc (.cells #[.string T1, .string T2] 9)) = W := ⟨_, rfl⟩
  rw [show World.drewN (w1.alloc (.cells ([.string T1, .string T2] : List Value).toArray 9)) 1 = w2 from hw2] at hR
  rw [show World.drewN (w1.alloc (.cells #[.string T1, .string T2] 9)) 1 = w2 from hw2] at hB2
  rw [hw2]
  obtain ⟨g, hg⟩ : ∃ g, w1.heap.size = g := ⟨_, rfl⟩
  rw [hg] at hR ⊢
  replace hR := Lib.hid hR
  replace hB2 := Lib.hid hB2
  clear hB1 hw2 hg
  have keep0 := Below.refl w2.heap.size w2
  have keep1 : ∀ W, Below w2.heap.size w2 W → Below w2.heap.size w2 (World.drew W) := fun W h => chainN h 1
  have keepA : ∀ (W : World) (o : Obj), Below w2.heap.size w2 W → Below w2.heap.size w2 (W.alloc o) := fun W o h => h.alloc h.size o
  go_wp2
  go_region_held3 (fun W => Below w2.heap.size w2 W) (first | exact keep0 | exact keep1 _ keep0 | exact keepA _ _ keep0 | exact keepA _ _ (keep1 _ keep0) | exact keep1 _ (keepA _ _ keep0) | exact keepA _ _ ‹_› | exact chain ‹_› ‹_› | assumption) (first | (go_at_call 13; (with_reducible refine (cB.out _).mono ?_); rintro e3 w10 ⟨z, hz, rfl, hb3⟩))
  have hb10 := Lib.hid hb3
  clear hb3 keep0 keep1 keepA cB hT1 hT2 sI z1 z2 k0 kS k4 s4 s5 K1 K2
  rcases hz with rfl | rfl
  ·go_wp2_with fail
   with_reducible refine (cPo.out _ _ (hR.out.below hb10.out)).mono ?_
   rintro e w11 ⟨L, v, hL, hLn, rfl, hr, hb11⟩
   obtain ⟨A1, cap1, rfl, _, _, hR1⟩ := rdS_of hr
   have hR11 := Lib.hid ((hR.out.below hb10.out).below hb11)
   have hB11 := Lib.hid (chain (chain hB2.out hb10.out) hb11)
   replace hR1 := Lib.hid hR1
   replace hL := Lib.hid hL
   clear hr hb11 hB2 hR cPo hb10
   go_wp2_with fail
   with_reducible refine (cPr.out _ _ hR11.out).mono ?_
   rintro e w12 ⟨L2, v2, hL2, hLn2, rfl, hr2, hb12⟩
   obtain rfl := hL.out.only hL2
   obtain ⟨A2, cap2, rfl, _, _, hR2⟩ := rdS_of hr2
   have cS := Lib.hid (rsame_any _ A1 A2 cap1 cap2 w12 (by omega) (hR1.out.below hb12) hR2)
   have hB12 := Lib.hid (chain hB11.out hb12)
   clear hr2 hb12 hB11 hL hLn hL2 hLn2 hR1 hR2 hR11 cPr
   go_wp2_with fail
   with_reducible refine (cS.out).mono ?_
   rintro e w13 ⟨rfl, q, rfl⟩
   have hB13 := Lib.hid (chainN hB12.out q)
   obtain ⟨W13, hW13⟩ : ∃ W, World.drewN w12 q = W := ⟨_, rfl⟩
   rw [hW13] at hB13 ⊢
   clear cS hB12 hW13
   go_wp2_with fail
   refine (cP.out _).mono ?_
   rintro e w14 ⟨l, v, hl, rfl, hr, hb14⟩
   obtain ⟨A1, cap1, rfl, _, _, hR1⟩ := rdS_of hr
   rw [List.length_map]
   have hB14 := Lib.hid (chain hB13.out hb14)
   replace hR1 := Lib.hid hR1
   replace hl := Lib.hid hl
   clear hr hb14 hB13 cP
   go_wp2_with fail
   refine (cR.out _).mono ?_
   rintro e w15 ⟨l2, v2, hl2, rfl, hr2, hb15⟩
   obtain rfl := hl.out.only hl2
   obtain ⟨A2, cap2, rfl, _, _, hR2⟩ := rdS_of hr2
   have hn : (l.map fun s => ((0 : Nat), s)).length ≤ 100000000 := by
    rw [List.length_map]
    have := hl2.len
    have := hSh.out
    omega
   have cS := rsame_any _ A1 A2 cap1 cap2 w15 hn (hR1.out.below hb15) hR2
   rw [List.length_map] at cS ⊢
   have hB15 := Lib.hid (chain hB14.out hb15)
   replace cS := Lib.hid cS
   clear hr2 hb15 hB14 hl hl2 hR1 hR2 hn cR
   go_wp2_with fail
   with_reducible refine (cS.out).mono ?_
   rintro e w16 ⟨rfl, q, rfl⟩
   clear cS
   go_wp2_with fail
   refine (cA.out _).mono ?_
   rintro e w17 ⟨rfl, hb17⟩
   have hfin := Lib.hid (chain (chainN hB15.out q) hb17)
   clear hB15 hb17
   go_wp2
   go_ret
   exact ⟨rfl, hfin.out⟩
  ·go_wp2_with fail
   refine (cA.out _).mono ?_
   rintro e w11 ⟨rfl, hb11⟩
   have hfin := Lib.hid (chain (chain hB2.out hb10.out) hb11)
   clear hB2 hb10 hb11 hR
   go_wp2
   go_ret
   exact ⟨rfl, hfin.out⟩
end S14
end Go.Proofs.YtiodkllckcpinaaGreatDoor
