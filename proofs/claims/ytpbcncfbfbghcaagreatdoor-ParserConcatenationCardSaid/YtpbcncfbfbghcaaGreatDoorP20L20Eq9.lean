/- Equal programs, as the reference finds out: the one way (layer 20). -/
import Derived.Test.YtpbcncfbfbghcaaGreatDoorP20P
import Derived.Test.YtpbcncfbfbghcaaGreatDoorP20L20Eq8
import Derived.Laws.StructEq
import Derived.BigQuiet
import Derived.Deep.QuietTactic
namespace Go.Proofs.YtpbcncfbfbghcaaGreatDoor.L20
set_option maxRecDepth 100000
open Go.RowKit Mem L19
set_option linter.unusedVariables false
set_option linter.unusedSimpArgs false

theorem cell_drew {w : World} {a : Addr} {v : Option Value} (h : w.cell? a = v) : w.drew.cell? a = v := h
set_option maxHeartbeats 16000000 in
theorem refEqualT {p : Prog} {V A E V2 A2 E2 : Option Addr} {cv ca ce dv da de : Nat} {F G : Nat → Prop} {w : World} (hp : PgM w F p V A E cv ca ce) (hq : PgM w G p V2 A2 E2 dv da de) (wp : Wfp p) :
    Calls Tryz.prog 15 #[pgV p V A E cv ca ce, pgV p V2 A2 E2 dv da de] w fun e w' => e = .returned (.bool true) ∧ Below w.heap.size w w' := by
  have hml : maxLen = 9223372036854775807 := rfl
  have a1 := RowA.le hp.arrays
  have a2 := RowA.capm hp.arrays
  have a3 := RowA.le hq.arrays
  have a4 := RowA.capm hq.arrays
  have b1 := hp.funcs.le
  have b2 := hq.funcs.le
  rw [hml] at a2 a4 b1 b2
  unfold pgV
  obtain ⟨lV, hlV⟩ : ∃ z, p.vars.length = z := ⟨_, rfl⟩
  obtain ⟨lA, hlA⟩ : ∃ z, p.arrays.length = z := ⟨_, rfl⟩
  obtain ⟨lE, hlE⟩ : ∃ z, p.funcs.length = z := ⟨_, rfl⟩
  rw [hlV, hlA, hlE]
  obtain ⟨W2, g2, hW2, hg2, hb2, hl2⟩ := box_new w [.slice V lV cv, .slice A lA ca, .slice E lE ce] 27
  obtain ⟨W3, g3, hW3, hg3, hb3, hl3⟩ := box_new W2 [.slice V2 lV dv, .slice A2 lA da, .slice E2 lE de] 27
  have hl := chain hl2 hl3
  have hb2 := hb2.below hl3
  have x0 := hb2.cell 0
  have x1 := hb2.cell 1
  have x2 := hb2.cell 2
  have y0 := hb3.cell 0
  have y1 := hb3.cell 1
  have y2 := hb3.cell 2
  simp only [List.getElem?_cons_zero, List.getElem?_cons_succ] at x0 x1 x2 y0 y1 y2
  have kp := fun F' => Kept.of_below (F := F') hl
  have cV : Hid (Calls Tryz.prog 40 #[.slice V lV cv, .slice V2 lV dv] W3 fun e w' => e = .returned (.bool true) ∧ ∃ q, w' = W3.drewN q) := Lib.hid (by
    have h := refNames (hp.vars.keep (kp _)) (hq.vars.keep (kp _)) hlV hlV
    rw [decide_eq_true rfl] at h
    exact h)
  have hA1 := hp.arrays.keep (kp _)
  have hA2 := hq.arrays.keep (kp _)
  have hF1 := Lib.hid (hp.funcs.keep (kp _))
  have hF2 := Lib.hid (hq.funcs.keep (kp _))
  have hl0 := Lib.hid hl
  have l2 := hb2.lt
  have l3 := hb3.lt
  have z3 : W3.heap.size ≤ W3.heap.size := Nat.le_refl _
  have t1 : ((lA : Int) != (lA : Int)) = false := by simp
  have t2 : ((lE : Int) != (lE : Int)) = false := by simp
  have hga := Lib.hid (fun (k : Nat) (x : Str × Nat) (hk : p.arrays[k]? = some x) => ArrsF.at hA1 hk)
  have hgb := Lib.hid (fun (k : Nat) (x : Str × Nat) (hk : p.arrays[k]? = some x) => ArrsF.at hA2 hk)
  replace wp := Lib.hid wp
  clear hl hl2 hl3 hA1 hA2 hp hq hb2 hb3
  go_enter Tryz.func15, Tryz.ntmps15
  go_wp2_with fail
  refine (cV.out).mono ?_
  rintro e w' ⟨rfl, n0, rfl⟩
  clear cV
  go_wp2
  go_loopw [5] (fun iv wr => ∃ (k : Nat), iv = .int .i64 (k : Int) ∧ k ≤ lA ∧ Hid (Below W3.heap.size W3 wr)) (fun iv _ => lA - (intOf iv).toNat)
  case atStart => exact ⟨0, rfl, Nat.zero_le _, Lib.hid (chainN (Below.refl _ _) n0)⟩
  case round =>
    obtain ⟨k, rfl, hk, hw⟩ := hrel
    have mv : ∀ (b o : Nat) (v : Value), b < W3.heap.size → W3.cell? ⟨b, o, none⟩ = some v → wr.cell? ⟨b, o, none⟩ = some v := fun b o v hb h => ((Kept.of_below (F := fun _ => True) hw.out).cell trivial hb).trans h
    have r1 := mv _ _ _ l2 x1
    have r2 := mv _ _ _ l2 x2
    have s1 := mv _ _ _ l3 y1
    have s2 := mv _ _ _ l3 y2
    by_cases hlt : k < lA
    case pos =>
      have dk : decide ((k : Int) < (lA : Int)) = true := decide_eq_true (by omega)
      have k0 : (0 : Int) ≤ (k : Int) := by omega
      have k1 : (k : Int) < (lA : Int) := by omega
      have k2 : (k : Int) + 1 ≤ 9223372036854775807 := by omega
      obtain ⟨⟨T, z⟩, hT⟩ : ∃ x, p.arrays[k]? = some x := ⟨_, List.getElem?_eq_getElem (by omega)⟩
      obtain ⟨b1', o1, rfl, _, hh1, g1, g2'⟩ := hga.out k _ hT
      obtain ⟨b2', o2, rfl, _, hh2, g3', g4⟩ := hgb.out k _ hT
      have g1 := mv _ _ _ hh1 g1
      have g2' := mv _ _ _ hh1 g2'
      have g3' := mv _ _ _ hh2 g3'
      have g4 := mv _ _ _ hh2 g4
      unfold strV at g1 g3'
      obtain ⟨S, hS⟩ : ∃ S : ByteArray, ⟨T.toArray⟩ = S := ⟨_, rfl⟩
      rw [hS] at g1 g3'
      have hsB : (S.toList == S.toList) = true := by simp
      have t3 : ((z : Int) == (z : Int)) = true := by simp
      clear mv hS hga hgb hT hF1 hF2 x0 x1 x2 y0 y1 y2 hW2 hW3
      go_wp2
      go_quiet (fail)
      go_wp2
      rename_i nq _
      go_roundw
      case rel => exact ⟨k + 1, by go_num, by omega, Lib.hid (chainN hw.out nq)⟩
      case measure => simp [intOf]; omega
    case neg =>
      obtain rfl : k = lA := by omega
      have dk : decide ((k : Int) < (k : Int)) = false := decide_eq_false (by omega)
      clear mv hga hgb
      go_wp2
      clear r1 r2 s1 s2
      go_loopw [6] (fun iv ws => ∃ (j : Nat), iv = .int .i64 (j : Int) ∧ j ≤ lE ∧ Hid (Below W3.heap.size W3 ws)) (fun iv _ => lE - (intOf iv).toNat)
      case atStart => exact ⟨0, rfl, Nat.zero_le _, hw⟩
      case round =>
        obtain ⟨j, rfl, hj, hw'⟩ := hrel
        have mv : ∀ (b o : Nat) (v : Value), b < W3.heap.size → W3.cell? ⟨b, o, none⟩ = some v → wr.cell? ⟨b, o, none⟩ = some v := fun b o v hb h => ((Kept.of_below (F := fun _ => True) hw'.out).cell trivial hb).trans h
        have r1 := mv _ _ _ l2 x1
        have r2 := mv _ _ _ l2 x2
        have s1 := mv _ _ _ l3 y1
        have s2 := mv _ _ _ l3 y2
        by_cases hlt : j < lE
        case pos =>
            have dk : decide ((j : Int) < (lE : Int)) = true := decide_eq_true (by omega)
            have k0 : (0 : Int) ≤ (j : Int) := by omega
            have k1 : (j : Int) < (lE : Int) := by omega
            have k2 : (j : Int) + 1 ≤ 9223372036854775807 := by omega
            obtain ⟨x, hT⟩ : ∃ x, p.funcs[j]? = some x := ⟨_, List.getElem?_eq_getElem (by omega)⟩
            obtain ⟨b1', o1, P, L, B, cP, cL, cB, rfl, _, hh1, kx1, kx2, kx3, g⟩ := hF1.out.at hT
            obtain ⟨b2', o2, P2, L2, B2, cP2, cL2, cB2, rfl, _, hh2, ky1, ky2, ky3, g'⟩ := hF2.out.at hT
            have wx := wft_of (wp.out.2.2 x (List.mem_of_getElem? hT)).2.2.2.1
            have p0 := mv _ _ _ hh1 (g 0 _ rfl)
            have q0 := mv _ _ _ hh2 (g' 0 _ rfl)
            have p1 := mv _ _ _ hh1 (g 1 _ rfl)
            have q1 := mv _ _ _ hh2 (g' 1 _ rfl)
            have p2 := mv _ _ _ hh1 (g 2 _ rfl)
            have q2 := mv _ _ _ hh2 (g' 2 _ rfl)
            have p3 := mv _ _ _ hh1 (g 3 _ rfl)
            have q3 := mv _ _ _ hh2 (g' 3 _ rfl)
            simp only [← Nat.add_assoc, Nat.add_zero] at p0 q0 p1 q1 p2 q2 p3 q3
            unfold strV at p0 q0
            obtain ⟨S1, hS1⟩ : ∃ S : ByteArray, ⟨x.name.toArray⟩ = S := ⟨_, rfl⟩
            have hsB : (S1.toList == S1.toList) = true := by simp
            obtain ⟨uP, huP⟩ : ∃ z, x.params.length = z := ⟨_, rfl⟩
            obtain ⟨uL, huL⟩ : ∃ z, x.locals.length = z := ⟨_, rfl⟩
            obtain ⟨uB, huB⟩ : ∃ z, x.body.length = z := ⟨_, rfl⟩
            rw [hS1] at p0 q0
            rw [huP] at p1 q1
            rw [huL] at p2 q2
            rw [huB] at p3 q3
            have kP := Lib.hid (fun W (hW : Below W3.heap.size W3 W) => show Calls Tryz.prog 40 #[.slice P uP cP, .slice P2 uP cP2] W (fun e w' => e = .returned (.bool true) ∧ Below W.heap.size W w') by
              have h := calls_weak (refNames (kx1.keep (Kept.of_below hW)) (ky1.keep (Kept.of_below hW)) huP huP)
              rw [decide_eq_true rfl] at h
              exact h)
            have kL := Lib.hid (fun W (hW : Below W3.heap.size W3 W) => show Calls Tryz.prog 40 #[.slice L uL cL, .slice L2 uL cL2] W (fun e w' => e = .returned (.bool true) ∧ Below W.heap.size W w') by
              have h := calls_weak (refNames (kx2.keep (Kept.of_below hW)) (ky2.keep (Kept.of_below hW)) huL huL)
              rw [decide_eq_true rfl] at h
              exact h)
            have kB := Lib.hid (fun W (hW : Below W3.heap.size W3 W) => show Calls Tryz.prog 41 #[.slice B uB cB, .slice B2 uB cB2] W (fun e w' => e = .returned (.bool true) ∧ Below W.heap.size W w') from
              calls_weak (refStmtsT _ (Nat.lt_succ_self _) (kx3.keep (Kept.of_below hW)) (ky3.keep (Kept.of_below hW)) wx huB))
            have hz := hw'.out.size
            have n1 : b1' < wr.heap.size := by omega
            have n2 : b2' < wr.heap.size := by omega
            have n3 : b1' < wr.heap.size + 1 := by omega
            have n4 : b2' < wr.heap.size + 1 := by omega
            have n5 : b1' ≠ wr.heap.size := by omega
            have n6 : b2' ≠ wr.heap.size := by omega
            have n7 : b1' ≠ wr.heap.size + 1 := by omega
            have n8 : b2' ≠ wr.heap.size + 1 := by omega
            have n9 : g2 < wr.heap.size := by omega
            have na : g3 < wr.heap.size := by omega
            have nb : g2 ≠ wr.heap.size := by omega
            have nc : g3 ≠ wr.heap.size := by omega
            have nd : g2 ≠ wr.heap.size + 1 := by omega
            have ne : g3 ≠ wr.heap.size + 1 := by omega
            have nf : g2 < wr.heap.size + 1 := by omega
            have ng : g3 < wr.heap.size + 1 := by omega
            clear hz hh1 hh2 mv g g' hS1 hF1 hF2 hT x0 x1 x2 y0 y1 y2 hW2 hW3 wp kx1 kx2 kx3 ky1 ky2 ky3 wx huP huL huB
            go_wp2_with fail
            go_region
            · obtain ⟨Z2, m2, hZ2, hm2, hc2, hk2⟩ := box_new wr [.string S1, .slice P uP cP, .slice L uL cL, .slice B uB cB] 44
              obtain ⟨Z3, m3, hZ3, hm3, hc3, hk3⟩ := box_new Z2 [.string S1, .slice P2 uP cP2, .slice L2 uL cL2, .slice B2 uB cB2] 44
              have hZ2' : wr.alloc (.cells #[.string S1, .slice P uP cP, .slice L uL cL, .slice B uB cB] 44) = Z2 := hZ2
              have hZ3' : Z2.alloc (.cells #[.string S1, .slice P2 uP cP2, .slice L2 uL cL2, .slice B2 uB cB2] 44) = Z3 := hZ3
              have hm3' : wr.heap.size + 1 = m3 := by rw [← hm3, ← hZ2]; simp
              rw [hZ2', hZ3', hm3', hm2]
              have hZ0 := chain hw'.out (chain hk2 hk3)
              have hc2 := hc2.below hk3
              have n2' := hc2.lt
              have n3' := hc3.lt
              have x0 := hc2.cell 0
              have y0 := hc3.cell 0
              have x1 := hc2.cell 1
              have y1 := hc3.cell 1
              have x2 := hc2.cell 2
              have y2 := hc3.cell 2
              have x3 := hc2.cell 3
              have y3 := hc3.cell 3
              simp only [List.getElem?_cons_zero, List.getElem?_cons_succ] at x0 y0 x1 y1 x2 y2 x3 y3
              obtain ⟨Z, hZd, hZz⟩ : ∃ Z, Z3.drew = Z ∧ Z.heap.size = Z3.heap.size := ⟨_, rfl, rfl⟩
              have x0 := cell_drew x0
              rw [hZd] at x0
              have x1 := cell_drew x1
              rw [hZd] at x1
              have x2 := cell_drew x2
              rw [hZd] at x2
              have x3 := cell_drew x3
              rw [hZd] at x3
              have y0 := cell_drew y0
              rw [hZd] at y0
              have y1 := cell_drew y1
              rw [hZd] at y1
              have y2 := cell_drew y2
              rw [hZd] at y2
              have y3 := cell_drew y3
              rw [hZd] at y3
              rw [hZd]
              have hZ := Lib.hid (show Below W3.heap.size W3 Z by rw [← hZd]; exact below_drewB hZ0)
              replace n2' : m2 < Z.heap.size := by rw [hZz]; exact n2'
              replace n3' : m3 < Z.heap.size := by rw [hZz]; exact n3'
              clear hZ2 hZ3 hZ2' hZ3' hm3' hm2 hm3 hc2 hc3 hk2 hk3 hZ0 hZd hZz n1 n2 n3 n4 n5 n6 n7 n8 n9 na nb nc nd ne nf ng r1 r2 s1 s2 p0 p1 p2 p3 q0 q1 q2 q3
              go_wp2_with fail
              refine (kP.out _ hZ.out).mono ?_
              rintro e z0 ⟨rfl, hb⟩
              have kb := Kept.of_below (F := fun _ => True) hb
              have x0 := (kb.cell trivial n2').trans x0
              have x1 := (kb.cell trivial n2').trans x1
              have x2 := (kb.cell trivial n2').trans x2
              have x3 := (kb.cell trivial n2').trans x3
              have y0 := (kb.cell trivial n3').trans y0
              have y1 := (kb.cell trivial n3').trans y1
              have y2 := (kb.cell trivial n3').trans y2
              have y3 := (kb.cell trivial n3').trans y3
              replace n2' := Nat.lt_of_lt_of_le n2' hb.size
              replace n3' := Nat.lt_of_lt_of_le n3' hb.size
              have h0 := Lib.hid (chain hZ.out hb)
              clear hb kb hZ kP
              go_wp2_with fail
              refine (kL.out _ h0.out).mono ?_
              rintro e z1 ⟨rfl, hb⟩
              have kb := Kept.of_below (F := fun _ => True) hb
              have x0 := (kb.cell trivial n2').trans x0
              have x1 := (kb.cell trivial n2').trans x1
              have x2 := (kb.cell trivial n2').trans x2
              have x3 := (kb.cell trivial n2').trans x3
              have y0 := (kb.cell trivial n3').trans y0
              have y1 := (kb.cell trivial n3').trans y1
              have y2 := (kb.cell trivial n3').trans y2
              have y3 := (kb.cell trivial n3').trans y3
              replace n2' := Nat.lt_of_lt_of_le n2' hb.size
              replace n3' := Nat.lt_of_lt_of_le n3' hb.size
              have h1 := Lib.hid (chain h0.out hb)
              clear hb kb h0 kL
              go_wp2_with fail
              refine (kB.out _ h1.out).mono ?_
              rintro e z2 ⟨rfl, hb⟩
              have kb := Kept.of_below (F := fun _ => True) hb
              have h2 := Lib.hid (chain h1.out hb)
              clear hb kb h1 kB
              go_wp2
              go_roundw
              case rel => exact ⟨j + 1, by go_num, by omega, h2⟩
              case measure => simp [intOf]; omega
            · obtain ⟨Z2, m2, hZ2, hm2, hc2, hk2⟩ := box_new wr [.string S1, .slice P2 uP cP2, .slice L2 uL cL2, .slice B2 uB cB2] 44
              obtain ⟨Z3, m3, hZ3, hm3, hc3, hk3⟩ := box_new Z2 [.string S1, .slice P uP cP, .slice L uL cL, .slice B uB cB] 44
              have hZ2' : wr.alloc (.cells #[.string S1, .slice P2 uP cP2, .slice L2 uL cL2, .slice B2 uB cB2] 44) = Z2 := hZ2
              have hZ3' : Z2.alloc (.cells #[.string S1, .slice P uP cP, .slice L uL cL, .slice B uB cB] 44) = Z3 := hZ3
              have hm3' : wr.heap.size + 1 = m3 := by rw [← hm3, ← hZ2]; simp
              rw [hZ2', hZ3', hm3', hm2]
              have hZ0 := chain hw'.out (chain hk2 hk3)
              have hc2 := hc2.below hk3
              have n2' := hc2.lt
              have n3' := hc3.lt
              have x0 := hc3.cell 0
              have y0 := hc2.cell 0
              have x1 := hc3.cell 1
              have y1 := hc2.cell 1
              have x2 := hc3.cell 2
              have y2 := hc2.cell 2
              have x3 := hc3.cell 3
              have y3 := hc2.cell 3
              simp only [List.getElem?_cons_zero, List.getElem?_cons_succ] at x0 y0 x1 y1 x2 y2 x3 y3
              obtain ⟨Z, hZd, hZz⟩ : ∃ Z, Z3.drew = Z ∧ Z.heap.size = Z3.heap.size := ⟨_, rfl, rfl⟩
              have x0 := cell_drew x0
              rw [hZd] at x0
              have x1 := cell_drew x1
              rw [hZd] at x1
              have x2 := cell_drew x2
              rw [hZd] at x2
              have x3 := cell_drew x3
              rw [hZd] at x3
              have y0 := cell_drew y0
              rw [hZd] at y0
              have y1 := cell_drew y1
              rw [hZd] at y1
              have y2 := cell_drew y2
              rw [hZd] at y2
              have y3 := cell_drew y3
              rw [hZd] at y3
              rw [hZd]
              have hZ := Lib.hid (show Below W3.heap.size W3 Z by rw [← hZd]; exact below_drewB hZ0)
              replace n2' : m2 < Z.heap.size := by rw [hZz]; exact n2'
              replace n3' : m3 < Z.heap.size := by rw [hZz]; exact n3'
              clear hZ2 hZ3 hZ2' hZ3' hm3' hm2 hm3 hc2 hc3 hk2 hk3 hZ0 hZd hZz n1 n2 n3 n4 n5 n6 n7 n8 n9 na nb nc nd ne nf ng r1 r2 s1 s2 p0 p1 p2 p3 q0 q1 q2 q3
              go_wp2_with fail
              refine (kP.out _ hZ.out).mono ?_
              rintro e z0 ⟨rfl, hb⟩
              have kb := Kept.of_below (F := fun _ => True) hb
              have x0 := (kb.cell trivial n3').trans x0
              have x1 := (kb.cell trivial n3').trans x1
              have x2 := (kb.cell trivial n3').trans x2
              have x3 := (kb.cell trivial n3').trans x3
              have y0 := (kb.cell trivial n2').trans y0
              have y1 := (kb.cell trivial n2').trans y1
              have y2 := (kb.cell trivial n2').trans y2
              have y3 := (kb.cell trivial n2').trans y3
              replace n2' := Nat.lt_of_lt_of_le n2' hb.size
              replace n3' := Nat.lt_of_lt_of_le n3' hb.size
              have h0 := Lib.hid (chain hZ.out hb)
              clear hb kb hZ kP
              go_wp2_with fail
              refine (kL.out _ h0.out).mono ?_
              rintro e z1 ⟨rfl, hb⟩
              have kb := Kept.of_below (F := fun _ => True) hb
              have x0 := (kb.cell trivial n3').trans x0
              have x1 := (kb.cell trivial n3').trans x1
              have x2 := (kb.cell trivial n3').trans x2
              have x3 := (kb.cell trivial n3').trans x3
              have y0 := (kb.cell trivial n2').trans y0
              have y1 := (kb.cell trivial n2').trans y1
              have y2 := (kb.cell trivial n2').trans y2
              have y3 := (kb.cell trivial n2').trans y3
              replace n2' := Nat.lt_of_lt_of_le n2' hb.size
              replace n3' := Nat.lt_of_lt_of_le n3' hb.size
              have h1 := Lib.hid (chain h0.out hb)
              clear hb kb h0 kL
              go_wp2_with fail
              refine (kB.out _ h1.out).mono ?_
              rintro e z2 ⟨rfl, hb⟩
              have kb := Kept.of_below (F := fun _ => True) hb
              have h2 := Lib.hid (chain h1.out hb)
              clear hb kb h1 kB
              go_wp2
              go_roundw
              case rel => exact ⟨j + 1, by go_num, by omega, h2⟩
              case measure => simp [intOf]; omega
        case neg =>
            obtain rfl : j = lE := by omega
            have dk : decide ((j : Int) < (j : Int)) = false := decide_eq_false (by omega)
            clear mv hF1 hF2
            go_wp2
            go_ret
            exact ⟨rfl, chain hl0.out hw'.out⟩
end Go.Proofs.YtpbcncfbfbghcaaGreatDoor.L20
