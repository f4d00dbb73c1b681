/- The contracts of the landed isPosition and Offset of layer 16. -/
import Derived.Test.YtcfoclmkhippoaaL16Own1
namespace Go.Proofs.Ytcfoclmkhippoaa.L16
set_option maxRecDepth 100000
open Go.RowKit Mem
set_option linter.unusedVariables false
set_option linter.unusedSimpArgs false

/-- A Bool that says whether P. -/
def IsB (P : Prop) (e : Ending) : Prop := ∃ b : Bool, e = .returned (.bool b) ∧ (b = true ↔ P)
theorem IsB.yes {P : Prop} (h : P) : IsB P (.returned (.bool true)) := ⟨true, rfl, ⟨fun _ => h, fun _ => rfl⟩⟩
theorem IsB.no {P : Prop} (h : ¬ P) : IsB P (.returned (.bool false)) := ⟨false, rfl, ⟨fun h' => (by cases h'), fun h' => absurd h' h⟩⟩
/-- Within a stream without end. -/
def InP (D s r o : Int) : Prop := 0 ≤ s ∧ (0 ≤ r ∧ r < D) ∧ 0 ≤ o ∧ o < 28
set_option maxHeartbeats 4000000 in
theorem isp_own (D S s r o : Int) (w : World) : Calls Try.prog 24 #[.agg #[.int .i64 D, .int .i64 S], .agg #[.int .i64 s, .int .i64 r, .int .i64 o]] w fun e w' => IsB (InP D s r o) e ∧ Below w.heap.size w w' := by
  have c1 := isn_own r D
  have c2 := isn_own o 28
  obtain ⟨hm, hq0⟩ := lyps_made w D S 23 25 [.int .i64 s, .int .i64 r, .int .i64 o]
  obtain ⟨W0, hW0⟩ : ∃ W0, (w.alloc (.cells #[.int .i64 D, .int .i64 S] 23)).alloc (.cells #[.int .i64 s, .int .i64 r, .int .i64 o] 25) = W0 := ⟨_, rfl⟩
  rw [show (w.alloc (.cells #[.int .i64 D, .int .i64 S] 23)).alloc (.cells [.int .i64 s, .int .i64 r, .int .i64 o].toArray 25) = W0 from hW0] at hm hq0
  obtain ⟨a0, a1⟩ := Cells2.of hm.ly
  obtain ⟨p0, p1, p2, z0, z1, z2⟩ := Cells3.of hq0
  have hb := Lib.hid hm.bel
  have yes := fun (h : InP D s r o) => IsB.yes h
  have no := fun (h : ¬ InP D s r o) => IsB.no h
  obtain ⟨P, hP⟩ : ∃ P, IsB (InP D s r o) = P := ⟨_, rfl⟩
  rw [hP] at yes no ⊢
  clear hm hq0 z0 z1 z2 hP
  by_cases h0 : 0 ≤ s
  · have t0 : decide (0 ≤ s) = true := decide_eq_true h0
    by_cases h1 : 0 ≤ r ∧ r < D
    · rw [decide_eq_true h1] at c1
      by_cases h2 : 0 ≤ o ∧ o < 28
      · rw [decide_eq_true h2] at c2
        have fin := Lib.hid (yes ⟨h0, h1, h2⟩)
        replace c1 := Lib.hid c1
        replace c2 := Lib.hid c2
        clear yes no h0 h1 h2
        go_enter Try.func24, Try.ntmps24
        go_wp2_with fail
        refine (c1.out _).mono ?_
        rintro e w1 ⟨rfl, rfl⟩
        go_wp2_with fail
        refine (c2.out _).mono ?_
        rintro e w1 ⟨rfl, rfl⟩
        go_wp2
        go_ret
        exact ⟨fin.out, hb.out⟩
      · rw [decide_eq_false h2] at c2
        have fin := Lib.hid (no (fun h => h2 h.2.2))
        replace c1 := Lib.hid c1
        replace c2 := Lib.hid c2
        clear yes no h0 h1 h2
        go_enter Try.func24, Try.ntmps24
        go_wp2_with fail
        refine (c1.out _).mono ?_
        rintro e w1 ⟨rfl, rfl⟩
        go_wp2_with fail
        refine (c2.out _).mono ?_
        rintro e w1 ⟨rfl, rfl⟩
        go_wp2
        go_ret
        exact ⟨fin.out, hb.out⟩
    · rw [decide_eq_false h1] at c1
      have fin := Lib.hid (no (fun h => h1 h.2.1))
      replace c1 := Lib.hid c1
      clear yes no h0 h1 c2
      go_enter Try.func24, Try.ntmps24
      go_wp2_with fail
      refine (c1.out _).mono ?_
      rintro e w1 ⟨rfl, rfl⟩
      go_wp2
      go_ret
      exact ⟨fin.out, hb.out⟩
  · have t0 : decide (0 ≤ s) = false := decide_eq_false h0
    have fin := Lib.hid (no (fun h => h0 h.1))
    clear yes no h0 c1 c2
    go_enter Try.func24, Try.ntmps24
    go_wp2
    go_ret
    exact ⟨fin.out, hb.out⟩
theorem in_pos {D s r o : Int} (h : InP D s r o) : PosQ D s r o ((s * D + r) * 28 + o) := ⟨h.1, h.2.1.1, h.2.1.2, h.2.2.1, h.2.2.2, rfl⟩
theorem pos_in {D s r o y : Int} (h : PosQ D s r o y) : InP D s r o := ⟨h.s0, ⟨h.r0, h.r1⟩, h.o0, h.o1⟩
theorem pos_split {D s r o I Z : Int} (hI : r * 28 + o = I) (hZ : D * 28 = Z) : (s * D + r) * 28 + o = s * Z + I := by
  subst hI hZ
  rw [Int.add_mul, Int.mul_assoc]
  omega
theorem off_test {s I Z : Int} (hZ : 0 < Z) (hs : 0 ≤ s) (hI : I ≤ 2147483647) : (2147483647 - I) / Z < s ↔ 2147483647 < s * Z + I := by
  rw [Int.ediv_lt_iff_lt_mul hZ]
  omega
set_option maxHeartbeats 8000000 in
theorem off_own (D S s r o : Int) (hs : F64 s) (w : World) : Calls Try.prog 13 #[lyV D S, psV s r o] w (OffP D S s r o w) := by
  have cC := fun W => chk_own D S W
  have cI := fun W => isp_own D S s r o W
  have cB := fun (hD : 1 ≤ D ∧ D ≤ 8) W => sby_own D S hD W
  have bad := fun (h : ¬ ∃ y, Lok D S ∧ PosQ D s r o y ∧ y ≤ 2147483647) (w' : World) (hb : Below w.heap.size w w') => OffP.bad h hb
  have good := fun (x : Int) (h : Lok D S) (hp : PosQ D s r o x) (h1 : x ≤ 2147483647) (w' : World) (hb : Below w.heap.size w w') => OffP.good h hp h1 hb
  obtain ⟨P, hP⟩ : ∃ P, OffP D S s r o w = P := ⟨_, rfl⟩
  rw [hP] at bad good ⊢
  obtain ⟨hm, hq0⟩ := lyps_made w D S 23 25 [.int .i64 s, .int .i64 r, .int .i64 o]
  obtain ⟨W0, hW0⟩ : ∃ W0, (w.alloc (.cells #[.int .i64 D, .int .i64 S] 23)).alloc (.cells #[.int .i64 s, .int .i64 r, .int .i64 o] 25) = W0 := ⟨_, rfl⟩
  rw [show (w.alloc (.cells #[.int .i64 D, .int .i64 S] 23)).alloc (.cells [.int .i64 s, .int .i64 r, .int .i64 o].toArray 25) = W0 from hW0] at hm hq0
  obtain ⟨a0, a1⟩ := Cells2.of hm.ly
  obtain ⟨p0, p1, p2, z0, z1, z2⟩ := Cells3.of hq0
  unfold lyV psV at ⊢
  unfold lyV at cC
  replace bad := Lib.hid bad
  replace good := Lib.hid good
  replace cC := Lib.hid cC
  replace cI := Lib.hid cI
  replace cB := Lib.hid cB
  replace hm := Lib.hid hm
  replace hq0 := Lib.hid hq0
  clear hP z0 z1 z2
  show Calls _ _ _ _ (fun e w' => P e w')
  go_enter Try.func13, Try.ntmps13
  go_wp2_with fail
  refine (cC.out W0).mono ?_
  rintro e w1 ⟨k, hk, rfl, hb1⟩
  clear a0 a1 p0 p1 p2 cC hW0
  have hsz := hm.out.size
  have hb2 := hm.out.bel.trans (hb1.mono (by omega))
  have hl1 := hm.out.ly.below hb1 (by omega)
  have hq1 := hq0.out.below hb1 (by omega)
  have hB1 : w.heap.size < w1.heap.size := by have := hb1.size; omega
  have hB2 : w.heap.size + 1 < w1.heap.size := by have := hb1.size; omega
  clear hm hq0 hb1 hsz
  obtain ⟨B, hB⟩ : ∃ B, w.heap.size + 1 = B := ⟨_, rfl⟩
  rw [hB] at hq1 hB2 ⊢
  clear hB
  rcases hk with ⟨rfl, hL⟩ | ⟨rfl, hL⟩
  · obtain ⟨a0, a1⟩ := Cells2.of hl1
    obtain ⟨p0, p1, p2, _, _, _⟩ := Cells3.of hq1
    replace hl1 := Lib.hid hl1
    replace hq1 := Lib.hid hq1
    replace hb2 := Lib.hid hb2
    replace hB1 := Lib.hid hB1
    replace hB2 := Lib.hid hB2
    replace hL := Lib.hid hL
    go_wp2_with fail
    refine (cI.out w1).mono ?_
    rintro e w2 ⟨⟨b, rfl, hb⟩, hb3⟩
    clear a0 a1 p0 p1 p2
    have hb4 := Lib.hid (chain hb2.out hb3)
    rcases b with _ | _
    · have hni : ¬ InP D s r o := fun h => by cases hb.2 h
      have fin := Lib.hid (bad.out (fun ⟨y, _, h, _⟩ => hni (pos_in h)) _ hb4.out)
      clear bad good hb cB cI hb2 hb3 hb4 hl1 hq1 hB1 hB2 hL hni
      go_wp2
      first | go_ret2 | skip
      exact fin.out
    · have hin := hb.1 rfl
      have hp := in_pos hin
      obtain ⟨s0, ⟨r0, r1⟩, o0, o1⟩ := hin
      have D1 := hL.out.1
      have D8 := hL.out.2.1
      obtain ⟨a0, a1⟩ := Cells2.of (hl1.out.below hb3 hB1.out)
      obtain ⟨p0, p1, p2, _, _, _⟩ := Cells3.of (hq1.out.below hb3 hB2.out)
      obtain ⟨I, hI⟩ : ∃ I, r * 28 + o = I := ⟨_, rfl⟩
      obtain ⟨Z, hZ⟩ : ∃ Z, D * 28 = Z := ⟨_, rfl⟩
      obtain ⟨X, hX⟩ : ∃ X, s * Z + I = X := ⟨_, rfl⟩
      rw [pos_split hI hZ, hX] at hp
      have I0 : 0 ≤ I := by omega
      have I1 : I < Z := by omega
      have Z1 : 28 ≤ Z := by omega
      have Z8 : Z ≤ 224 := by omega
      have cB2 := cB.out ⟨D1, D8⟩
      rw [hZ] at cB2
      have r28 : 0 ≤ r * 28 := by omega
      have r29 : r * 28 ≤ 224 := by omega
      obtain ⟨M, hM⟩ : ∃ M, 2147483647 - I = M := ⟨_, rfl⟩
      have M0 : 0 ≤ M := by omega
      have M1 : M ≤ 2147483647 := by omega
      obtain ⟨q, hq⟩ : ∃ q, M / Z = q := ⟨_, rfl⟩
      have hqt : M.tdiv Z = q := by rw [← hq]; exact Int.tdiv_eq_ediv_of_nonneg M0
      have q0 : 0 ≤ q := by rw [← hq]; exact Int.ediv_nonneg M0 (by omega)
      have q1 : q ≤ 2147483647 := by rw [← hq]; exact Int.le_trans (Int.ediv_le_self _ M0) M1
      have n1 : ¬ Z = 0 := by omega
      have n2 : (Z == 0) = false := beq_eq_false_iff_ne.2 n1
      have htest : q < s ↔ 2147483647 < X := by rw [← hq, ← hM, ← hX]; exact off_test (by omega) s0 (by omega)
      have hs2 : s ≤ 9223372036854775807 := hs.2
      replace cB2 := Lib.hid cB2
      replace htest := Lib.hid htest
      replace hp := Lib.hid hp
      have keep0 := Below.refl w2.heap.size w2
      have keep1 : ∀ W, Below w2.heap.size w2 W → Below w2.heap.size w2 (World.drew W) := fun W h => chainN h 1
      have hq2 := hq1.out.below hb3 hB2.out
      have hl2 := hl1.out.below hb3 hB1.out
      have f0 : ∀ W, Below w2.heap.size w2 W → W.cell? ⟨B, 0, none⟩ = some (.int .i64 s) := fun W h => (h.cell (p := ⟨B, 0, none⟩) (Nat.lt_of_lt_of_le hB2.out hb3.size)).trans (Cells3.of hq2).c0
      have g0 : ∀ W, Below w2.heap.size w2 W → W.cell? ⟨w.heap.size, 0, none⟩ = some (.int .i64 D) := fun W h => (h.cell (p := ⟨w.heap.size, 0, none⟩) (Nat.lt_of_lt_of_le hB1.out hb3.size)).trans (Cells2.of hl2).c0
      have g1 : ∀ W, Below w2.heap.size w2 W → W.cell? ⟨w.heap.size, 1, none⟩ = some (.int .i64 S) := fun W h => (h.cell (p := ⟨w.heap.size, 1, none⟩) (Nat.lt_of_lt_of_le hB1.out hb3.size)).trans (Cells2.of hl2).c1
      have wM : IntKind.i64.wrap M = M := by rw [IntKind.wrap_i64]; omega
      have wq : IntKind.i64.wrap q = q := by rw [IntKind.wrap_i64]; omega
      have kc : ∀ {W W' : World}, Below w2.heap.size w2 W → Below W.heap.size W W' → Below w2.heap.size w2 W' := fun h h' => chain h h'
      clear hb cI hl1 hq1 hB1 hB2 hb2 hb3 hq2 hl2 cB hq hZ
      by_cases ht : q < s
      · have fin := Lib.hid (bad.out (fun ⟨y, _, h, h'⟩ => by have := (htest.out).1 ht; have := h.eq; have := hp.out.eq; omega))
        have t1 : decide (q < s) = true := decide_eq_true ht
        clear htest hp good bad hL hX ht
        go_wp2_with fail
        go_region_held3 (fun W => Below w2.heap.size w2 W) (first | exact keep0 | exact keep1 _ keep0 | exact chain ‹_› ‹_› | assumption) (first | (go_at_call 25; (with_reducible refine (cB2.out _).mono ?_); rintro e w3 ⟨rfl, hb5⟩))
        have fin2 := Lib.hid (fin.out _ (chain hb4.out (chain (chainN (Below.refl _ _) 1) hb5)))
        clear fin hb4 hb5 f0 g0 g1 a0 a1 p0 p1 p2
        go_wp2
        first | go_ret2 | skip
        exact fin2.out
      · have hX2 : X ≤ 2147483647 := by have : ¬ 2147483647 < X := fun h => ht ((htest.out).2 h); omega
        have hX0 : 0 ≤ X := hp.out.nonneg
        have hsZ0 : 0 ≤ s * Z := Int.mul_nonneg s0 (by omega)
        have hsZ1 : s * Z ≤ 2147483647 := by omega
        have fin := Lib.hid (good.out X hL.out hp.out hX2)
        have t1 : decide (q < s) = false := decide_eq_false ht
        obtain ⟨Y, hY⟩ : ∃ Y, s * Z = Y := ⟨_, rfl⟩
        rw [hY] at hX hsZ0 hsZ1
        have wY : IntKind.i64.wrap Y = Y := by rw [IntKind.wrap_i64]; omega
        have wX : IntKind.i64.wrap X = X := by rw [IntKind.wrap_i64]; omega
        clear htest hp good bad hL ht
        go_wp2_with fail
        go_region_held3 (fun W => Below w2.heap.size w2 W) (first | exact keep0 | exact keep1 _ keep0 | exact chain ‹_› ‹_› | assumption) (first | (go_at_call 25; (with_reducible refine (cB2.out _).mono ?_); rintro e w3 ⟨rfl, hb5⟩))
        have hb6 := chain (chainN (Below.refl w2.heap.size w2) 1) hb5
        have hk2 : ∀ W, Below w3.heap.size w3 W → Below w2.heap.size w2 W := fun W h => chain hb6 h
        have f0 : ∀ W, Below w3.heap.size w3 W → W.cell? ⟨B, 0, none⟩ = some (.int .i64 s) := fun W h => f0 W (hk2 W h)
        have g0 : ∀ W, Below w3.heap.size w3 W → W.cell? ⟨w.heap.size, 0, none⟩ = some (.int .i64 D) := fun W h => g0 W (hk2 W h)
        have g1 : ∀ W, Below w3.heap.size w3 W → W.cell? ⟨w.heap.size, 1, none⟩ = some (.int .i64 S) := fun W h => g1 W (hk2 W h)
        have keep0 := Below.refl w3.heap.size w3
        have keep1 : ∀ W, Below w3.heap.size w3 W → Below w3.heap.size w3 (World.drew W) := fun W h => chainN h 1
        have hb7 := Lib.hid (chain hb4.out hb6)
        clear hb5 hb6 hk2 hb4 a0 a1 p0 p1 p2 kc
        go_wp2_with fail
        go_region_held3 (fun W => Below w3.heap.size w3 W) (first | exact keep0 | exact keep1 _ keep0 | exact chain ‹_› ‹_› | assumption) (first | (go_at_call 25; (with_reducible refine (cB2.out _).mono ?_); rintro e w4 ⟨rfl, hb8⟩))
        have fin2 := Lib.hid (fin.out _ (chain hb7.out (chain (chainN (Below.refl _ _) 1) hb8)))
        clear fin hb7 hb8 f0 g0 g1
        go_wp2
        first | go_ret2 | skip
        exact fin2.out
  · have fin := Lib.hid (bad.out (fun ⟨y, h, _⟩ => hL h) _ hb2)
    clear bad good cB cI hb2 hl1 hq1 hB1 hB2 hL
    go_wp2
    first | go_ret2 | skip
    exact fin.out
end Go.Proofs.Ytcfoclmkhippoaa.L16
