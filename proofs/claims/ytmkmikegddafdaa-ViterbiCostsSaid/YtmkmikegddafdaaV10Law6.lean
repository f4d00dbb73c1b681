/- The walk of the law ViterbiTransitions, under the package's contracts. -/
import Derived.Test.YtmkmikegddafdaaV10Law4
import Derived.Test.YtmkmikegddafdaaV10Law5
namespace Go.Proofs.Ytmkmikegddafdaa.V10
open Go.RowKit Mem C9
set_option linter.unusedVariables false
set_option linter.unusedSimpArgs false

theorem cg_bound (c : ByteArray) (k : Nat) (s1 s2 : Bool) : -1 ≤ cg c k s1 s2 ∧ cg c k s1 s2 ≤ 2 * (c.size : Int) := by
  unfold cg
  have h1 := tb_int ((rc c).drop k) s1 s2
  have h2 := (tb_le ((rc c).drop k) s1 s2).1
  have h3 : ((rc c).drop k).length ≤ c.size := by
    have : ∀ l : List UInt8, (pairs l).length ≤ l.length := by
      intro l
      induction l using pairs.induct with
      | case1 a b l ih => show (pairs l).length + 1 ≤ l.length + 1 + 1; omega
      | case2 l h => 
        match l, h with
        | [], _ => exact Nat.le_refl _
        | [a], _ => exact Nat.zero_le _
        | a :: b :: l, h => exact absurd rfl (h a b l)
    have := this c.data.toList
    rw [size_list] at this
    rw [List.length_drop]
    show (pairs c.data.toList).length - k ≤ _
    omega
  omega
theorem cost_good {c : ByteArray} {n k : Nat} (h : eB c = 0) (hn : c.size = 2 * n + 4) (hk : k ≤ n + 2) : cE c (k : Int) = 0 ∧ ∀ s1 s2, cA c (k : Int) s1 s2 = cg c k s1 s2 := by
  have e : cE c (k : Int) = 0 := by
    unfold cE
    rw [if_pos h, if_neg (by omega)]
  refine ⟨e, fun s1 s2 => ?_⟩
  unfold cA
  rw [if_pos e, Int.toNat_natCast]
theorem Dev.costs_as (D : Dev) {c : ByteArray} {n k : Nat} (h : eB c = 0) (hn : c.size = 2 * n + 4) (hk : k ≤ n + 2) (hc : c.size ≤ 1000) (w : World) : Calls Try.prog 14 #[.string c, .int .i64 (k : Int)] w fun e w' =>
    e = .returned (.tuple #[.agg #[.int .i64 (cg c k false false), .int .i64 (cg c k false true), .int .i64 (cg c k true false), .int .i64 (cg c k true true)], .int .i64 0]) ∧ Below w.heap.size w w' := by
  have h1 := D.costs c (k : Int) w hc (by omega) (by omega)
  unfold Cost at h1
  obtain ⟨e, ha⟩ := cost_good h hn hk
  rw [e, ha, ha, ha, ha] at h1
  exact h1
theorem eq4 (a0 a1 a2 a3 : Int) (w : World) : (Op.equalIn 10000 27 (.agg #[.int .i64 a0, .int .i64 a1, .int .i64 a2, .int .i64 a3]) (.agg #[.int .i64 a0, .int .i64 a1, .int .i64 a2, .int .i64 a3])).run Try.prog w = .ok true w := by
  have u3 := Try.underlying3
  have a3 := Try.isAgg3
  have z3 := Try.sizeOf3
  rw [show (10000 : Nat) = 9999 + 1 from rfl, Op.equalIn]
  simp only [Sem.run_bind, run_underlying Try.underlying27, Result.andThen_ok]
  simp only [Std.Legacy.Range.forIn_eq_forIn_range', Std.Legacy.Range.size, Nat.sub_zero, Nat.add_sub_cancel, Nat.div_one, List.range'_succ, List.range'_zero, List.forIn_cons, List.forIn_nil]
  go_simp
  try simp
theorem two_mm (x y : UInt8) (s1 s2 u : Bool) : misL [x, y] (out2 s1 s2 u) = mm (x, y) s1 s2 u := by
  show mis x _ + (mis y _ + 0) = _
  unfold mm
  rw [Nat.add_zero]
set_option maxRecDepth 100000 in
set_option maxHeartbeats 8000000 in
theorem walk_transitions (D : Dev) (c : ByteArray) (i1 i2 : Int) (w : World) (hc : c.size ≤ 140737488351232) (h1 : (Lit.int .u8 i1).wf = true) (h2 : (Lit.int .u8 i2).wf = true) :
    Calls Try.prog 8 #[.string c, .int .u8 i1, .int .u8 i2] w fun e w' => e = .returned (.bool true) ∧ Below w.heap.size w w' := by
  obtain ⟨g1, g2⟩ : 0 ≤ i1 ∧ i1 ≤ 255 := (Lit.wf_int_iff .u8 _).1 h1
  obtain ⟨g3, g4⟩ : 0 ≤ i2 ∧ i2 ≤ 255 := (Lit.wf_int_iff .u8 _).1 h2
  obtain ⟨q1, rfl⟩ : ∃ q : Nat, i1 = (q : Int) := ⟨i1.toNat, by omega⟩
  obtain ⟨q2, rfl⟩ : ∃ q : Nat, i2 = (q : Int) := ⟨i2.toNat, by omega⟩
  have hq1 : q1 ≤ 255 := by omega
  have hq2 : q2 ≤ 255 := by omega
  have cA := Lib.hid (fun W => awake_any D W)
  clear h1 g1 g2 h2 g3 g4
  by_cases hlo : 300 < c.size
  · have d1 : decide (300 < c.size) = true := decide_eq_true hlo
    have d1' : decide ((300 : Int) < (c.size : Int)) = true := decide_eq_true (by omega)
    clear hlo hc
    go_enter Try.func8, Try.ntmps8
    go_wp2_with (first
      | (go_at_call 11; refine (cA.out _).mono ?_; rintro e w8 ⟨rfl, hB⟩))
    go_ret
    exact ⟨rfl, hB⟩
  have d1 : decide (300 < c.size) = false := decide_eq_false hlo
  have d1' : decide ((300 : Int) < (c.size : Int)) = false := decide_eq_false (by omega)
  by_cases hsh : c.size < 4
  · have d2 : decide (c.size < 4) = true := decide_eq_true hsh
    have d2' : decide ((c.size : Int) < 4) = true := decide_eq_true (by omega)
    clear hlo hc hsh
    go_enter Try.func8, Try.ntmps8
    go_wp2_with (first
      | (go_at_call 11; refine (cA.out _).mono ?_; rintro e w8 ⟨rfl, hB⟩))
    go_ret
    exact ⟨rfl, hB⟩
  have d2 : decide (c.size < 4) = false := decide_eq_false hsh
  have d2' : decide ((c.size : Int) < 4) = false := decide_eq_false (by omega)
  by_cases hodd : c.size % 2 = 1
  · have d3 : (c.size : Int) % 2 = 1 := by omega
    clear hlo hc hsh
    go_enter Try.func8, Try.ntmps8
    go_wp2_with (first
      | (go_at_call 11; refine (cA.out _).mono ?_; rintro e w8 ⟨rfl, hB⟩))
    go_ret
    exact ⟨rfl, hB⟩
  have d3 : (c.size : Int) % 2 = 0 := by omega
  have d3' : c.size % 2 = 0 := by omega
  have cK := C1.check_any c w (by omega)
  cases ho : c.data.toList.all okC
  · rw [chk_bad ho] at cK
    replace cK := Lib.hid cK
    clear hlo hc hsh hodd ho
    go_enter Try.func8, Try.ntmps8
    go_wp2_with (first
      | (go_at_call 16; refine cK.out.mono ?_; rintro e w8 ⟨rfl, rfl⟩)
      | (go_at_call 11; refine (cA.out _).mono ?_; rintro e w8 ⟨rfl, hB⟩))
    go_ret
    exact ⟨rfl, hB⟩
  · rw [chk_ok ho] at cK
    replace cK := Lib.hid cK
    obtain ⟨n, hn⟩ : ∃ n, c.size = 2 * n + 4 := ⟨(c.size - 4) / 2, by omega⟩
    have h0 := eB_ok ho hn
    obtain ⟨M, hM⟩ : ∃ M, n + 2 = M := ⟨_, rfl⟩
    have hM2 : (c.size : Int) / 2 = (M : Int) := by omega
    have hM3 : c.size / 2 = M := by omega
    have hM1 : M ≤ 150 := by omega
    have hMI : ¬ (M : Int) = 0 := by omega
    obtain ⟨k, hk⟩ : ∃ k, q1 % M = k := ⟨_, rfl⟩
    have hkM : k < M := by rw [← hk]; exact Nat.mod_lt _ (by omega)
    have hkI : (q1 : Int) % (M : Int) = (k : Int) := by omega
    obtain ⟨K, hK⟩ : ∃ K, k + 1 = K := ⟨_, rfl⟩
    obtain ⟨s, hs⟩ : ∃ s, q2 % 4 = s := ⟨_, rfl⟩
    have hsI : (q2 : Int) % 4 = (s : Int) := by omega
    obtain ⟨s1, s2, hst⟩ : ∃ s1 s2 : Bool, s = stN s1 s2 := by
      have : s = 0 ∨ s = 1 ∨ s = 2 ∨ s = 3 := by omega
      rcases this with rfl | rfl | rfl | rfl
      · exact ⟨false, false, rfl⟩
      · exact ⟨false, true, rfl⟩
      · exact ⟨true, false, rfl⟩
      · exact ⟨true, true, rfl⟩
    have p1 : 2 * k < c.data.toList.length := by rw [size_list]; omega
    have p2 : 2 * k + 1 < c.data.toList.length := by rw [size_list]; omega
    have hstep := cg_step hn (show k < n + 2 by omega) s1 s2 p1 p2
    have hsl : c.extract (2 * k) (2 * k + 2) = ⟨#[c.data.toList[2 * k], c.data.toList[2 * k + 1]]⟩ := by
      apply ByteArray.ext
      apply Array.toList_inj.1
      simp only [ByteArray.data_extract, Array.toList_extract, List.extract_eq_take_drop]
      rw [show 2 * k + 2 - 2 * k = 2 by omega, List.drop_eq_getElem_cons p1, List.drop_eq_getElem_cons p2]
      rfl
    have ox : okC c.data.toList[2 * k] = true := List.all_eq_true.1 ho _ (List.getElem_mem p1)
    have oy : okC c.data.toList[2 * k + 1] = true := List.all_eq_true.1 ho _ (List.getElem_mem p2)
    obtain ⟨x, hx⟩ : ∃ x, c.data.toList[2 * k] = x := ⟨_, rfl⟩
    obtain ⟨y, hy⟩ : ∃ x, c.data.toList[2 * k + 1] = x := ⟨_, rfl⟩
    rw [hx, hy] at hsl hstep
    rw [hx] at ox
    rw [hy] at oy
    have cX := fun u W => dist_own (out2 s1 s2 u) ⟨#[x, y]⟩ W (by show (okC x && (okC y && true)) = true; rw [ox, oy]; rfl) rfl (by show 2 ≤ 1000000; decide)
    have e2 : ∀ u, misL (⟨#[x, y]⟩ : ByteArray).data.toList (out2 s1 s2 u) = mm (x, y) s1 s2 u := fun u => two_mm x y s1 s2 u
    simp only [e2] at cX
    obtain ⟨E, hE⟩ : ∃ E : ByteArray, (⟨#[x, y]⟩ : ByteArray) = E := ⟨_, rfl⟩
    rw [hE] at cX hsl
    have cN := fun W => D.costs_as h0 hn (k := k) (by omega) (by omega) W
    have cF := fun W => D.costs_as h0 hn (k := K) (by omega) (by omega) W
    have cL := fun W => D.costs_as h0 hn (k := M) (by omega) (by omega) W
    rw [← hM] at cL
    simp only [cg_end hn] at cL
    rw [hM] at cL
    rw [hK] at hstep
    replace cL : ∀ W, Calls Try.prog 14 #[.string c, .int .i64 (M : Int)] W fun e w' => e = .returned (.tuple #[.agg #[.int .i64 0, .int .i64 (-1), .int .i64 (-1), .int .i64 (-1)], .int .i64 0]) ∧ Below W.heap.size W w' := cL
    have cS := fun u W => next_at s1 s2 u W
    have hou : ∀ u, sb (two (u ^^ s1 ^^ s2, u ^^ s2)) = sb (out2 s1 s2 u) := fun u => rfl
    simp only [hou] at cS
    rw [← hst] at cS
    have cS0 := cS false
    have cS1 := cS true
    rw [show (bn false : Int) = 0 from rfl] at cS0
    rw [show (bn true : Int) = 1 from rfl] at cS1
    have cX0 := cX false
    have cX1 := cX true
    have hs4 : s < 4 := by omega
    have l0 := mm_le (x, y) s1 s2 false
    have l1 := mm_le (x, y) s1 s2 true
    have bA0 := cg_bound c K false s1
    have bA1 := cg_bound c K true s1
    -- the cells of a box of four, at a state's number
    have pick4 : ∀ (W : World) (G : Nat) (a0 a1 a2 a3 : Value), W.cell? ⟨G, 0, none⟩ = some a0 → W.cell? ⟨G, 1, none⟩ = some a1 → W.cell? ⟨G, 2, none⟩ = some a2 → W.cell? ⟨G, 3, none⟩ = some a3 → ∀ u v : Bool, W.cell? ⟨G, stN u v, none⟩ = some (if u then (if v then a3 else a2) else (if v then a1 else a0)) := fun W G a0 a1 a2 a3 h0 h1 h2 h3 u v => by
      cases u <;> cases v
      · exact h0
      · exact h1
      · exact h2
      · exact h3
    have hval : ∀ (j : Nat) (u v : Bool), (if u then (if v then (.int .i64 (cg c j true true) : Value) else .int .i64 (cg c j true false)) else (if v then .int .i64 (cg c j false true) else .int .i64 (cg c j false false))) = .int .i64 (cg c j u v) := fun j u v => by cases u <;> cases v <;> rfl
    have hck : ∀ (W : World) (G : Nat), W.cell? ⟨G, 0, none⟩ = some (.int .i64 (cg c k false false)) → W.cell? ⟨G, 1, none⟩ = some (.int .i64 (cg c k false true)) → W.cell? ⟨G, 2, none⟩ = some (.int .i64 (cg c k true false)) → W.cell? ⟨G, 3, none⟩ = some (.int .i64 (cg c k true true)) → W.cell? ⟨G, s, none⟩ = some (.int .i64 (cg c k s1 s2)) := fun W G h0 h1 h2 h3 => by
      rw [hst, pick4 W G _ _ _ _ h0 h1 h2 h3 s1 s2, hval]
    have hcK : ∀ (W : World) (G : Nat), W.cell? ⟨G, 0, none⟩ = some (.int .i64 (cg c K false false)) → W.cell? ⟨G, 1, none⟩ = some (.int .i64 (cg c K false true)) → W.cell? ⟨G, 2, none⟩ = some (.int .i64 (cg c K true false)) → W.cell? ⟨G, 3, none⟩ = some (.int .i64 (cg c K true true)) → W.cell? ⟨G, stN false s1, none⟩ = some (.int .i64 (cg c K false s1)) ∧ W.cell? ⟨G, stN true s1, none⟩ = some (.int .i64 (cg c K true s1)) := fun W G h0 h1 h2 h3 => by
      constructor
      · rw [pick4 W G _ _ _ _ h0 h1 h2 h3 false s1, hval]
      · rw [pick4 W G _ _ _ _ h0 h1 h2 h3 true s1, hval]
    have hn0 : stN false s1 < 4 := by cases s1 <;> decide
    have hn1 : stN true s1 < 4 := by cases s1 <;> decide
    obtain ⟨m0, hm0⟩ : ∃ z, mm (x, y) s1 s2 false = z := ⟨_, rfl⟩
    obtain ⟨m1, hm1⟩ : ∃ z, mm (x, y) s1 s2 true = z := ⟨_, rfl⟩
    obtain ⟨a0, ha0⟩ : ∃ z, cg c K false s1 = z := ⟨_, rfl⟩
    obtain ⟨a1, ha1⟩ : ∃ z, cg c K true s1 = z := ⟨_, rfl⟩
    obtain ⟨ns, hns⟩ : ∃ z, cg c k s1 s2 = z := ⟨_, rfl⟩
    rw [hm0] at cX0 l0 hstep
    rw [hm1] at cX1 l1 hstep
    rw [ha0] at bA0 hstep
    rw [ha1] at bA1 hstep
    rw [hns] at hstep
    simp only [hns] at hck
    simp only [ha0, ha1] at hcK
    obtain ⟨N0, hN0⟩ : ∃ z, cg c k false false = z := ⟨_, rfl⟩
    obtain ⟨A0, hA0⟩ : ∃ z, cg c K false false = z := ⟨_, rfl⟩
    obtain ⟨N1, hN1⟩ : ∃ z, cg c k false true = z := ⟨_, rfl⟩
    obtain ⟨A1, hA1⟩ : ∃ z, cg c K false true = z := ⟨_, rfl⟩
    obtain ⟨N2, hN2⟩ : ∃ z, cg c k true false = z := ⟨_, rfl⟩
    obtain ⟨A2, hA2⟩ : ∃ z, cg c K true false = z := ⟨_, rfl⟩
    obtain ⟨N3, hN3⟩ : ∃ z, cg c k true true = z := ⟨_, rfl⟩
    obtain ⟨A3, hA3⟩ : ∃ z, cg c K true true = z := ⟨_, rfl⟩
    rw [hN0, hN1, hN2, hN3] at cN
    simp only [hN0, hN1, hN2, hN3] at hck
    rw [hA0, hA1, hA2, hA3] at cF
    simp only [hA0, hA1, hA2, hA3] at hcK
    obtain ⟨T0, hT0⟩ : ∃ z, sb (out2 s1 s2 false) = z := ⟨_, rfl⟩
    obtain ⟨T1, hT1⟩ : ∃ z, sb (out2 s1 s2 true) = z := ⟨_, rfl⟩
    obtain ⟨nx0, hnx0⟩ : ∃ z, stN false s1 = z := ⟨_, rfl⟩
    obtain ⟨nx1, hnx1⟩ : ∃ z, stN true s1 = z := ⟨_, rfl⟩
    rw [hT0] at cS0 cX0
    rw [hT1] at cS1 cX1
    rw [hnx0] at cS0 hn0 hcK
    rw [hnx1] at cS1 hn1 hcK
    rw [show (K : Int) = (k : Int) + 1 by omega] at cF
    obtain ⟨B1, hB1⟩ : ∃ z, least (-1) m0 a0 = z := ⟨_, rfl⟩
    rw [hB1] at hstep
    have bB1 : -1 ≤ B1 ∧ B1 ≤ 1000 := by
      rw [← hB1]
      unfold least
      split
      · omega
      · split <;> omega
    replace cN := Lib.hid cN
    replace cF := Lib.hid cF
    replace cL := Lib.hid cL
    replace cS0 := Lib.hid cS0
    replace cS1 := Lib.hid cS1
    replace cX0 := Lib.hid cX0
    replace cX1 := Lib.hid cX1
    replace hck := Lib.hid hck
    replace hcK := Lib.hid hcK
    replace hstep := Lib.hid hstep.symm
    replace hB1 := Lib.hid hB1
    have zz1 : (0 : Int) ≤ 2 * (k : Int) := by omega
    have zz2 : 2 * (k : Int) + 2 ≤ (c.size : Int) := by omega
    have zz3 : 2 * (k : Int) ≤ 2 * (k : Int) + 2 := by omega
    have zz4 : 2 * k + 2 ≤ c.size := by omega
    have zz5 : (2 * (k : Int)).toNat = 2 * k := by omega
    have zz6 : (2 * (k : Int) + 2).toNat = 2 * k + 2 := by omega
    have zz7 : k ≤ 150 := by omega
    have hc3 : c.size ≤ 300 := by omega
    have hE2 := Lib.hid hE
    have hMn := Lib.hid hM
    clear hlo hc hsh hodd ho hn h0 hM hk hs hst p1 p2 ox oy hx hy cX e2 hE cS hou pick4 hval hm0 hm1 ha0 ha1 hns hN0 hN1 hN2 hN3 hA0 hA1 hA2 hA3 hT0 hT1 hnx0 hnx1
    go_enter Try.func8, Try.ntmps8
    go_wp2_with (go_at_call 16; refine cK.out.mono ?_; rintro e w8 ⟨rfl, rfl⟩)
    rw [hkI, hsI]
    clear hkI hsI cK
    go_wp2_with fail
    refine (cN.out _).mono ?_
    rintro e w2 ⟨rfl, hB⟩
    go_wp2_with fail
    obtain ⟨W1, hW1⟩ : ∃ W, w2.alloc (.cells #[.int .i64 N0, .int .i64 N1, .int .i64 N2, .int .i64 N3] 27) = W := ⟨_, rfl⟩
    obtain ⟨G1, hG1⟩ : ∃ G, w2.heap.size = G := ⟨_, rfl⟩
    have hcN : ∀ W, Below W1.heap.size W1 W → W.cell? ⟨G1, s, none⟩ = some (.int .i64 ns) := fun W h => by
      have hlt : G1 < W1.heap.size := by rw [← hW1, ← hG1]; simp
      have g : ∀ j, W.cell? ⟨G1, j, none⟩ = (#[.int .i64 N0, .int .i64 N1, .int .i64 N2, .int .i64 N3] : Array Value)[j]? := fun j => by rw [h.cell (p := ⟨G1, j, none⟩) hlt, ← hW1, ← hG1, World.cell?_alloc_new]
      exact hck.out W G1 (g 0) (g 1) (g 2) (g 3)
    have hB1w : Below w.heap.size w W1 := by rw [← hW1]; exact hB.alloc hB.size _
    replace hcN := Lib.hid hcN
    rw [hW1, hG1]
    clear hW1 hG1 hB hck cN
    refine (cF.out _).mono ?_
    rintro e w3 ⟨rfl, hb3⟩
    obtain ⟨W2, hW2⟩ : ∃ W, w3.alloc (.cells #[.int .i64 A0, .int .i64 A1, .int .i64 A2, .int .i64 A3] 27) = W := ⟨_, rfl⟩
    obtain ⟨G2, hG2⟩ : ∃ G, w3.heap.size = G := ⟨_, rfl⟩
    have hcA : ∀ W, Below W2.heap.size W2 W → W.cell? ⟨G2, nx0, none⟩ = some (.int .i64 a0) ∧ W.cell? ⟨G2, nx1, none⟩ = some (.int .i64 a1) := fun W h => by
      have hlt : G2 < W2.heap.size := by rw [← hW2, ← hG2]; simp
      have g : ∀ j, W.cell? ⟨G2, j, none⟩ = (#[.int .i64 A0, .int .i64 A1, .int .i64 A2, .int .i64 A3] : Array Value)[j]? := fun j => by rw [h.cell (p := ⟨G2, j, none⟩) hlt, ← hW2, ← hG2, World.cell?_alloc_new]
      exact hcK.out W G2 (g 0) (g 1) (g 2) (g 3)
    have hB12 : Below W1.heap.size W1 W2 := by rw [← hW2]; exact hb3.alloc hb3.size _
    replace hcA := Lib.hid hcA
    clear hb3 hcK cF
    go_wp2_with fail
    clear hW2 hG2
    go_loopw [13, 63] (fun b i wr => ∃ j : Nat, j ≤ 2 ∧ i = .int .i64 (j : Int) ∧ b = .int .i64 (if j = 0 then -1 else if j = 1 then B1 else ns) ∧ Below W2.heap.size W2 wr) (fun _ i _ => 2 - (intOf i).toNat)
    case atStart => exact ⟨0, by decide, rfl, rfl, Below.refl _ _⟩
    case round =>
      obtain ⟨j, hj, rfl, rfl, hb⟩ := hrel
      have hj3 : j = 0 ∨ j = 1 ∨ j = 2 := by omega
      clear hj
      rcases hj3 with rfl | rfl | rfl
      · have i0 : (0 : Int) ≤ (nx0 : Int) := by omega
        have i1 : (nx0 : Int) < 4 := by omega
        go_wp2_with fail
        refine (cS0.out _).mono ?_
        rintro e w5 ⟨rfl, hb5⟩
        replace hb := chain hb hb5
        clear hb5
        go_wp2_with fail
        refine (cX0.out _).mono ?_
        rintro e w6 ⟨rfl, hb6⟩
        replace hb := chain hb hb6
        clear hb6
        have hcl := (hcA.out w6 hb).1
        have w64 : IntKind.i64.wrap ((m0 : Int) + a0) = (m0 : Int) + a0 := IntWalk.i64_in _ (by omega)
        by_cases ha : a0 < 0
        · have hv : B1 = (-1 : Int) := by rw [← hB1.out]; unfold least; rw [if_pos ha]
          have f1 : decide ((0 : Int) ≤ a0) = false := decide_eq_false (by omega)
          replace hv := Lib.hid hv
          go_wp2
          go_roundw
          case rel => exact ⟨1, by decide, rfl, by show _ = Value.int .i64 B1; rw [hv.out], hb⟩
          case measure => simp [intOf]
        · by_cases hbn : (-1 : Int) < 0
          · have hv : B1 = (m0 : Int) + a0 := by rw [← hB1.out]; unfold least; rw [if_neg ha, if_pos (.inl hbn)]
            have f1 : decide ((0 : Int) ≤ a0) = true := decide_eq_true (by omega)
            have f2 : decide ((-1 : Int) < 0) = true := decide_eq_true hbn
            replace hv := Lib.hid hv
            go_wp2
            go_roundw
            case rel => exact ⟨1, by decide, rfl, by show _ = Value.int .i64 B1; rw [hv.out], hb⟩
            case measure => simp [intOf]
          · exact absurd (by decide) hbn
      · rw [if_neg (by decide), if_pos rfl]
        have i0 : (0 : Int) ≤ (nx1 : Int) := by omega
        have i1 : (nx1 : Int) < 4 := by omega
        go_wp2_with fail
        refine (cS1.out _).mono ?_
        rintro e w5 ⟨rfl, hb5⟩
        replace hb := chain hb hb5
        clear hb5
        go_wp2_with fail
        refine (cX1.out _).mono ?_
        rintro e w6 ⟨rfl, hb6⟩
        replace hb := chain hb hb6
        clear hb6
        have hcl := (hcA.out w6 hb).2
        have w64 : IntKind.i64.wrap ((m1 : Int) + a1) = (m1 : Int) + a1 := IntWalk.i64_in _ (by omega)
        by_cases ha : a1 < 0
        · have hv : ns = B1 := by rw [← hstep.out]; unfold least; rw [if_pos ha]
          have f1 : decide ((0 : Int) ≤ a1) = false := decide_eq_false (by omega)
          replace hv := Lib.hid hv
          go_wp2
          go_roundw
          case rel => exact ⟨2, by decide, rfl, by show _ = Value.int .i64 ns; rw [hv.out], hb⟩
          case measure => simp [intOf]
        · by_cases hbn : B1 < 0
          · have hv : ns = (m1 : Int) + a1 := by rw [← hstep.out]; unfold least; rw [if_neg ha, if_pos (.inl hbn)]
            have f1 : decide ((0 : Int) ≤ a1) = true := decide_eq_true (by omega)
            have f2 : decide (B1 < 0) = true := decide_eq_true hbn
            replace hv := Lib.hid hv
            go_wp2
            go_roundw
            case rel => exact ⟨2, by decide, rfl, by show _ = Value.int .i64 ns; rw [hv.out], hb⟩
            case measure => simp [intOf]
          · by_cases hlt : (m1 : Int) + a1 < B1
            · have hv : ns = (m1 : Int) + a1 := by rw [← hstep.out]; unfold least; rw [if_neg ha, if_pos (.inr hlt)]
              have f1 : decide ((0 : Int) ≤ a1) = true := decide_eq_true (by omega)
              have f2 : decide (B1 < 0) = false := decide_eq_false hbn
              have f3 : decide ((m1 : Int) + a1 < B1) = true := decide_eq_true hlt
              replace hv := Lib.hid hv
              go_wp2
              go_roundw
              case rel => exact ⟨2, by decide, rfl, by show _ = Value.int .i64 ns; rw [hv.out], hb⟩
              case measure => simp [intOf]
            · have hv : ns = B1 := by rw [← hstep.out]; unfold least; rw [if_neg ha, if_neg (by rintro (h | h); exact hbn h; exact hlt h)]
              have f1 : decide ((0 : Int) ≤ a1) = true := decide_eq_true (by omega)
              have f2 : decide (B1 < 0) = false := decide_eq_false hbn
              have f3 : decide ((m1 : Int) + a1 < B1) = false := decide_eq_false hlt
              replace hv := Lib.hid hv
              go_wp2
              go_roundw
              case rel => exact ⟨2, by decide, rfl, by show _ = Value.int .i64 ns; rw [hv.out], hb⟩
              case measure => simp [intOf]
      · rw [if_neg (by decide), if_neg (by decide)]
        have hb12 := chain hB12 hb
        have hreq2 := fun W => eq4 0 (-1) (-1) (-1) W
        have hreq : ∀ W, (binOp .eql 27 (.agg #[.int .i64 0, .int .i64 (-1), .int .i64 (-1), .int .i64 (-1)]) (.agg #[.int .i64 0, .int .i64 (-1), .int .i64 (-1), .int .i64 (-1)])).run Try.prog W = .ok (.bool true) W := fun W => by
          go_simp
        have i0 : (0 : Int) ≤ (s : Int) := by omega
        have i1 : (s : Int) < 4 := by omega
        clear hb
        go_wp2_with fail
        refine (cL.out _).mono ?_
        rintro e w7 ⟨rfl, hb7⟩
        have hb17 := chain hb12 hb7
        have hbz : Below W1.heap.size W1 (w7.alloc (.cells #[.int .i64 0, .int .i64 (-1), .int .i64 (-1), .int .i64 (-1)] 27)) := hb17.alloc hb17.size _
        have hcs := hcN.out _ hbz
        have hB9 := below_new hB1w hbz hB1w.size
        clear hb17 hb12 hb7 hbz cL
        go_wp2_with (go_at_call 11; refine (cA.out _).mono ?_; rintro e w8 ⟨rfl, hb8⟩)
        go_ret
        exact ⟨rfl, chain hB9 hb8⟩
end Go.Proofs.Ytmkmikegddafdaa.V10
