/- The contract of the landed function cheapest of layer 10. -/
import Derived.Test.YtmkmikegddafdaaV10Own3
import Derived.Laws.MakeOwn
namespace Go.Proofs.Ytmkmikegddafdaa.V10
open Go.RowKit Mem C9
set_option linter.unusedVariables false
set_option linter.unusedSimpArgs false

theorem info_byteV : (Try.prog.info? 5).map (fun i => (i.zero, i.size, i.bytes)) = some (some (.int .u8 0), 1, 1) := by kernel_rfl
theorem make_bytesV (w : World) (n : Nat) (h : n ≤ 1000000) : ∃ l : List Value, l = List.replicate n (.int .u8 0) ∧ (Instr.makeSlice 31 (.int .i64 (n : Int)) (.int .i64 (n : Int))).run Try.prog w = .ok (.slice (some ⟨w.heap.size, 0, none⟩) n n) (w.alloc (.cells l.toArray 5)) := by
  obtain ⟨i0, hi, hz0, hz1, hz2⟩ := info_parts info_byteV
  have hr := run_make (P := Try.prog) w 31 5 i0 _ Try.underlying31 hi hz0 .i64 .i64 (n : Int) (n : Int) (by omega) (Int.le_refl _) (by rw [hz2]; omega) (by omega)
  simp only [Int.toNat_natCast] at hr
  rw [hz1] at hr
  refine ⟨_, rfl, ?_⟩
  rw [Nat.mul_one] at hr
  have e : (madeCells (Value.int .u8 0).cells n) = (List.replicate n (Value.int .u8 0)).toArray := by
    apply Array.toList_inj.1
    apply List.ext_getElem
    · simp [size_madeCells]
    · intro i h1 h2
      simp [madeCells, Value.cells]
      rw [Nat.mod_one]
      rfl
  rw [e] at hr
  exact hr
/-- The choices in memory: row q, state s. -/
structure Chs (W : World) (g : Nat) (R : List (UInt8 × UInt8)) (m : Nat) : Prop where
  lt : g < W.heap.size
  cell : ∀ q s, q < m → s < 4 → W.cell? ⟨g, q * 4 + s, none⟩ = some (.int .u8 (chR (R.drop q) s : Int))
theorem Chs.below {W W' : World} {g m : Nat} {R : List (UInt8 × UInt8)} (h : Chs W g R m) (k : Below W.heap.size W W') : Chs W' g R m := ⟨Nat.lt_of_lt_of_le h.lt k.size, fun q s hq hs => (k.cell (p := ⟨g, q * 4 + s, none⟩) h.lt).trans (h.cell q s hq hs)⟩
/-- The bits written so far; what is not written yet. -/
def outL (D : List Bool) (k m : Nat) : List Value := bys (cs (D.take k)) ++ List.replicate (m - k) (.int .u8 0)
theorem outL_len (D : List Bool) (k m : Nat) (hD : D.length = m) (hk : k ≤ m) : (outL D k m).length = m := by
  unfold outL bys
  simp [cs_len]
  omega
theorem outL_set (D : List Bool) (k m : Nat) (hD : D.length = m) (hk : k < m) (u : Bool) (hu : D.take (k + 1) = D.take k ++ [u]) : (outL D k m).set k (.int .u8 ((cell u).toNat : Int)) = outL D (k + 1) m := by
  unfold outL
  have hl : (bys (cs (D.take k))).length = k := by unfold bys; simp [cs_len]; omega
  rw [hu, List.set_append_right _ _ (by omega), hl, Nat.sub_self, show m - k = (m - (k + 1)) + 1 by omega, List.replicate_succ, List.set_cons_zero]
  unfold bys
  simp [cs]
theorem outL_next (D : List Bool) (k m : Nat) (hD : D.length = m) (hk : k < m) : (outL D k m)[k]? = some (.int .u8 0) := by
  unfold outL
  have hl : (bys (cs (D.take k))).length = k := by unfold bys; simp [cs_len]; omega
  rw [List.getElem?_append_right (by omega), hl, Nat.sub_self, show m - k = (m - (k + 1)) + 1 by omega, List.replicate_succ]
  rfl
theorem outL_all (D : List Bool) (m : Nat) (hD : D.length = m) : outL D m m = bys (cs D) := by
  unfold outL
  rw [Nat.sub_self, List.take_of_length_le (by omega)]
  simp
set_option maxRecDepth 100000 in
set_option maxHeartbeats 8000000 in
theorem cheapest_own (R : List (UInt8 × UInt8)) (g n : Nat) (w : World) (hR : R.length = n + 2) (hn : n ≤ 50000) (hp : 0 ≤ (tb R false false).1) (hC : Chs w g R (n + 2)) :
    Calls Try.prog 29 #[.slice (some ⟨g, 0, none⟩) (n + 2) (n + 2)] w fun e w' => e = .returned (.tuple #[.string (sb ((dec R false false).take n)), .bool (decide ((tb R false false).2 = 1))]) ∧ Below w.heap.size w w' := by
  obtain ⟨m, hm⟩ : ∃ m, n + 2 = m := ⟨_, rfl⟩
  rw [hm] at hR hC ⊢
  obtain ⟨l0, hl0, hmk⟩ := make_bytesV w m (by omega)
  have hDl : (dec R false false).length = m := by rw [dec_len, hR]
  have hfol := Lib.hid (Follow.start hp)
  have hdone := Lib.hid (fun s1 s2 q (h : Follow R m s1 s2 q) => Follow.done (hR ▸ h))
  have hstep : ∀ k, k < m → ∀ (s1 s2 q : Bool), Follow R k s1 s2 q → ∃ v, chE (R.drop k) s1 s2 = v ∧ v ≤ 2 ∧ (v = 0 → (dec R false false).take (k + 1) = (dec R false false).take k ++ [false] ∧ Follow R (k + 1) false s1 q) ∧ (v = 1 → (dec R false false).take (k + 1) = (dec R false false).take k ++ [true] ∧ Follow R (k + 1) true s1 q) ∧ (v = 2 → (dec R false false).take (k + 1) = (dec R false false).take k ++ [false] ∧ Follow R (k + 1) false s1 false) := by
    intro k hk s1 s2 q h
    have hD : k < (dec R false false).length := by omega
    have ht : (dec R false false).take (k + 1) = (dec R false false).take k ++ [(dec R false false)[k]] := List.take_succ_eq_append_getElem hD
    refine ⟨_, rfl, chE_le _ _ _, fun e => ?_, fun e => ?_, fun e => ?_⟩
    · obtain ⟨h1, h2⟩ := h.next (by omega) false (by rw [e]; rfl) hD
      rw [e] at h2
      rw [ht, h1]
      exact ⟨rfl, by simpa using h2⟩
    · obtain ⟨h1, h2⟩ := h.next (by omega) true (by rw [e]; rfl) hD
      rw [e] at h2
      rw [ht, h1]
      exact ⟨rfl, by simpa using h2⟩
    · obtain ⟨h1, h2⟩ := h.next (by omega) false (by rw [e]; rfl) hD
      rw [e] at h2
      rw [ht, h1]
      exact ⟨rfl, by simpa using h2⟩
  obtain ⟨b1, hb1⟩ : ∃ b, decide ((tb R false false).2 = 1) = b := ⟨_, rfl⟩
  rw [hb1] at hdone ⊢
  obtain ⟨D, hD⟩ : ∃ D, dec R false false = D := ⟨_, rfl⟩
  rw [hD] at hDl hstep ⊢
  have hout := Lib.hid (outL_len D · m hDl)
  have hset := Lib.hid (fun k h u hu => outL_set D k m hDl h u hu)
  have hnxt := Lib.hid (fun k h => outL_next D k m hDl h)
  have hall := Lib.hid (outL_all D m hDl)
  have hB0 : BlkT 5 (w.alloc (.cells l0.toArray 5)) w.heap.size (outL D 0 m) := by
    rw [hl0]
    exact World.alloc_heap_new w _
  have hb0 : Below w.heap.size w (w.alloc (.cells l0.toArray 5)) := (Below.refl _ w).alloc (Nat.le_refl _) _
  have hs0 : w.heap.size < (w.alloc (.cells l0.toArray 5)).heap.size := by simp
  obtain ⟨W0, hW0⟩ : ∃ W0, w.alloc (.cells l0.toArray 5) = W0 := ⟨_, rfl⟩
  obtain ⟨G, hG⟩ : ∃ G, w.heap.size = G := ⟨_, rfl⟩
  rw [hW0, hG] at hmk hB0 hb0 hs0
  have hgG : g < G := by rw [← hG]; exact hC.lt
  have hm6 : m ≤ 50002 := by omega
  have hm2 : (m : Int) - 2 = (n : Int) := by omega
  have hm3 : n ≤ m := by omega
  replace hB0 := Lib.hid hB0
  replace hs0 := Lib.hid hs0
  replace hG := Lib.hid hG
  replace hstep := Lib.hid hstep
  replace hC := Lib.hid hC
  replace hDl := Lib.hid hDl
  clear hl0 hW0 hD hp hR hm hb1
  go_enter Try.func29, Try.ntmps29
  go_wp2
  go_loopw [5, 6, 14] (fun sv qv iv wr => ∃ (k S : Nat) (s1 s2 q : Bool), k ≤ m ∧ iv = .int .i64 (k : Int) ∧ sv = .int .i64 (S : Int) ∧ qv = .bool q ∧ Hid (S = stN s1 s2) ∧ Hid (Follow R k s1 s2 q) ∧ Hid (BlkT 5 wr G (outL D k m)) ∧ Hid (G < wr.heap.size) ∧ Below G w wr) (fun _ _ iv _ => m - (intOf iv).toNat)
  case atStart => exact ⟨0, 0, false, false, true, Nat.zero_le _, rfl, rfl, rfl, Lib.hid rfl, hfol, hB0, hs0, hb0⟩
  case round =>
    clear hfol hB0 hs0 hb0 hmk
    obtain ⟨k, S, s1, s2, q, hk, rfl, rfl, rfl, hS, hf, hg, hsz, hb⟩ := hrel
    by_cases hlt : k < m
    · have hS4 : S < 4 := by rw [hS.out]; cases s1 <;> cases s2 <;> decide
      have dl : decide ((k : Int) < (m : Int)) = true := decide_eq_true (by omega)
      obtain ⟨v, hv, hv2, a0, a1, a2⟩ := hstep.out k hlt s1 s2 q hf.out
      have hch := hC.out.cell k S hlt hS4
      rw [hS.out, chR_at, hv, ← hS.out] at hch
      have hcw := (hb.cell (p := ⟨g, k * 4 + S, none⟩) hgG).trans hch
      have n0 := fun W => next_at s1 s2 false W
      have n1 := fun W => next_at s1 s2 true W
      rw [← hS.out] at n0 n1
      obtain ⟨S0, hS0⟩ : ∃ S0, stN false s1 = S0 := ⟨_, rfl⟩
      obtain ⟨S1, hS1⟩ : ∃ S1, stN true s1 = S1 := ⟨_, rfl⟩
      obtain ⟨C0, hC0⟩ : ∃ C, sb [false ^^ s1 ^^ s2, false ^^ s2] = C := ⟨_, rfl⟩
      obtain ⟨C1, hC1⟩ : ∃ C, sb [true ^^ s1 ^^ s2, true ^^ s2] = C := ⟨_, rfl⟩
      rw [hS0, hC0] at n0
      rw [hS1, hC1] at n1
      replace n0 : ∀ W, Calls Try.prog 21 #[.int .i64 (S : Int), .int .i64 0] W fun e w' => e = .returned (.tuple #[.int .i64 (S0 : Int), .string C0]) ∧ Below W.heap.size W w' := n0
      replace n1 : ∀ W, Calls Try.prog 21 #[.int .i64 (S : Int), .int .i64 1] W fun e w' => e = .returned (.tuple #[.int .i64 (S1 : Int), .string C1]) ∧ Below W.heap.size W w' := n1
      have hcell : wr.cell? ⟨G, k, none⟩ = some (.int .u8 0) := (hg.out.cell k).trans (hnxt.out k hlt)
      have hfrz : wr.frozen? ⟨G, k, none⟩ = false := hg.out.frz k
      have i0 : (0 : Int) ≤ (k : Int) := by omega
      have i1 : (k : Int) < (m : Int) := by omega
      have i2 : (0 : Int) ≤ (S : Int) := by omega
      have i3 : (S : Int) < 4 := by omega
      have hset1 : ∀ u : Bool, D.take (k + 1) = D.take k ++ [u] → BlkT 5 (wr.setCell ⟨G, k, none⟩ (.int .u8 ((cell u).toNat : Int))) G (outL D (k + 1) m) := fun u hu => by
        rw [← hset.out k hlt u hu]
        exact hg.out.set k _ (by rw [hout.out k hk]; exact hlt)
      replace n0 := Lib.hid n0
      replace n1 := Lib.hid n1
      replace hS0 := Lib.hid hS0
      replace hS1 := Lib.hid hS1
      clear hC0 hC1 hv hch
      have hv3 : v = 0 ∨ v = 1 ∨ v = 2 := by omega
      clear hv2
      rcases hv3 with rfl | rfl | rfl
      · obtain ⟨ht, hfn⟩ := a0 rfl
        have hgn := hset1 false ht
        have hBn := hb.setCell (p := ⟨G, k, none⟩) (Nat.le_refl G) (.int .u8 48)
        replace hgn : BlkT 5 (wr.setCell ⟨G, k, none⟩ (.int .u8 48)) G (outL D (k + 1) m) := hgn
        have hsn : G < (wr.setCell ⟨G, k, none⟩ (.int .u8 48)).heap.size := by simpa using hsz.out
        replace hfn := Lib.hid hfn
        replace hgn := Lib.hid hgn
        replace hsn := Lib.hid hsn
        clear a0 a1 a2 hset1 ht hb hg
        go_wp2_with fail
        refine (n0.out _).mono ?_
        rintro e w5 ⟨rfl, hb5⟩
        have r1 := Lib.hid (hgn.out.below hb5 hsn.out)
        have r2 : Hid (G < w5.heap.size) := Lib.hid (Nat.lt_of_lt_of_le hsn.out hb5.size)
        have r3 : Below G w w5 := hBn.trans (hb5.mono (Nat.le_of_lt hsn.out))
        clear hgn hsn hb5 hBn hcell hfrz
        go_wp2
        go_roundw
        case rel => exact ⟨k + 1, S0, false, s1, q, by omega, by go_num, rfl, rfl, Lib.hid hS0.out.symm, hfn, r1, r2, r3⟩
        case measure => simp [intOf]; omega
      · obtain ⟨ht, hfn⟩ := a1 rfl
        have hgn := hset1 true ht
        have hBn := hb.setCell (p := ⟨G, k, none⟩) (Nat.le_refl G) (.int .u8 49)
        replace hgn : BlkT 5 (wr.setCell ⟨G, k, none⟩ (.int .u8 49)) G (outL D (k + 1) m) := hgn
        have hsn : G < (wr.setCell ⟨G, k, none⟩ (.int .u8 49)).heap.size := by simpa using hsz.out
        replace hfn := Lib.hid hfn
        replace hgn := Lib.hid hgn
        replace hsn := Lib.hid hsn
        clear a0 a1 a2 hset1 ht hb hg
        go_wp2_with fail
        refine (n1.out _).mono ?_
        rintro e w5 ⟨rfl, hb5⟩
        have r1 := Lib.hid (hgn.out.below hb5 hsn.out)
        have r2 : Hid (G < w5.heap.size) := Lib.hid (Nat.lt_of_lt_of_le hsn.out hb5.size)
        have r3 : Below G w w5 := hBn.trans (hb5.mono (Nat.le_of_lt hsn.out))
        clear hgn hsn hb5 hBn hcell hfrz
        go_wp2
        go_roundw
        case rel => exact ⟨k + 1, S1, true, s1, q, by omega, by go_num, rfl, rfl, Lib.hid hS1.out.symm, hfn, r1, r2, r3⟩
        case measure => simp [intOf]; omega
      · obtain ⟨ht, hfn⟩ := a2 rfl
        have hgn := hset1 false ht
        have hBn := hb.setCell (p := ⟨G, k, none⟩) (Nat.le_refl G) (.int .u8 48)
        replace hgn : BlkT 5 (wr.setCell ⟨G, k, none⟩ (.int .u8 48)) G (outL D (k + 1) m) := hgn
        have hsn : G < (wr.setCell ⟨G, k, none⟩ (.int .u8 48)).heap.size := by simpa using hsz.out
        replace hfn := Lib.hid hfn
        replace hgn := Lib.hid hgn
        replace hsn := Lib.hid hsn
        clear a0 a1 a2 hset1 ht hb hg
        go_wp2_with fail
        refine (n0.out _).mono ?_
        rintro e w5 ⟨rfl, hb5⟩
        have r1 := Lib.hid (hgn.out.below hb5 hsn.out)
        have r2 : Hid (G < w5.heap.size) := Lib.hid (Nat.lt_of_lt_of_le hsn.out hb5.size)
        have r3 : Below G w w5 := hBn.trans (hb5.mono (Nat.le_of_lt hsn.out))
        clear hgn hsn hb5 hBn hcell hfrz
        go_wp2
        go_roundw
        case rel => exact ⟨k + 1, S0, false, s1, false, by omega, by go_num, rfl, rfl, Lib.hid hS0.out.symm, hfn, r1, r2, r3⟩
        case measure => simp [intOf]; omega
    · obtain rfl : k = m := by omega
      have dl : decide ((k : Int) < (k : Int)) = false := decide_eq_false (by omega)
      have hq := hdone.out s1 s2 q hf.out
      have hg2 := hg.out
      rw [hall.out] at hg2
      have hnk : n ≤ D.length := by rw [hDl.out]; omega
      have hBA : BAt wr G (cs (D.take n)) := fun j hj => by
        have hj' : j < D.length := by rw [cs_len, List.length_take] at hj; omega
        refine ⟨(hg2.cell j).trans ?_, hg2.frz j⟩
        rw [List.getElem?_eq_getElem (by unfold bys; simp [cs_len]; exact hj')]
        simp [bys, cs]
      have hcv := hBA.conv (P := Try.prog) (cap := k) (n := n) (by rw [cs_len, List.length_take]; omega) Try.underlying31 Try.underlying5 Try.underlying9
      have i4 : (0 : Int) ≤ (n : Int) := by omega
      have i5 : (n : Int) ≤ (k : Int) := by omega
      obtain ⟨O, hO⟩ : ∃ O : ByteArray, sb (D.take n) = O := ⟨_, rfl⟩
      replace hcv : (convert 31 9 (.slice (some ⟨G, 0, none⟩) n k)).run Try.prog wr = .ok (.string O) wr := by rw [← hO]; exact hcv
      replace hq := Lib.hid hq
      replace hO := Lib.hid hO
      clear hg2 hBA
      go_wp2
      go_ret2
      exact ⟨by rw [hq.out, hO.out]; rfl, by rw [hG.out]; exact hb⟩
end Go.Proofs.Ytmkmikegddafdaa.V10
