/- The walk of the law LayoutRestores. -/
import Derived.Test.YtcfoclmkhippoaaL16Open
import Derived.Test.YtcfoclmkhippoaaL16Lp
import Derived.Test.YtcfoclmkhippoaaL16Own6
import Derived.Test.YtcfoclmkhippoaaL16Ref2
import Derived.Test.YtcfoclmkhippoaaE15On
import Derived.Test.YtcfoclmkhippoaaE15Own9
namespace Go.Proofs.Ytcfoclmkhippoaa.L16
set_option maxRecDepth 100000
open Go.RowKit Mem
open Go.Proofs.Ytcfoclmkhippoaa.G5 Go.Proofs.Ytcfoclmkhippoaa.G7 Go.Proofs.Ytcfoclmkhippoaa.E15
set_option linter.unusedVariables false
set_option linter.unusedSimpArgs false

section
/-- The shares with these numbers. -/
def shK (T : R → List R) (l : List Nat) : List Sh := l.map fun k => (pt k, T (pt k))
theorem shK_len (T : R → List R) (l : List Nat) : (shK T l).length = l.length := by simp [shK]
theorem shK_snoc (T : R → List R) (l : List Nat) (k : Nat) (h : k < 256) : rw_ (raws (shK T (l ++ [k]))) = rw_ (raws (shK T l)) ++ [.int .i64 (k : Int), .string (str (T (pt k)))] := by
  unfold shK
  rw [List.map_append]
  show rw_ (raws (_ ++ [_])) = _
  rw [raws_snoc]
  show _ ++ [Value.int .i64 ((pt k).toNat : Int), _] = _
  rw [pt_val h]
theorem stp_T {n m : Nat} {x : List R} {a k : Nat} (h15 : n + m ≤ 15) (hk : k < n + m) : (stp n m x a).getD k [] = stD (dat n x a) 28 (pt k) := by
  have hl := dat_len n x a
  by_cases h : k < n
  · rw [stp_get x a h, stD_at (by omega) (fun b hb => dat_28 b hb) (by omega), dat_get x a h]
  · unfold stp
    rw [List.getD_eq_getElem?_getD, List.getElem?_append_right (by omega), hl]
    unfold spr
    rw [List.getElem?_map, List.getElem?_range (by omega)]
    show stD (dat n x a) 28 (pt (n + (k - n))) = _
    rw [show n + (k - n) = k by omega]
theorem dat_back {n : Nat} {x : List R} {a : Nat} (h : n ≤ 15) : ((List.range n).map fun i => stD (dat n x a) 28 (pt i)) = dat n x a := by
  have hl := dat_len n x a
  refine List.ext_getElem (by simp [hl]) fun i h1 h2 => ?_
  rw [List.getElem_map, List.getElem_range, stD_at (by omega) (fun b hb => dat_28 b hb) (by omega)]
  simp [List.getD_eq_getElem?_getD, h2]
/-- Enough shares of a stripe restore its data blocks. -/
theorem rest_shK {n m : Nat} {x : List R} {a : Nat} {l : List Nat} (h1 : 1 ≤ n) (h15 : n + m ≤ 15) (hl : l.Nodup) (hr : ∀ k ∈ l, k < n + m) (hn : n ≤ l.length) {k : Int} {bl : List (List R)} (h : RstQ (raws (shK (stD (dat n x a) 28) l)) (n : Int) k bl) : k = 0 ∧ bl = dat n x a := by
  have hT := stD_stripe (dat n x a) 28
  rw [dat_len] at hT
  have hO : OnT (stD (dat n x a) 28) (shK (stD (dat n x a) 28) l) := fun s hs => by
    obtain ⟨i, _, rfl⟩ := List.mem_map.1 hs
    rfl
  have hix : ∀ s ∈ shK (stD (dat n x a) 28) l, s.1.toNat ≤ 14 := fun s hs => by
    obtain ⟨i, hi, rfl⟩ := List.mem_map.1 hs
    have := hr i hi
    show (pt i).toNat ≤ 14
    rw [pt_val (by omega)]
    omega
  have hnd : ((shK (stD (dat n x a) 28) l).map Prod.fst).Nodup := by
    have e : (shK (stD (dat n x a) 28) l).map Prod.fst = l.map pt := by
      unfold shK
      rw [List.map_map]
      rfl
    rw [e]
    exact nodup_map_pt (fun i hi => by have := hr i hi; omega) hl
  obtain ⟨e0, e1⟩ := (rst_on hT h1 (by omega) hO hix).2 (first_all hnd (by rw [shK_len]; exact hn))
  have hk : k = 0 := by rw [h.err, e0]
  refine ⟨hk, ?_⟩
  rw [h.yes hk]
  exact Eq.trans (List.map_congr_left fun i _ => e1 _) (dat_back (show n ≤ 15 by omega))
theorem shK_small {n : Nat} {x : List R} {a : Nat} {l : List Nat} : ∀ r ∈ raws (shK (stD (dat n x a) 28) l), r.2.length ≤ 1000000 := fun r hr => by
  obtain ⟨s, hs, rfl⟩ := List.mem_map.1 hr
  obtain ⟨i, _, rfl⟩ := List.mem_map.1 hs
  show (stD (dat n x a) 28 (pt i)).length ≤ _
  rw [(stD_stripe _ _).len]
  decide
/-- The reels that are left. -/
def lft (p : Nat → Bool) (k : Nat) : List Nat := (List.range k).filter p
def ints (l : List Nat) : List Int := l.map fun (k : Nat) => (k : Int)
theorem lft_yes {p : Nat → Bool} {k : Nat} (h : p k = true) : lft p (k + 1) = lft p k ++ [k] := by
  unfold lft
  rw [List.range_succ, List.filter_append]
  simp [h]
theorem lft_no {p : Nat → Bool} {k : Nat} (h : p k = false) : lft p (k + 1) = lft p k := by
  unfold lft
  rw [List.range_succ, List.filter_append]
  simp [h]
theorem lft_le (p : Nat → Bool) (k : Nat) : (lft p k).length ≤ k := by
  have := List.length_filter_le p (List.range k)
  rwa [List.length_range] at this
theorem lft_nodup (p : Nat → Bool) (k : Nat) : (lft p k).Nodup := List.nodup_range.sublist List.filter_sublist
theorem lft_mem {p : Nat → Bool} {k i : Nat} (h : i ∈ lft p k) : i < k := List.mem_range.1 (List.mem_filter.1 h).1
theorem lft_rec {p : Nat → Bool} {n m : Nat} (hL : Lok (n : Int) (m : Int)) : RecQ (n : Int) (m : Int) (ints (lft p (n + m))) ↔ n ≤ (lft p (n + m)).length := by
  unfold RecQ ints lft
  rw [show ((n : Int) + (m : Int)).toNat = n + m by omega, rcn_filter p (n + m) (n + m) (Nat.le_refl _)]
  exact ⟨fun h => by have := h.2; omega, fun h => ⟨hL, by omega⟩⟩
theorem ints_len (l : List Nat) : (ints l).length = l.length := by simp [ints]
theorem ints_snoc (l : List Nat) (k : Nat) : ints (l ++ [k]) = ints l ++ [(k : Int)] := by simp [ints]
theorem ints_get {l : List Nat} {j : Nat} (h : j < l.length) : (ints l).getD j 0 = (l[j] : Int) := by
  simp [ints, List.getD_eq_getElem?_getD, h]
theorem ints_fit {l : List Nat} (h : ∀ k ∈ l, k ≤ 1000) : ∀ z ∈ ints l, -9223372036854775808 ≤ z ∧ z ≤ 9223372036854775807 := fun z hz => by
  obtain ⟨k, hk, rfl⟩ := List.mem_map.1 hz
  have := h k hk
  omega
end
open Go.Proofs.Ytcfoclmkhippoaa.G8 (is is_len is_get is_snoc is_append IsInts info_int)
set_option linter.unusedVariables false
set_option linter.unusedSimpArgs false

theorem guard2 {D S K : Int} {p : Nat} (hK : ChkQ D S K) (h : ¬ (Lok D S ∧ p ≤ 200)) :
    (decide ((200 : Int) < (p : Int)) = true ∧ decide (200 < p) = true) ∨ (decide ((200 : Int) < (p : Int)) = false ∧ decide (200 < p) = false ∧ (K != 0) = true) := by
  by_cases h1 : 200 < p
  · exact Or.inl ⟨decide_eq_true (by omega), decide_eq_true h1⟩
  · refine Or.inr ⟨decide_eq_false (by omega), decide_eq_false h1, ?_⟩
    rcases hK with ⟨rfl, hL⟩ | ⟨rfl, hL⟩
    · exact absurd ⟨hL, by omega⟩ h
    · rfl
theorem sh_cells (z : Int) (S : ByteArray) : ∀ u ∈ ([.int .i64 z, .string S] : List Value), u.oneCell' = true := fun u hu => by
  rcases List.mem_cons.1 hu with rfl | hu
  · rfl
  · rw [List.mem_singleton.1 hu]; rfl
/-- Which reels are left. -/
def pLost (L k : Nat) : Bool := bits .and .u16 ((L : Int) / 2 ^ min k 16) 1 == 0
set_option maxHeartbeats 8000000 in
theorem walk_restores (D S : Int) (c : ByteArray) (L : Nat) (w : World) (hLs : L ≤ 65535) :
    Calls Try.prog 7 #[lyV D S, .string c, .int .u16 (L : Int)] w fun e w' => e = .returned (.bool true) ∧ Below w.heap.size w w' := by
  have cA := fun W => alive_any W
  have hP := LB.new w D S 23
  obtain ⟨W0, hW0⟩ : ∃ W0, w.alloc (.cells #[.int .i64 D, .int .i64 S] 23) = W0 := ⟨_, rfl⟩
  rw [hW0] at hP
  obtain ⟨G, hG⟩ : ∃ A, w.heap.size = A := ⟨_, rfl⟩
  rw [hG] at hP
  have hGh := Lib.hid hG
  obtain ⟨K, c5, hK⟩ := chk_one D S
  replace cA := Lib.hid cA
  replace c5 := Lib.hid c5
  replace hP := Lib.hid hP
  unfold lyV
  by_cases hin : Lok D S ∧ c.size ≤ 200
  · obtain ⟨hL, c200⟩ := hin
    obtain rfl : K = 0 := by
      rcases hK with h | h
      · exact h.1
      · exact absurd hL h.2
    obtain ⟨n, rfl⟩ := Int.eq_ofNat_of_zero_le (show 0 ≤ D by have := hL.1; omega)
    obtain ⟨m, rfl⟩ := Int.eq_ofNat_of_zero_le hL.2.2.1
    have n1 : 1 ≤ n := by have := hL.1; omega
    have n8 : n ≤ 8 := by have := hL.2.1; omega
    have m7 : m ≤ 7 := by have := hL.2.2.2; omega
    have d1 : decide ((200 : Int) < (c.size : Int)) = false := decide_eq_false (by omega)
    have d2 : decide (200 < c.size) = false := decide_eq_false (by omega)
    have nn8 : (n : Int) ≤ 8 := by omega
    have mm7 : (m : Int) ≤ 7 := by omega
    obtain ⟨V, hV⟩ : ∃ V, n + m = V := ⟨_, rfl⟩
    have eV : (n : Int) + (m : Int) = (V : Int) := by omega
    have V15 : V ≤ 15 := by omega
    obtain ⟨p, hp⟩ : ∃ p, pLost L = p := ⟨_, rfl⟩
    have hpk : ∀ k, p k = (bits .and .u16 ((L : Int) / 2 ^ min k 16) 1 == 0) := fun k => by rw [← hp]; rfl
    have hrec := lft_rec (p := p) hL
    have c1 := fun W => sts_own (n : Int) (m : Int) c (by omega) W
    unfold lyV at c1
    have hok := fun x k L (h : StsQ (n : Int) (m : Int) x k L) => stsq_ok hL h
    obtain ⟨i0, hi, hi0, hi1, hi2⟩ := info_parts info_int
    replace c1 := Lib.hid c1
    replace hok := Lib.hid hok
    replace hrec := Lib.hid hrec
    replace hpk := Lib.hid hpk
    have hLh := Lib.hid hL
    have hVh := Lib.hid hV
    clear hK hL hp
    go_enter Try.func7, Try.ntmps7
    go_wp2_with fail
    refine (cA.out _).mono ?_
    rintro e w1 ⟨rfl, hb1⟩
    replace hP := Lib.hid (hP.out.next hb1)
    clear hW0 hb1
    have x0 := hP.out.c0
    have x1 := hP.out.c1
    go_wp2_with fail
    refine (c5.out _).mono ?_
    rintro e w2 ⟨rfl, hb2⟩
    replace hP := Lib.hid (hP.out.next hb2)
    clear x0 x1 hb2 c5
    go_wp2
    go_loopw [7, 8] (fun rv kv wr => ∃ (k : Nat) (v : Value), v = rv ∧ kv = .int .i64 (k : Int) ∧ k ≤ V ∧ Hid (wr.ownsRow (G + 1) 3 1 v (lft p k).length (is (ints (lft p k)))) ∧ Hid (LB w wr G (n : Int) (m : Int))) (fun _ kv _ => V - (intOf kv).toNat)
    case atStart => exact ⟨0, _, rfl, rfl, Nat.zero_le _, Lib.hid (World.ownsRow_nil _ _ _ _), hP⟩
    case round =>
      clear hP
      obtain ⟨k, v, rfl, rfl, hk, hrow, hP⟩ := hrel
      have x0 := hP.out.c0
      have x1 := hP.out.c1
      by_cases hlt : k < V
      · have dk : decide ((k : Int) < (V : Int)) = true := decide_eq_true (by omega)
        have k0 : (0 : Int) ≤ (k : Int) := by omega
        have k15 : (k : Int) ≤ 15 := by omega
        have wk : IntKind.u64.wrap (k : Int) = (k : Int) := by rw [IntKind.wrap_u64]; omega
        have hb0 := hpk.out k
        have emin : min k 16 = k := Nat.min_eq_left (by omega)
        rcases hbit : p k with _ | _
        · rw [hbit] at hb0
          have e1 := hb0.symm
          have e2 := e1
          rw [emin] at e2
          have hrow2 : Hid (wr.ownsRow (G + 1) 3 1 v (lft p (k + 1)).length (is (ints (lft p (k + 1))))) := by rw [lft_no hbit]; exact hrow
          clear hb0 hrow hbit emin
          go_wp2
          go_roundw
          case rel => exact ⟨k + 1, _, rfl, by go_num, by omega, hrow2, hP⟩
          case measure => simp [intOf]; omega
        · rw [hbit] at hb0
          have e1 := hb0.symm
          have e2 := e1
          rw [emin] at e2
          have hst : Hid (is (ints (lft p (k + 1))) = is (ints (lft p k)) ++ [.int .i64 (k : Int)]) := Lib.hid (by rw [lft_yes hbit, ints_snoc, is_snoc])
          have hll : Hid ((lft p (k + 1)).length = (lft p k).length + 1) := Lib.hid (by rw [lft_yes hbit]; simp)
          have hlk := lft_le p k
          have hro := hrow.out
          have hbase : G + 1 ≤ wr.heap.size := hP.out.lt
          clear hb0 hrow hbit emin
          go_wp2_with (at_builtin; refine wpList_append_own _ rfl _ _ 41 rfl (G + 1) 3 i0 (.int .i64 0) 1 8 Try.underlying41 hi hi0 hi1 hi2 rfl (by decide) _ _ _ rfl (hro.alloc _) ⟨wr.heap.size, 0, none⟩ 1 1 [.int .i64 (k : Int)] rfl rfl (list_new _ _ _) (int_one _) (by unfold maxLen; omega) (by omega) (by simp; omega) ?_; intro v' w6 hown' hgrow _)
          have hbel6 := ((Below.refl (G + 1) wr).alloc hbase _).grown hgrow (by simp; omega) (fun j hj => (hro.lt j hj).1)
          have hP6 := Lib.hid (hP.out.above hbel6)
          rw [← hst.out, ← hll.out] at hown'
          replace hown' := Lib.hid hown'
          clear hgrow hro hst hll hbel6 hP
          go_wp2
          go_roundw
          case rel => exact ⟨k + 1, _, rfl, by go_num, by omega, hown', hP6⟩
          case measure => simp [intOf]; omega
      · obtain rfl : k = V := by omega
        have dk : decide ((k : Int) < (k : Int)) = false := decide_eq_false (by omega)
        obtain ⟨l, hl⟩ : ∃ l, lft p k = l := ⟨_, rfl⟩
        have hlr : ∀ i ∈ l, i < n + m := fun i hi => by rw [← hl] at hi; have := lft_mem hi; have := hVh.out; omega
        have hnd : l.Nodup := by rw [← hl]; exact lft_nodup p k
        have hlk : l.length ≤ k := by rw [← hl]; exact lft_le p k
        have hrec2 := hrec.out
        rw [hVh.out, hl] at hrec2
        rw [hl] at hrow
        have hfit := ints_fit (l := l) (fun i hi => by have := hlr i hi; omega)
        obtain ⟨A2, c2', rfl, _, _⟩ := own_slice hrow.out
        obtain ⟨hI, hIl⟩ := IsInts.of_own hrow.out hfit
        obtain ⟨N, hN⟩ : ∃ N, l.length = N := ⟨_, rfl⟩
        rw [hN] at hIl hrec2 hlk
        rw [hN]
        have hN15 : N ≤ 15 := by omega
        have hNi : (N : Int) ≤ 15 := by omega
        have cR := recov_own (n : Int) (m : Int) wr hI hIl (by omega)
        unfold lyV at cR
        replace cR := Lib.hid cR
        replace hrec2 := Lib.hid hrec2
        replace hI := Lib.hid hI
        replace hlr := Lib.hid hlr
        replace hnd := Lib.hid hnd
        replace hN := Lib.hid hN
        clear hrow hpk hrec hl hfit hIl
        go_wp2_with fail
        refine (cR.out).mono ?_
        rintro e w3 ⟨⟨q, rfl, hq⟩, hb3⟩
        replace hI := Lib.hid (hI.out.below hb3)
        replace hP := Lib.hid (hP.out.next hb3)
        have hqN : q = true ↔ n ≤ N := hq.trans hrec2.out
        clear x0 x1 hb3 hq cR hrec2
        have x0 := hP.out.c0
        have x1 := hP.out.c1
        cases q with
        | false =>
          have hlt : N < n := Nat.lt_of_not_le fun h => absurd (hqN.2 h) (by decide)
          have t1 : decide ((N : Int) < (n : Int)) = true := decide_eq_true (by omega)
          have t2 : decide (N < n) = true := decide_eq_true hlt
          have hfin := Lib.hid hP.out.bel
          clear hqN hP hI hlr hnd hN c1 hok
          go_wp2
          go_ret
          exact ⟨rfl, hfin.out⟩
        | true =>
          have hnN : n ≤ N := hqN.1 rfl
          have t1 : decide ((N : Int) < (n : Int)) = false := decide_eq_false (by omega)
          have t2 : decide (N < n) = false := decide_eq_false (by omega)
          clear hqN
          go_wp2_with fail
          refine (c1.out _).mono ?_
          rintro e w4 ⟨k1, L1, A1, m1, hq1, rfl, hI1, hb4⟩
          obtain ⟨rfl, rfl⟩ := hok.out _ _ _ hq1
          replace hP := Lib.hid (hP.out.next hb4)
          replace hI := Lib.hid (hI.out.below hb4)
          obtain ⟨Z, hZ⟩ : ∃ Z, (sts n m (el c)).length = Z := ⟨_, rfl⟩
          rw [hZ] at hI1 ⊢
          have hZ2 : cnt n (el c).length = Z := by rw [← sts_len n m, hZ]
          have hget := Lib.hid fun i (h : i < Z) => show (sts n m (el c)).getD i [] = stp n m (el c) (i * (28 * n)) from sts_getD _ (by rw [hZ2]; exact h)
          have hZ3 : Z ≤ 200 := by rw [← hZ2]; exact Nat.le_trans (cnt_le n1) (by rw [el_len]; exact c200)
          replace hI1 := Lib.hid hI1
          clear x0 x1 hb4 hq1 c1 hok hZ hZ2
          have x0 := hP.out.c0
          have x1 := hP.out.c1
          go_wp2
          clear x0 x1
          go_loopw [11] (fun iv wr => ∃ i : Nat, iv = .int .i64 (i : Int) ∧ i ≤ Z ∧ Hid (Below w4.heap.size w4 wr)) (fun iv _ => Z - (intOf iv).toNat)
          case atStart => exact ⟨0, rfl, Nat.zero_le _, Lib.hid (Below.refl _ _)⟩
          case round =>
            obtain ⟨i, rfl, hi', hbw⟩ := hrel
            by_cases hiZ : i < Z
            · have di : decide ((i : Int) < (Z : Int)) = true := decide_eq_true (by omega)
              have i0' : (0 : Int) ≤ (i : Int) := by omega
              have i1' : (i : Int) < (Z : Int) := by omega
              obtain ⟨b1, o1, A3, l3, k3, rfl, hbl1, g1, hB1⟩ := hI1.out.getD hiZ
              rw [hget.out i hiZ] at hB1
              obtain rfl : n + m = l3 := by rw [← hB1.len, stp_len]
              rw [hVh.out] at g1
              obtain ⟨a, ha⟩ : ∃ a, i * (28 * n) = a := ⟨_, rfl⟩
              rw [ha] at hB1
              replace hB1 := Lib.hid hB1
              obtain ⟨T, hT⟩ : ∃ T, stD (dat n (el c) a) 28 = T := ⟨_, rfl⟩
              have hTk : ∀ k', k' < n + m → (stp n m (el c) a).getD k' [] = T (pt k') := fun k' h => by rw [← hT]; exact stp_T (by have := hVh.out; omega) h
              replace hTk := Lib.hid hTk
              replace hT := Lib.hid hT
              obtain ⟨wA, rfl⟩ : ∃ W, W = wr := ⟨_, rfl⟩
              clear ha
              go_wp2
              go_loopw [12, 79] (fun hv jv wr => ∃ (j : Nat) (v : Value), v = hv ∧ jv = .int .i64 (j : Int) ∧ j ≤ N ∧ Hid (wr.ownsRow wA.heap.size 46 2 v j (rw_ (raws (shK T (l.take j))))) ∧ Hid (Below wA.heap.size wA wr)) (fun _ jv _ => N - (intOf jv).toNat)
              case atStart => exact ⟨0, _, rfl, rfl, Nat.zero_le _, Lib.hid (World.ownsRow_nil _ _ _ _), Lib.hid (Below.refl _ _)⟩
              case round =>
                obtain ⟨j, v, rfl, rfl, hj, hrow, hbr⟩ := hrel
                by_cases hjN : j < N
                · have dj : decide ((j : Int) < (N : Int)) = true := decide_eq_true (by omega)
                  have j0 : (0 : Int) ≤ (j : Int) := by omega
                  have j1 : (j : Int) < (N : Int) := by omega
                  have hjl : j < l.length := by rw [hN.out]; exact hjN
                  have hbr4 := chain hbw.out hbr.out
                  obtain ⟨b2, o2, rfl, hbl2, g2⟩ := hI.out.read j (by rw [ints_len]; exact hjl)
                  rw [ints_get hjl] at g2
                  replace g2 := (hbr4.cell (p := ⟨b2, o2 + j, none⟩) hbl2).trans g2
                  have hr := hlr.out l[j] (List.getElem_mem hjl)
                  have htk := List.take_add_one (l := l) (i := j)
                  rw [List.getElem?_eq_getElem hjl] at htk
                  obtain ⟨r, hre⟩ : ∃ r, l[j] = r := ⟨_, rfl⟩
                  rw [hre] at g2 hr htk
                  obtain ⟨b3, o3, rfl, hbl3, g3⟩ := bs_getD hB1.out hr
                  rw [hTk.out r hr] at g3
                  replace g1 := (hbr4.cell (p := ⟨b1, o1 + i, none⟩) hbl1).trans g1
                  replace g3 := (hbr4.cell (p := ⟨b3, o3 + r, none⟩) hbl3).trans g3
                  have hsn : rw_ (raws (shK T (l.take (j + 1)))) = rw_ (raws (shK T (l.take j))) ++ [.int .i64 (r : Int), .string (str (T (pt r)))] := by
                    rw [htk]
                    exact shK_snoc T _ r (by have := hVh.out; omega)
                  obtain ⟨S, hS⟩ : ∃ S, str (T (pt r)) = S := ⟨_, rfl⟩
                  rw [hS] at g3 hsn
                  replace hsn := Lib.hid hsn
                  have hrV : r < k := by have := hVh.out; omega
                  have r0 : (0 : Int) ≤ (r : Int) := by omega
                  have r1 : (r : Int) < (k : Int) := by omega
                  have hro := hrow.out
                  have hbo := hbr.out
                  have hbs := hbo.size
                  clear htk hre hS hr hjl hbr4 hrow hbr
                  obtain ⟨i2, hi2', hz0', hz1', hz2'⟩ := info_parts info_share
                  go_wp2_with (at_builtin; refine wpList_append_own _ rfl _ _ 44 rfl wA.heap.size 46 i2 (.agg #[.int .i64 0, .string ⟨#[]⟩]) 2 24 Try.underlying44 hi2' hz0' hz1' hz2' rfl (by decide) _ _ _ rfl (hro.alloc _) ⟨wr.heap.size, 0, none⟩ 1 1 [.int .i64 (r : Int), .string S] rfl rfl (list_new _ _ _) (sh_cells _ _) (by unfold maxLen; omega) (by omega) (by simp; omega) ?_; intro v' w6 hown' hgrow _)
                  have hb6 := (hbo.alloc hbs _).grown hgrow (by simp; omega) (fun j hj => (hro.lt j hj).1)
                  rw [← hsn.out] at hown'
                  replace hown' := Lib.hid hown'
                  replace hb6 := Lib.hid hb6
                  clear hgrow hro hbo g1 g2 g3 hsn
                  go_wp2
                  go_roundw
                  case rel => exact ⟨j + 1, _, rfl, by go_num, by omega, hown', hb6⟩
                  case measure => simp [intOf]; omega
                · obtain rfl : j = N := by omega
                  have dj : decide ((j : Int) < (j : Int)) = false := decide_eq_false (by omega)
                  have etk : l.take j = l := List.take_of_length_le (by rw [hN.out]; exact Nat.le_refl _)
                  have hro := hrow.out
                  rw [etk] at hro
                  obtain ⟨hl5, A5, c5', rfl, hR5⟩ := IsRaw.of_own hro
                  have hbr4 := chain hbw.out hbr.out
                  have hP2 := hP.out.next hbr4
                  have x0 := hP2.c0
                  have x1 := hP2.c1
                  have hrs := fun (k' : Int) (bl : List (List R)) (h : RstQ (raws (shK T l)) (n : Int) k' bl) => show k' = 0 ∧ bl = dat n (el c) a from by
                    rw [← hT.out] at h
                    exact rest_shK n1 (by have := hVh.out; omega) hnd.out hlr.out (by rw [hN.out]; exact hnN) h
                  have cE := restore_own (n : Int) hR5 (by omega) (by rw [← hT.out]; exact shK_small)
                  replace hrs := Lib.hid hrs
                  replace cE := Lib.hid cE
                  replace hbr4 := Lib.hid hbr4
                  clear hro hrow hR5 etk hbr hP2 hl5
                  go_wp2_with fail
                  refine (cE.out).mono ?_
                  rintro e w5 ⟨k5, bl, A6, c6, hq5, rfl, hB5, hb5⟩
                  obtain ⟨rfl, rfl⟩ := hrs.out _ _ hq5
                  rw [dat_len] at hB5 ⊢
                  have hbw5 := chain hbr4.out hb5
                  have hP2 := hP.out.next hbw5
                  replace hbw5 := Lib.hid hbw5
                  replace hB5 := Lib.hid hB5
                  clear x0 x1 hrs cE hq5 hbr4 hb5
                  have x0 := hP2.c0
                  have x1 := hP2.c1
                  have tn : ((n : Int) != (n : Int)) = false := by simp
                  clear hP2
                  go_wp2
                  clear x0 x1
                  go_loopw [17] (fun kv wr => ∃ q : Nat, kv = .int .i64 (q : Int) ∧ q ≤ n ∧ Hid (Below w5.heap.size w5 wr)) (fun kv _ => n - (intOf kv).toNat)
                  case atStart => exact ⟨0, rfl, Nat.zero_le _, Lib.hid (Below.refl _ _)⟩
                  case round =>
                    obtain ⟨q, rfl, hq, hbq⟩ := hrel
                    have hbw6 := chain hbw5.out hbq.out
                    have hP2 := hP.out.next hbw6
                    have x0 := hP2.c0
                    have x1 := hP2.c1
                    by_cases hqn : q < n
                    · have dq : decide ((q : Int) < (n : Int)) = true := decide_eq_true (by omega)
                      have q0 : (0 : Int) ≤ (q : Int) := by omega
                      have q1 : (q : Int) < (n : Int) := by omega
                      have q2 : (q : Int) < (k : Int) := by have := hVh.out; omega
                      obtain ⟨b3, o3, rfl, hbl3, g3⟩ := bs_getD hB1.out (show q < n + m by omega)
                      rw [stp_get _ _ hqn] at g3
                      obtain ⟨b5, o5, rfl, hbl5, g5⟩ := bs_getD hB5.out hqn
                      rw [dat_get _ _ hqn] at g5
                      obtain ⟨S, hS⟩ : ∃ S, str (bk (el c) (a + 28 * q) 28) = S := ⟨_, rfl⟩
                      rw [hS] at g3 g5
                      have hsB : (S.toList == S.toList) = true := by simp
                      replace g1 := (hbw6.cell (p := ⟨b1, o1 + i, none⟩) hbl1).trans g1
                      replace g3 := (hbw6.cell (p := ⟨b3, o3 + q, none⟩) hbl3).trans g3
                      replace g5 := (hbq.out.cell (p := ⟨b5, o5 + q, none⟩) hbl5).trans g5
                      replace hbw6 := Lib.hid hbw6
                      clear hS hP2
                      go_wp2
                      go_quiet (fail)
                      rename_i nq _
                      have hb8 := Lib.hid (chain hbq.out (chainN (Below.refl _ _) nq))
                      clear g1 g3 g5 x0 x1 hbw6
                      go_wp2
                      go_roundw
                      case rel => exact ⟨q + 1, by go_num, by omega, hb8⟩
                      case measure => simp [intOf]; omega
                    · obtain rfl : q = n := by omega
                      have dq : decide ((q : Int) < (q : Int)) = false := decide_eq_false (by omega)
                      replace hbw6 := Lib.hid hbw6
                      clear hP2
                      go_wp2
                      go_roundw
                      case rel => exact ⟨i + 1, by go_num, by omega, hbw6⟩
                      case measure => simp [intOf]; omega
            · obtain rfl : i = Z := by omega
              have di : decide ((i : Int) < (i : Int)) = false := decide_eq_false (by omega)
              have hfin := Lib.hid (hP.out.next hbw.out).bel
              clear hI1 hI hP hbw hget
              go_wp2
              go_ret
              exact ⟨rfl, hfin.out⟩
  · have hor := guard2 hK hin
    clear hK hin
    rcases hor with ⟨t1, t2⟩ | ⟨t1, t2, t3⟩
    · go_enter Try.func7, Try.ntmps7
      go_wp2_with fail
      refine (cA.out _).mono ?_
      rintro e w1 ⟨rfl, hb1⟩
      have hfin := Lib.hid (hP.out.next hb1).bel
      clear hW0 hb1 hP
      go_wp2
      go_ret
      exact ⟨rfl, hfin.out⟩
    · go_enter Try.func7, Try.ntmps7
      go_wp2_with fail
      refine (cA.out _).mono ?_
      rintro e w1 ⟨rfl, hb1⟩
      replace hP := Lib.hid (hP.out.next hb1)
      clear hW0 hb1
      have x0 := hP.out.c0
      have x1 := hP.out.c1
      go_wp2_with fail
      refine (c5.out _).mono ?_
      rintro e w2 ⟨rfl, hb2⟩
      have hfin := Lib.hid (hP.out.next hb2).bel
      clear x0 x1 hb2 hP
      go_wp2
      go_ret
      exact ⟨rfl, hfin.out⟩
/-- The same at what the reading says. -/
theorem row_restores (D S : Int) (c : ByteArray) (L : Int) (w : World) (hD : (Lit.int .i64 D).wf = true) (hS : (Lit.int .i64 S).wf = true) (hc : c.size ≤ 140737488351232) (hL : (Lit.int .u16 L).wf = true) : Calls Try.prog 7 #[lyV D S, .string c, .int .u16 L] w fun e w' => e = .returned (.bool true) ∧ Below w.heap.size w w' := by
  obtain ⟨h1, h2⟩ : 0 ≤ L ∧ L ≤ 65535 := (Lit.wf_int_iff .u16 _).1 hL
  obtain ⟨k, rfl⟩ := Int.eq_ofNat_of_zero_le h1
  exact walk_restores D S c k w (by omega)
end Go.Proofs.Ytcfoclmkhippoaa.L16
