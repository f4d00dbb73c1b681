/- The walk of the law ErasureDetects. -/
import Derived.Test.YtcakdhnlgeiodaaE15Awake
import Derived.Test.YtcakdhnlgeiodaaE15Own9
import Derived.Test.YtcakdhnlgeiodaaE15Some
import Derived.Test.YtcakdhnlgeiodaaE15Sel
import Derived.StillTailTactics
namespace Go.Proofs.Ytcakdhnlgeiodaa.E15
set_option maxRecDepth 100000
open Go.RowKit Mem S14
open Go.Proofs.Ytcakdhnlgeiodaa.G5 Go.Proofs.Ytcakdhnlgeiodaa.G7
open Go.Proofs.Ytcakdhnlgeiodaa.G6 (IsSl rs rs_len rs_get rs_set rs_one rs_snoc make_zeros zeros_at own_zeros info_byte u8s conv_sl)
set_option linter.unusedVariables false
set_option linter.unusedSimpArgs false

/-- '[]byte(s)' as a row of elements. -/
theorem bytes_rowE (w : World) (s : ByteArray) (hs : s.size ≤ 1000000) : ∃ (cap : Nat) (W : World), s.size ≤ cap ∧ cap ≤ 9223372036854775807 ∧ (convert 9 43 (.string s)).run Try.prog w = .ok (.slice (some ⟨w.heap.size, 0, none⟩) s.size cap) W ∧
    VAt W w.heap.size (rs (el s)) ∧ w.heap.size < W.heap.size ∧ Below w.heap.size w W := by
  have hcap := grownCap_ge w s.size 0 5
  have hle := grownCap_le_maxLen w s.size 0 5 (by unfold maxLen; omega)
  have hrun := run_bytes_of_string (P := Try.prog) w 9 43 5 s Try.underlying9 Try.underlying43 Try.underlying5
  obtain ⟨cap, hc⟩ : ∃ cap, grownCap w s.size 0 5 = cap := ⟨_, rfl⟩
  rw [hc] at hcap hle hrun
  have hCs : (bytesRow s cap).size = cap := by simp [bytesRow]; omega
  rw [hCs] at hrun
  refine ⟨cap, _, hcap, by unfold maxLen at hle; omega, hrun, fun j hj => ?_, by simp, (Below.refl _ w).drew.alloc (by simp) _⟩
  have hj' : j < s.data.size := by rw [rs_len, el_len] at hj; exact hj
  refine ⟨(World.cell?_alloc_mark w.drew _ _ _ j).trans ((bytesRow_at s cap j hj').trans ?_), (World.frozen?_alloc_mark w.drew _ _ _ _ j).trans ?_⟩
  · congr 1
    simp [rs, el]
  · have : j < s.size := hj'
    simp
    omega
theorem rw_set1 (l : List Rw) (k : Nat) (x : List R) (hk : k < l.length) : (rw_ l).set (k * 2 + 1) (.string (str x)) = rw_ (l.set k (l[k].1, x)) := by
  induction l generalizing k with
  | nil => simp at hk
  | cons r l ih =>
    have e : rw_ (r :: l) = .int .i64 r.1 :: .string (str r.2) :: rw_ l := rfl
    cases k with
    | zero => rw [e]; rfl
    | succ k =>
      have := ih k (by simpa using hk)
      rw [e, show (k + 1) * 2 + 1 = k * 2 + 1 + 1 + 1 by omega]
      simp only [List.set_cons_succ]
      rw [this]
      rfl
/-- Shares of one stripe but one: the error. -/
theorem Sel.det {E : List (List R)} {m M : Nat} {hs : List Sh} (h : Sel E m M hs) (hl : E.length < hs.length) {k : Nat} (hk : k < hs.length) {b : List R} (hb : b ≠ hs[k].2) (hbl : b.length = m) : errR ((raws hs).set k (((hs[k].1.toNat : Nat) : Int), b)) (E.length : Int) = 20 := by
  have e : (raws hs).set k (((hs[k].1.toNat : Nat) : Int), b) = raws (hs.set k (hs[k].1, b)) := by unfold raws; rw [List.map_set]
  rw [e]
  have h1 := h.ev.lo
  have h8 := h.ev.hi
  have hd : ¬ ((E.length : Int) < 1 ∨ 15 < (E.length : Int)) := by omega
  have hix : ∀ s ∈ hs.set k (hs[k].1, b), s.1.toNat ≤ 14 := fun s hs' => by
    rcases List.mem_or_eq_of_mem_set hs' with h' | h'
    · exact h.ix s h'
    · rw [h']
      show hs[k].1.toNat ≤ 14
      exact h.ix _ (List.getElem_mem hk)
  have hfst : (hs.set k (hs[k].1, b)).map Prod.fst = hs.map Prod.fst := by
    rw [List.map_set]
    show (hs.map Prod.fst).set k hs[k].1 = _
    have : hs[k].1 = (hs.map Prod.fst)[k]'(by rw [List.length_map]; exact hk) := by simp
    rw [this, List.set_getElem_self]
  have hall : ∀ c ∈ (hs.set k (hs[k].1, b)).map Prod.snd, c.length = m := fun c hc => by
    obtain ⟨s, hs', rfl⟩ := List.mem_map.1 hc
    rcases List.mem_or_eq_of_mem_set hs' with h' | h'
    · rw [h.on s h', (stD_stripe E m).len]
    · rw [h']; exact hbl
  have hlk : LenOk ((raws (hs.set k (hs[k].1, b))).map Prod.snd) := by
    rw [snd_raws]
    intro r hr
    rw [hall r hr, headD_get _ (List.length_pos_of_mem hr), hall _ (List.getElem_mem _)]
  have he : fst_ (raws (hs.set k (hs[k].1, b))) E.length = firstF E.length [] (hs.set k (hs[k].1, b)) := by unfold fst_; rw [shs_raws]
  refine err_conf hd (ix_raws hix) hlk (by
    show ¬ (fst_ (raws (hs.set k (hs[k].1, b))) E.length).length < E.length
    rw [he, first_all (by rw [hfst]; exact h.nodup) (by rw [List.length_set]; omega)]
    omega) (by
    show ¬ OnT (stO (fst_ (raws (hs.set k (hs[k].1, b))) E.length)) (shs (raws (hs.set k (hs[k].1, b))))
    rw [he, shs_raws]
    exact detect (stD_stripe E m) h1 h.on h.nodup hl hk hb hbl)
set_option maxHeartbeats 16000000 in
theorem walk_detects (A : Option Addr) (n c : Nat) (ls : List (List UInt8)) (k s t y : Nat) (w : World) (h0 : IsStrs w A n c ls) (hk : k ≤ 255) (hs : s ≤ 65535) (ht : t ≤ 65535) (hy : y ≤ 255) :
    Calls Try.prog 7 #[.slice A n c, .int .u8 (k : Int), .int .u16 (s : Int), .int .u16 (t : Int), .int .u8 (y : Int)] w fun e w' => e = .returned (.bool true) ∧ Below w.heap.size w w' := by
  obtain ⟨L, _, h⟩ := IsBs.of_strs h0
  have cS := stripe_any k hk h
  have cA := fun W => awake_any W
  replace cS := Lib.hid cS
  replace cA := Lib.hid cA
  clear h h0
  go_enter Try.func7, Try.ntmps7
  go_wp2_with fail
  refine (cS.out).mono ?_
  rintro e w1 ⟨E, m, M, A1, c1, v, hE, hM, rfl, hB1, hr1, hb1⟩
  obtain ⟨hl1, A2, c2, rfl, hR1⟩ := IsRaw.of_own hr1
  have hE8 := hE.hi
  have hE1 := hE.lo
  have hm40 := hE.m40
  have cM := some_any s hs hR1 (by omega)
  have hE0 : (E[0]'(by omega)).length = m := hE.len _ (List.getElem_mem _)
  obtain ⟨b, o, rfl, hbl, g0⟩ := hB1.get (k := 0) (by omega)
  rw [Nat.add_zero] at g0
  obtain ⟨S0, hS0⟩ : ∃ S, str (E[0]'(by omega)) = S := ⟨_, rfl⟩
  have hz0 : S0.size = m := by rw [← hS0, size_str, hE0]
  rw [hS0] at g0
  obtain ⟨n1, hn1⟩ : ∃ n1, E.length = n1 := ⟨_, rfl⟩
  have hsel := fun ms (hm : ms.Sublist (shA (stD E m) (E.length + M))) => (⟨hE, hM, hm⟩ : Sel E m M ms)
  have hg := Lib.hid (fun W (hb : Below w1.heap.size w1 W) => (hb.cell (p := ⟨b, o, none⟩) hbl).trans g0)
  rw [hn1] at cM hE8 hE1 hsel ⊢
  have hn1 := Lib.hid hn1
  replace cM := Lib.hid cM
  replace hsel := Lib.hid hsel
  replace hb1 := Lib.hid hb1
  clear hr1 hR1 hE hl1 cS hB1 hS0 hE0 hbl g0
  go_wp2_with fail
  refine (cM.out).mono ?_
  rintro e w2 ⟨ms, v, hsub, rfl, hr2, hb2⟩
  obtain ⟨hl2, A3, c3, rfl, hR2⟩ := IsRaw.of_own hr2
  have hS2 := hsel.out ms hsub
  have hml := hS2.len
  have g0 := hg.out w2 hb2
  have hb3 := Lib.hid (chain hb1.out hb2)
  obtain ⟨N2, hN2⟩ : ∃ N2, ms.length = N2 := ⟨_, rfl⟩
  rw [hN2] at hml hr2 hR2 ⊢
  have n1i : (1 : Int) ≤ (n1 : Int) := by omega
  have hstop : (N2 ≤ n1 ∨ m = 0 ∨ y = 0) → True := fun _ => trivial
  clear hstop hg cM
  have y1 : (y : Int) ≤ 255 := by omega
  have y2 : (0 : Int) ≤ (y : Int) := by omega
  by_cases z1 : N2 ≤ n1
  · have t1 : decide ((N2 : Int) ≤ (n1 : Int)) = true := decide_eq_true (by omega)
    have t1' : decide (N2 ≤ n1) = true := decide_eq_true z1
    replace cA := Lib.hid (cA.out w2)
    clear hr2 hR2 hS2 hsub hl2 hb1 hb2 hsel hN2
    go_wp2_with fail
    refine (cA.out).mono ?_
    rintro e w4 ⟨rfl, hb6⟩
    have hfin := Lib.hid (chain hb3.out hb6)
    clear cA hb3 hb6
    go_wp2
    go_ret
    exact ⟨rfl, hfin.out⟩
  have t1 : decide ((N2 : Int) ≤ (n1 : Int)) = false := decide_eq_false (by omega)
  have t1' : decide (N2 ≤ n1) = false := decide_eq_false z1
  by_cases z2 : m = 0
  · have t2 : ((S0.size : Int) == 0) = true := beq_iff_eq.2 (by omega)
    have t2' : (S0.size == 0) = true := beq_iff_eq.2 (by omega)
    replace cA := Lib.hid (cA.out w2)
    clear hr2 hR2 hS2 hsub hl2 hb1 hb2 hsel hN2
    go_wp2_with fail
    refine (cA.out).mono ?_
    rintro e w4 ⟨rfl, hb6⟩
    have hfin := Lib.hid (chain hb3.out hb6)
    clear cA hb3 hb6
    go_wp2
    go_ret
    exact ⟨rfl, hfin.out⟩
  have t2 : ((S0.size : Int) == 0) = false := beq_eq_false_iff_ne.2 (by omega)
  have t2' : (S0.size == 0) = false := beq_eq_false_iff_ne.2 (by omega)
  by_cases z3 : y = 0
  · have t3 : ((y : Int) == 0) = true := beq_iff_eq.2 (by omega)
    have t3' : (y == 0) = true := beq_iff_eq.2 (by omega)
    replace cA := Lib.hid (cA.out w2)
    clear hr2 hR2 hS2 hsub hl2 hb1 hb2 hsel hN2
    go_wp2_with fail
    refine (cA.out).mono ?_
    rintro e w4 ⟨rfl, hb6⟩
    have hfin := Lib.hid (chain hb3.out hb6)
    clear cA hb3 hb6
    go_wp2
    go_ret
    exact ⟨rfl, hfin.out⟩
  have t3 : ((y : Int) == 0) = false := beq_eq_false_iff_ne.2 (by omega)
  have t3' : (y == 0) = false := beq_eq_false_iff_ne.2 (by omega)
  -- the share that is changed
  obtain ⟨K, hK⟩ : ∃ K, t % N2 = K := ⟨_, rfl⟩
  have hKN : K < N2 := by rw [← hK]; exact Nat.mod_lt _ (by omega)
  have m1 : (t : Int) % (N2 : Int) = (K : Int) := by omega
  have m2 : (t : Int).tmod (N2 : Int) = (K : Int) := by rw [Int.tmod_eq_emod_of_nonneg (by omega)]; exact m1
  obtain ⟨O, hO⟩ : ∃ O, t % m = O := ⟨_, rfl⟩
  have hOm : O < m := by rw [← hO]; exact Nat.mod_lt _ (by omega)
  have m3 : (t : Int) % (m : Int) = (O : Int) := by omega
  have m4 : (t : Int).tmod (m : Int) = (O : Int) := by rw [Int.tmod_eq_emod_of_nonneg (by omega)]; exact m3
  have i0 : (0 : Int) ≤ (t : Int) := by omega
  have i1 : (t : Int) ≤ 65535 := by omega
  have i2 : (0 : Int) ≤ (K : Int) := by omega
  have i3 : (K : Int) < (N2 : Int) := by omega
  have i4 : (0 : Int) ≤ (O : Int) := by omega
  have i5 : (O : Int) < (m : Int) := by omega
  have wt : IntKind.i64.wrap (t : Int) = (t : Int) := by rw [IntKind.wrap_i64]; omega
  have j1 : ((N2 : Int) == 0) = false := beq_eq_false_iff_ne.2 (by omega)
  have j2 : ((m : Int) == 0) = false := beq_eq_false_iff_ne.2 (by omega)
  have hKl : K < ms.length := by omega
  obtain ⟨b3, o3, hA3, hbl3, q0, q1⟩ := hR2.sh (k := K) hKl
  rw [getD_map' _ _ _ hKl] at q0 q1
  have hbm : ms[K].2.length = m := by rw [hS2.on _ (List.getElem_mem hKl), (stD_stripe E m).len]
  obtain ⟨S, hS⟩ : ∃ S, str ms[K].2 = S := ⟨_, rfl⟩
  have hSs : S.size = m := by rw [← hS, size_str, hbm]
  have hSe : el S = ms[K].2 := by rw [← hS, el_str]
  rw [hS] at q1
  obtain ⟨cap, W3, hcap, hcap2, hcv, hvW, hlW, hbW⟩ := bytes_rowE w2 S (by omega)
  rw [hSs] at hcap hcv
  rw [hSe] at hvW
  obtain ⟨A', cap', e', _, _, _, h5⟩ := own_rd hr2
  injection e' with e1 e2 e3
  subst e1 e3
  obtain ⟨ho3, -, hg1, hg2, -⟩ := h5 b3 o3 none hA3
  subst ho3
  subst hA3
  rw [Nat.zero_add] at q0 q1
  have hv2 := VAt.of_row hr2
  have hdet := fun (b : List R) h1 h2 => hS2.det (by rw [hn1.out]; omega) hKl (b := b) h1 h2
  obtain ⟨X, hX⟩ : ∃ X, ms[K].1 = X := ⟨_, rfl⟩
  obtain ⟨bl, hbl⟩ : ∃ bl, ms[K].2 = bl := ⟨_, rfl⟩
  rw [hbl] at hvW hbm
  obtain ⟨Z, hZ⟩ : ∃ Z, bl.getD O 0 = Z := ⟨_, rfl⟩
  have hxr := bxr Z (pt y)
  rw [pt_val (by omega)] at hxr
  obtain ⟨U, hU⟩ : ∃ U, Z ^^^ pt y = U := ⟨_, rfl⟩
  rw [hU] at hxr
  have hne : bl.set O U ≠ bl := fun h => by
    have h1 := G6.getD_set bl O O U (by omega)
    rw [h, if_pos rfl, hZ] at h1
    have h2 : Z ^^^ pt y = Z := by rw [hU]; exact h1.symm
    have h3 : pt y = 0 := by
      have h4 : Z ^^^ (Z ^^^ pt y) = Z ^^^ Z := by rw [h2]
      rw [G6.xcan, G6.xs] at h4
      exact h4
    have h5 : (pt y).toNat = 0 := by rw [h3]; rfl
    rw [pt_val (by omega)] at h5
    exact z3 h5
  have hdet2 := hdet (bl.set O U) (by rw [hbl]; exact hne) (by rw [List.length_set]; exact hbm)
  have hrd := G6.VAt.readR hvW (k := O) (by omega)
  rw [hZ] at hrd
  obtain ⟨v1, v2⟩ := hrd
  have hv3 := G6.VAt.setR hvW (k := O) (by omega) U
  obtain ⟨W4, hW4⟩ : ∃ W, (W3.setCell ⟨w2.heap.size, O, none⟩ (bv U)).drew = W := ⟨_, rfl⟩
  have hv4 : VAt W4 w2.heap.size (rs (bl.set O U)) := by rw [← hW4]; exact hv3.drew
  obtain ⟨S2, hS2'⟩ : ∃ S2, str (bl.set O U) = S2 := ⟨_, rfl⟩
  have hcv4 : (convert 43 9 (.slice (some ⟨w2.heap.size, 0, none⟩) m cap)).run Try.prog W4 = .ok (.string S2) W4 := by
    have hsl : IsSl W4 (some ⟨w2.heap.size, 0, none⟩) cap (bl.set O U) := ⟨by rw [List.length_set]; omega, hcap2, (fun h => by cases h), rd_at hv4⟩
    have := conv_sl (P := Try.prog) (n := m) (dst := 9) Try.underlying43 Try.underlying5 Try.underlying9 hsl (by rw [List.length_set]; exact hbm)
    rw [← hS2']
    exact this
  have hb4 : Below w2.heap.size w2 W4 := by rw [← hW4]; exact chainB (hbW.setCell (p := ⟨w2.heap.size, O, none⟩) (Nat.le_refl _) _) 1
  have hv5 : VAt W4 b3 (rw_ (raws ms)) := hv2.below hb4 hg2
  have hrl : (raws ms).length = N2 := by rw [raws_len, hN2]
  have hK2 : K * 2 + 1 < (rw_ (raws ms)).length := by rw [rw_len, hrl]; omega
  have hv6 := hv5.set hK2 (.string S2)
  have hc5 := (hv5 (K * 2 + 1) hK2)
  obtain ⟨u5, hu5⟩ : ∃ u, (rw_ (raws ms))[K * 2 + 1] = u := ⟨_, rfl⟩
  rw [hu5] at hc5
  obtain ⟨c5, f5⟩ := hc5
  have hr1k : (raws ms)[K]'(by omega) = ((X.toNat : Int), bl) := by simp [raws, hX, hbl]
  rw [← hS2', rw_set1 _ _ _ (by omega), hr1k] at hv6
  rw [hX] at hdet2
  rw [hS2'] at hv6
  have hR5 : IsRaw (W4.setCell ⟨b3, K * 2 + 1, none⟩ (.string S2)) (some ⟨b3, 0, none⟩) N2 c3 ((raws ms).set K ((X.toNat : Int), bl.set O U)) := IsRaw.of_at hv6 (by rw [List.length_set, hrl]) hR2.le hR2.capm
  have hsm5 : ∀ r ∈ (raws ms).set K ((X.toNat : Int), bl.set O U), r.2.length ≤ 1000000 := fun r hr => by
    rcases List.mem_or_eq_of_mem_set hr with h | h
    · exact hS2.small r h
    · rw [h]
      show (bl.set O U).length ≤ _
      rw [List.length_set]
      omega
  have cR := restore_own (n1 : Int) hR5 (by omega) hsm5
  have hb5 : Below w.heap.size w (W4.setCell ⟨b3, K * 2 + 1, none⟩ (.string S2)) := ((hb3.out.trans (hb4.mono hb3.out.size)).setCell (p := ⟨b3, K * 2 + 1, none⟩) (Nat.le_trans hb1.out.size hg1) _)
  rw [hn1.out] at hdet2
  have hcap3 : (m : Int) ≤ (cap : Int) := by omega
  replace cR := Lib.hid cR
  replace hb5 := Lib.hid hb5
  replace hdet2 := Lib.hid hdet2
  clear hv2 hv3 hv4 hv5 hv6 hR5 hsm5 hrl hK2 hu5 hr1k hne hdet hS2' hvW hbW hlW hb4 hR2 hr2 hS2 hsub hl2 hb1 hb2 hb3 hsel hN2 hX hbl hZ hU hK hO hS hSe hbm h5 hg1 hg2
  go_wp2_with fail
  refine wp_region_still_tail 17 (by kernel_rfl) (by kernel_rfl) ?_
  simp only [List.take_succ_cons, List.take_zero, List.drop_succ_cons, List.drop_zero]
  repeat still_step
  refine wpStill_nil ?_
  change wpList _ _ _ _ _ W3.drew
  go_wp2_with fail
  refine (cR.out).mono ?_
  rintro e w5 ⟨q, bl5, A5, c5', hq, rfl, hB5, hb6⟩
  have hq20 : q = 20 := by rw [hq.err]; exact hdet2.out
  subst hq20
  have hb7 := Lib.hid (hb5.out.trans (hb6.mono hb5.out.size))
  replace cA := Lib.hid (cA.out w5)
  clear hq hB5 hb6 hb5 hdet2 cR
  go_wp2_with fail
  refine (cA.out).mono ?_
  rintro e w6 ⟨rfl, hb8⟩
  have hfin := Lib.hid (chain hb7.out hb8)
  clear cA hb7 hb8
  go_wp2
  go_ret
  exact ⟨rfl, hfin.out⟩
end Go.Proofs.Ytcakdhnlgeiodaa.E15
