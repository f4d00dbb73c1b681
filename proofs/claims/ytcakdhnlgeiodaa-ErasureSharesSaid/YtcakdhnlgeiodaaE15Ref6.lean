/- The contracts of the reference's Restore and Block of layer 15. -/
import Derived.Test.YtcakdhnlgeiodaaE15Ref5
namespace Go.Proofs.Ytcakdhnlgeiodaa.E15
set_option maxRecDepth 100000
open Go.RowKit Mem S14
open Go.Proofs.Ytcakdhnlgeiodaa.G5 Go.Proofs.Ytcakdhnlgeiodaa.G7
open Go.Proofs.Ytcakdhnlgeiodaa.G6 (IsSl rs rs_len rs_get rs_set rs_one rs_snoc make_zeros zeros_at own_zeros info_byte u8s conv_sl)
set_option linter.unusedVariables false
set_option linter.unusedSimpArgs false

set_option maxHeartbeats 16000000 in
theorem rrestore_any {A : Option Addr} {c n : Nat} {l : List Rw} {w : World} (d : Int) (h : IsRaw w A n c l) (hl : n ≤ 1000) (hsm : ∀ r ∈ l, r.2.length ≤ 1000000) :
    Calls Try.prog 17 #[.slice A n c, .int .i64 d] w (RstP l d w) := by
  have hbad : ∀ (k : Int) (w' : World), k = errR l d → k ≠ 0 → Below w.heap.size w w' → RstP l d w (.returned (.tuple #[.slice none 0 0, .int .i64 k])) w' := fun k w' h1 h2 h3 => ⟨k, [], none, 0, ⟨h1, fun h => absurd h h2, fun _ => rfl⟩, rfl, IsBs.zero _, h3⟩
  have hgood : ∀ (v : Value) (M : Nat) (w' : World), M = d.toNat → errR l d = 0 → w'.ownsRow w.heap.size 9 1 v M (bs ((List.range M).map fun i => stO (fst_ l d.toNat) (pt i))) → Below w.heap.size w w' → RstP l d w (.returned (.tuple #[v, .int .i64 0])) w' := fun v M w' e h1 h2 h3 => by
    subst e
    obtain ⟨hl, A', c', rfl, hB⟩ := IsBs.of_own h2
    refine ⟨0, _, A', c', ⟨h1.symm, fun _ => rfl, fun h => absurd rfl h⟩, ?_, ?_, h3⟩
    · rw [hl]
    · rw [hl]; exact hB
  have cC := check_any d h hl hsm
  have cF := fun (D : Nat) (hD : D ≤ 15) (W : World) (hb : Below w.heap.size w W) (hx : IxOk l) => first_any (D := D) (hs := shs l) (by rw [raws_shs hx]; exact h.below hb) hl (by omega) (shs_small hx)
  unfold ChkP at cC
  obtain ⟨k, hk⟩ : ∃ k, errR l d = k := ⟨_, rfl⟩
  rw [hk] at cC hgood
  simp only [hk] at hbad
  obtain ⟨P, hP⟩ : ∃ P, RstP l d w = P := ⟨_, rfl⟩
  rw [hP] at hbad hgood ⊢
  replace hbad := Lib.hid hbad
  replace hgood := Lib.hid hgood
  replace cC := Lib.hid cC
  replace cF := Lib.hid cF
  replace hk := Lib.hid hk
  replace hsm := Lib.hid hsm
  obtain ⟨j0, hj0, hy0, hy1, hy2⟩ := info_parts info_str
  clear hP h
  show Calls _ _ _ _ (fun e w' => P e w')
  go_enter Try.func17, Try.ntmps17
  go_wp2_with fail
  refine (cC.out).mono ?_
  rintro e w1 ⟨rfl, hb1⟩
  by_cases h0 : k = 0
  · subst h0
    obtain ⟨e1, e2, e3, e4, _⟩ := err_zero hk.out
    obtain ⟨D, rfl⟩ : ∃ D : Nat, d = (D : Int) := Int.eq_ofNat_of_zero_le (by omega)
    have D15 : D ≤ 15 := by omega
    have D1 : 1 ≤ D := by omega
    replace cF := Lib.hid (cF.out D D15 w1 hb1 e2)
    have hle : Hid (LenOk (l.map Prod.snd)) := Lib.hid e3
    have hfl : Hid ((fst_ l D).length = D) := Lib.hid (fst_len e4)
    have hgd := Lib.hid (fun v w' => hgood.out v D w' rfl rfl)
    replace hb1 := Lib.hid hb1
    clear e1 e2 e3 e4 hgood hbad cC
    go_wp2_with fail
    refine (cF.out).mono ?_
    rintro e w3 ⟨A1, c1, B1, c2, rfl, hA, hB, hb3⟩
    rw [show firstF D [] (shs l) = fst_ l D from rfl] at hA hB ⊢
    have cA := fun (x : R) (W : World) (hb : Below w3.heap.size w3 W) => at_first x (hA.below hb) (hB.below hb) (by have := hfl.out; omega) (by have := hfl.out; omega) (fst_nodup l D) (fst_same hle.out D) (fst_small hsm.out D)
    rw [hfl.out] at cA ⊢
    obtain ⟨T, hT⟩ : ∃ T, stO (fst_ l D) = T := ⟨_, rfl⟩
    have hgd2 : ∀ (v : Value) (w' : World), w'.ownsRow w.heap.size 9 1 v D (bs ((List.range D).map fun i => T (pt i))) → Below w.heap.size w w' → P (.returned (.tuple #[v, .int .i64 0])) w' := by
      rw [← hT]
      exact hgd.out
    rw [hT] at cA
    have hb4 := Lib.hid (chain hb1.out hb3)
    have o1 : (w3.alloc (.cells #[] 9)).ownsRow w3.heap.size 9 1 (.slice (some ⟨w3.heap.size, 0, none⟩) 0 0) 0 (bs ((List.range 0).map fun i => T (pt i))) := empty_at rfl (Nat.le_refl _)
    have o3 : Below w3.heap.size w3 (w3.alloc (.cells #[] 9)) := (Below.refl _ _).alloc (Nat.le_refl _) _
    replace cA := Lib.hid cA
    replace hgd2 := Lib.hid hgd2
    replace o1 := Lib.hid o1
    replace o3 := Lib.hid o3
    clear hA hB hb3 hb1 hgd hT cF hle hfl hk
    go_wp2
    go_loopw [9, 10] (fun vv iv wr => ∃ (j : Nat) (v : Value), v = vv ∧ iv = .int .i64 (j : Int) ∧ j ≤ D ∧ Hid (wr.ownsRow w3.heap.size 9 1 v j (bs ((List.range j).map fun i => T (pt i)))) ∧ Hid (Below w3.heap.size w3 wr)) (fun _ iv _ => D - (intOf iv).toNat)
    case atStart => exact ⟨0, _, rfl, rfl, Nat.zero_le _, o1, o3⟩
    case round =>
      clear o1 o3
      obtain ⟨j, v, rfl, rfl, hj, hrow, hb⟩ := hrel
      by_cases hjt : j < D
      · have dj : decide ((j : Int) < (D : Int)) = true := decide_eq_true (by omega)
        have j0' : (0 : Int) ≤ (j : Int) := by omega
        have j1 : (j : Int) < (D : Int) := by omega
        have hj15 : (j : Int) ≤ 15 := by omega
        have hwI : IntKind.u8.wrap (j : Int) = (j : Int) := by rw [IntKind.wrap_u8]; omega
        have cK := cA.out (pt j) wr hb.out
        rw [show bv (pt j) = .int .u8 (j : Int) from by unfold bv; rw [pt_val (by omega)]] at cK
        obtain ⟨S, hS⟩ : ∃ S, str (T (pt j)) = S := ⟨_, rfl⟩
        rw [hS] at cK
        have hsn := Lib.hid (show bs ((List.range (j + 1)).map fun i => T (pt i)) = bs ((List.range j).map fun i => T (pt i)) ++ [.string S] by
          rw [List.range_succ, List.map_append, List.map_cons, List.map_nil, bs_snoc, hS])
        replace cK := Lib.hid cK
        clear hS
        go_wp2_with fail
        refine (cK.out).mono ?_
        rintro e w5 ⟨rfl, hb5⟩
        have hro2 := own_below hrow.out hb5
        have hbo2 := chain hb.out hb5
        have hbs5 := hbo2.size
        clear hrow hb hb5 cK
        go_wp2_with (at_builtin; refine wpList_append_own _ rfl _ _ 22 rfl w3.heap.size 9 j0 (.string ⟨#[]⟩) 1 16 Try.underlying22 hj0 hy0 hy1 hy2 rfl (by decide) _ _ _ rfl (hro2.alloc _) ⟨w5.heap.size, 0, none⟩ 1 1 [.string S] rfl rfl (one_new _ _ _) (one_str _) (by unfold maxLen; omega) (by omega) (by simp; omega) ?_; intro v' w6 hown' hgrow _)
        have hb6 := (hbo2.alloc hbs5 _).grown hgrow (by simp; omega) (fun j hj => (hro2.lt j hj).1)
        rw [← hsn.out] at hown'
        clear hgrow hro2 hbo2
        go_roundw
        case rel => exact ⟨j + 1, _, rfl, by go_num, by omega, Lib.hid hown', Lib.hid hb6⟩
        case measure => simp [intOf]; omega
      · obtain rfl : j = D := by omega
        have dj : decide ((j : Int) < (j : Int)) = false := decide_eq_false (by omega)
        have hfin := Lib.hid (hgd2.out v wr (own_mono hrow.out hb4.out.size) (hb4.out.trans (hb.out.mono hb4.out.size)))
        clear hgd2 hrow hb cA hb4
        go_wp2
        first | go_ret2 | skip
        exact hfin.out
  · have t1 : (k != 0) = true := bne_iff_ne.2 h0
    have hfin := Lib.hid (hbad.out k w1 rfl h0 hb1)
    clear hbad hgood cC cF hk hb1 h0
    go_wp2
    first | go_ret2 | skip
    exact hfin.out
set_option maxHeartbeats 16000000 in
theorem rblock_any {A : Option Addr} {c n : Nat} {l : List Rw} {w : World} (d x : Int) (h : IsRaw w A n c l) (hl : n ≤ 1000) (hsm : ∀ r ∈ l, r.2.length ≤ 1000000) :
    Calls Try.prog 19 #[.slice A n c, .int .i64 d, .int .i64 x] w (BlkP l d x w) := by
  have hbad : ∀ (k : Int) (w' : World), k = (if x < 0 ∨ 14 < x then 2 else errR l d) → k ≠ 0 → Below w.heap.size w w' → BlkP l d x w (.returned (.tuple #[.string ⟨#[]⟩, .int .i64 k])) w' := fun k w' h1 h2 h3 => ⟨k, [], ⟨h1, fun h => absurd h h2, fun _ => rfl⟩, rfl, h3⟩
  have hgood : ∀ (w' : World), ¬ (x < 0 ∨ 14 < x) → errR l d = 0 → Below w.heap.size w w' → BlkP l d x w (.returned (.tuple #[.string (str (stO (fst_ l d.toNat) (pt x.toNat))), .int .i64 0])) w' := fun w' h0 h1 h3 => ⟨0, _, ⟨by rw [if_neg h0, h1], fun _ => rfl, fun h => absurd rfl h⟩, rfl, h3⟩
  have cC := check_any d h hl hsm
  have cF := fun (D : Nat) (hD : D ≤ 15) (W : World) (hb : Below w.heap.size w W) (hx : IxOk l) => first_any (D := D) (hs := shs l) (by rw [raws_shs hx]; exact h.below hb) hl (by omega) (shs_small hx)
  unfold ChkP at cC
  obtain ⟨P, hP⟩ : ∃ P, BlkP l d x w = P := ⟨_, rfl⟩
  rw [hP] at hbad hgood ⊢
  replace hbad := Lib.hid hbad
  replace hgood := Lib.hid hgood
  replace cF := Lib.hid cF
  replace hsm := Lib.hid hsm
  clear hP h
  show Calls _ _ _ _ (fun e w' => P e w')
  by_cases x0 : x < 0
  · have t1 : decide (x < 0) = true := decide_eq_true x0
    have hfin := Lib.hid (hbad.out 2 w (by rw [if_pos (Or.inl x0)]) (by decide) (Below.refl _ _))
    clear hbad hgood cF cC
    go_enter Try.func19, Try.ntmps19
    go_wp2
    first | go_ret2 | skip
    exact hfin.out
  have t1 : decide (x < 0) = false := decide_eq_false x0
  by_cases x1 : 14 < x
  · have t2 : decide (14 < x) = true := decide_eq_true x1
    have hfin := Lib.hid (hbad.out 2 w (by rw [if_pos (Or.inr x1)]) (by decide) (Below.refl _ _))
    clear hbad hgood cF cC
    go_enter Try.func19, Try.ntmps19
    go_wp2
    first | go_ret2 | skip
    exact hfin.out
  have t2 : decide (14 < x) = false := decide_eq_false x1
  have hx : ¬ (x < 0 ∨ 14 < x) := fun h => h.elim x0 x1
  obtain ⟨X, rfl⟩ : ∃ X : Nat, x = (X : Int) := Int.eq_ofNat_of_zero_le (by omega)
  have X14 : (X : Int) ≤ 14 := by omega
  have X0 : (0 : Int) ≤ (X : Int) := by omega
  have hwX : IntKind.u8.wrap (X : Int) = (X : Int) := by rw [IntKind.wrap_u8]; omega
  obtain ⟨k, hk⟩ : ∃ k, errR l d = k := ⟨_, rfl⟩
  rw [hk] at cC
  replace hx := Lib.hid hx
  replace cC := Lib.hid cC
  replace hk := Lib.hid hk
  go_enter Try.func19, Try.ntmps19
  go_wp2_with fail
  refine (cC.out).mono ?_
  rintro e w1 ⟨rfl, hb1⟩
  by_cases h0 : k = 0
  · subst h0
    obtain ⟨e1, e2, e3, e4, _⟩ := err_zero hk.out
    obtain ⟨D, rfl⟩ : ∃ D : Nat, d = (D : Int) := Int.eq_ofNat_of_zero_le (by omega)
    have D15 : D ≤ 15 := by omega
    have D1 : 1 ≤ D := by omega
    replace cF := Lib.hid (cF.out D D15 w1 hb1 e2)
    have hle : Hid (LenOk (l.map Prod.snd)) := Lib.hid e3
    have hfl : Hid ((fst_ l D).length = D) := Lib.hid (fst_len e4)
    have hgd := Lib.hid (fun w' => hgood.out w' hx.out hk.out)
    replace hb1 := Lib.hid hb1
    clear e1 e2 e3 e4 hgood hbad cC
    go_wp2_with fail
    refine (cF.out).mono ?_
    rintro e w3 ⟨A1, c1, B1, c2, rfl, hA, hB, hb3⟩
    rw [show firstF D [] (shs l) = fst_ l D from rfl] at hA hB ⊢
    have cA := at_first (pt X) hA hB (by have := hfl.out; omega) (by have := hfl.out; omega) (fst_nodup l D) (fst_same hle.out D) (fst_small hsm.out D)
    rw [hfl.out] at cA ⊢
    rw [show bv (pt X) = .int .u8 (X : Int) from by unfold bv; rw [pt_val (by omega)]] at cA
    obtain ⟨S, hS⟩ : ∃ S, str (stO (fst_ l D) (pt X)) = S := ⟨_, rfl⟩
    rw [hS] at cA
    have hgd2 : ∀ w', Below w.heap.size w w' → P (.returned (.tuple #[.string S, .int .i64 0])) w' := by
      rw [← hS]
      exact hgd.out
    have hb4 := Lib.hid (chain hb1.out hb3)
    replace cA := Lib.hid cA
    replace hgd2 := Lib.hid hgd2
    clear hA hB hb3 hb1 hgd hS cF hle hfl hk hx
    go_wp2_with fail
    refine (cA.out).mono ?_
    rintro e w5 ⟨rfl, hb5⟩
    have hfin := Lib.hid (hgd2.out w5 (chain hb4.out hb5))
    clear hgd2 hb5 cA hb4
    go_wp2
    first | go_ret2 | skip
    exact hfin.out
  · have t3 : (k != 0) = true := bne_iff_ne.2 h0
    have hfin := Lib.hid (hbad.out k w1 (by rw [if_neg hx.out]; exact hk.out.symm) h0 hb1)
    clear hbad hgood cC cF hk hb1 h0 hx
    go_wp2
    first | go_ret2 | skip
    exact hfin.out
end Go.Proofs.Ytcakdhnlgeiodaa.E15
