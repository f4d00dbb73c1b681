/- The contract of the landed basisOf of layer 15. -/
import Derived.Test.YtcfoclmkhippoaaE15Own6
import Derived.Test.YtcfoclmkhippoaaE15Own7
import Derived.Test.YtcfoclmkhippoaaE15Con
namespace Go.Proofs.Ytcfoclmkhippoaa.E15
set_option maxRecDepth 100000
open Go.RowKit Mem S14
open Go.Proofs.Ytcfoclmkhippoaa.G5 Go.Proofs.Ytcfoclmkhippoaa.G7
open Go.Proofs.Ytcfoclmkhippoaa.G6 (IsSl rs rs_len rs_get rs_set rs_one rs_snoc make_zeros zeros_at own_zeros info_byte u8s conv_sl)
set_option linter.unusedVariables false
set_option linter.unusedSimpArgs false

def BasP (l : List Rw) (d : Int) (w : World) (e : Ending) (w' : World) : Prop := ∃ (k : Int) (A : Option Addr) (n c : Nat), k = errR l d ∧ e = .returned (.tuple #[.slice A n c, .int .i64 k]) ∧ (k = 0 → n = d.toNat ∧ IsRaw w' A n c (raws (fst_ l d.toNat))) ∧ Below w.heap.size w w'
set_option maxHeartbeats 8000000 in
theorem basis_own {A : Option Addr} {c n : Nat} {l : List Rw} {w : World} (d : Int) (h : IsRaw w A n c l) (hl : n ≤ 100) (hsm : ∀ r ∈ l, r.2.length ≤ 1000000) :
    Calls Try.prog 29 #[.slice A n c, .int .i64 d] w (BasP l d w) := by
  have hbad : ∀ (k : Int) (w' : World), k = errR l d → k ≠ 0 → Below w.heap.size w w' → BasP l d w (.returned (.tuple #[.slice none 0 0, .int .i64 k])) w' := fun k w' h1 h2 h3 => ⟨k, none, 0, 0, h1, rfl, fun h => absurd h h2, h3⟩
  have hgood : ∀ (A : Option Addr) (c D : Nat) (w' : World), D = d.toNat → errR l d = 0 → IsRaw w' A D c (raws (fst_ l d.toNat)) → Below w.heap.size w w' → BasP l d w (.returned (.tuple #[.slice A D c, .int .i64 0])) w' := fun A c D w' e h1 h2 h3 => ⟨0, A, D, c, h1.symm, rfl, fun _ => ⟨e, h2⟩, h3⟩
  have cI := areix_own h (by omega)
  have cE := fun (W : World) (hb : Below w.heap.size w W) => eql_own (h.below hb) (by omega)
  have cF := fun (W : World) (hb : Below w.heap.size w W) (hx : IxOk l) => foe_own (D := n + 16) (hs := shs l) (by rw [raws_shs hx]; exact h.below hb) (by omega) (by omega) (shs_small hx)
  have cC := fun (W W0 : World) (A2 : Option Addr) (D c2 : Nat) (hb : Below w.heap.size w W) (hx : IxOk l) (hle : LenOk (l.map Prod.snd)) (hD : D = d.toNat) (h0 : 0 < D) (h15 : D ≤ 100) (hf : (fst_ l D).length = D) (hr : IsRaw W A2 D c2 (raws (fst_ l D))) =>
    cont_own (ms := shs l) hr hf h0 (fst_nodup l D) h15 (fst_same hle D) (fst_small hsm D) (by rw [raws_shs hx]; exact h.below hb) (by omega)
  obtain ⟨P, hP⟩ : ∃ P, BasP l d w = P := ⟨_, rfl⟩
  rw [hP] at hbad hgood ⊢
  replace hbad := Lib.hid hbad
  replace hgood := Lib.hid hgood
  replace cI := Lib.hid cI
  replace cE := Lib.hid cE
  replace cF := Lib.hid cF
  replace cC := Lib.hid cC
  clear hP h hsm
  show Calls _ _ _ _ (fun e w' => P e w')
  by_cases h1 : d < 1
  · have t1 : decide (d < 1) = true := decide_eq_true h1
    have hfin := Lib.hid (hbad.out 1 w (err_d (Or.inl h1)).symm (by decide) (Below.refl _ _))
    clear hbad hgood cI cE cF cC
    go_enter Try.func29, Try.ntmps29
    go_wp2
    first | go_ret2 | skip
    exact hfin.out
  by_cases h2 : 15 < d
  · have t1 : decide (d < 1) = false := decide_eq_false h1
    have t2 : decide (15 < d) = true := decide_eq_true h2
    have hfin := Lib.hid (hbad.out 1 w (err_d (Or.inr h2)).symm (by decide) (Below.refl _ _))
    clear hbad hgood cI cE cF cC
    go_enter Try.func29, Try.ntmps29
    go_wp2
    first | go_ret2 | skip
    exact hfin.out
  have hd : ¬ (d < 1 ∨ 15 < d) := fun h => h.elim h1 h2
  have t1 : decide (d < 1) = false := decide_eq_false h1
  have t2 : decide (15 < d) = false := decide_eq_false h2
  obtain ⟨D, rfl⟩ : ∃ D : Nat, d = (D : Int) := Int.eq_ofNat_of_zero_le (by omega)
  have D1 : 1 ≤ D := by omega
  have D15 : D ≤ 15 := by omega
  go_enter Try.func29, Try.ntmps29
  go_wp2_with fail
  refine (cI.out).mono ?_
  rintro e w1 ⟨⟨q1, rfl, hq1⟩, hb1⟩
  rcases q1 with _ | _
  · have hfin := Lib.hid (hbad.out 2 w1 (err_ix hd (fun h => by cases hq1.2 h)).symm (by decide) hb1)
    clear hbad hgood cI cE cF cC hq1 hb1
    go_wp2
    first | go_ret2 | skip
    exact hfin.out
  have hx := Lib.hid (hq1.1 rfl)
  replace cE := Lib.hid (cE.out w1 hb1)
  replace hb1 := Lib.hid hb1
  clear hq1 cI
  go_wp2_with fail
  refine (cE.out).mono ?_
  rintro e w2 ⟨⟨q2, rfl, hq2⟩, hb2⟩
  have hb2 := Lib.hid (chain hb1.out hb2)
  rcases q2 with _ | _
  · have hfin := Lib.hid (hbad.out 1 w2 (err_len hd hx.out (fun h => by cases hq2.2 h)).symm (by decide) hb2.out)
    clear hbad hgood cE cF cC hq2 hb1 hb2 hx
    go_wp2
    first | go_ret2 | skip
    exact hfin.out
  have hle := Lib.hid (hq2.1 rfl)
  replace cF := Lib.hid (cF.out w2 hb2.out hx.out)
  clear hq2 cE hb1
  go_wp2_with fail
  refine (cF.out).mono ?_
  rintro e w3 ⟨v, rfl, hrow, hb3⟩
  obtain ⟨hfl, A2, c2, rfl, hr3⟩ := IsRaw.of_own hrow
  rw [raws_len] at hfl
  have hft : fst_ l D = (firstF (n + 16) [] (shs l)).take D := fst_take_ (by omega)
  obtain ⟨M, hM⟩ : ∃ M, (firstF (n + 16) [] (shs l)).length = M := ⟨_, rfl⟩
  rw [hM] at hr3
  have hb3 := Lib.hid (chain hb2.out hb3)
  have hlen : (fst_ l D).length = min D M := by rw [hft, List.length_take, hM]
  clear hrow hfl cF
  rw [hM]
  by_cases h5 : M < D
  · have t3 : decide ((M : Int) < (D : Int)) = true := decide_eq_true (by omega)
    have t3' : decide (M < D) = true := decide_eq_true h5
    have hfin := Lib.hid (hbad.out 19 w3 (err_lost hd hx.out hle.out (by show (fst_ l D).length < D; omega)).symm (by decide) hb3.out)
    clear hbad hgood cC hb2 hb3 hx hle hr3 hlen hft hM
    go_wp2
    first | go_ret2 | skip
    exact hfin.out
  have t3 : decide ((M : Int) < (D : Int)) = false := decide_eq_false (by omega)
  have t3' : decide (M < D) = false := decide_eq_false h5
  have hr4 := hr3.take (d := D) (by omega)
  rw [show (raws (firstF (n + 16) [] (shs l))).take D = raws (fst_ l D) by unfold raws; rw [hft, List.map_take]] at hr4
  have hfD : (fst_ l D).length = D := by omega
  obtain ⟨b, o, rfl, -, -⟩ := hr4.get (k := 0) (by rw [raws_len]; omega)
  have hcle := hr3.le
  have hcm := hr3.capm
  unfold maxLen at hcm
  have c0 : (0 : Int) ≤ (D : Int) := by omega
  have c1 : (D : Int) ≤ (c2 : Int) := by omega
  have c3 : (c2 : Int) ≤ 9223372036854775807 := by omega
  replace cC := Lib.hid (cC.out w3 w3 _ D c2 hb3.out hx.out hle.out rfl (by omega) (by omega) hfD hr4)
  have hr5 := Lib.hid hr4
  clear hr3 hr4 hlen hft hM
  go_wp2_with fail
  refine (cC.out).mono ?_
  rintro e w4 ⟨⟨q3, rfl, hq3⟩, hb4⟩
  have hr6 := Lib.hid (hr5.out.below hb4)
  have hb4 := Lib.hid (chain hb3.out hb4)
  rcases q3 with _ | _
  · have hfin := Lib.hid (hbad.out 20 w4 (err_conf hd hx.out hle.out (by show ¬ (fst_ l D).length < D; omega) (fun h => by cases hq3.2 h)).symm (by decide) hb4.out)
    clear hbad hgood cC hb2 hb3 hx hle hb4 hr5 hr6 hq3
    go_wp2
    first | go_ret2 | skip
    exact hfin.out
  have hfin := Lib.hid (hgood.out _ _ D w4 rfl (err_ok hd hx.out hle.out (by show ¬ (fst_ l D).length < D; omega) (hq3.1 rfl)) hr6.out hb4.out)
  clear hbad hgood cC hb2 hb3 hx hle hb4 hr5 hr6 hq3
  go_wp2
  first | go_ret2 | skip
  exact hfin.out
end Go.Proofs.Ytcfoclmkhippoaa.E15
