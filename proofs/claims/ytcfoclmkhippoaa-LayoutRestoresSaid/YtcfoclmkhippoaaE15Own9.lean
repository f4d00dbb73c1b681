/- The contract of the landed Restore of layer 15. -/
import Derived.Test.YtcfoclmkhippoaaE15Own5
import Derived.Test.YtcfoclmkhippoaaE15Own8
namespace Go.Proofs.Ytcfoclmkhippoaa.E15
set_option maxRecDepth 100000
open Go.RowKit Mem S14
open Go.Proofs.Ytcfoclmkhippoaa.G5 Go.Proofs.Ytcfoclmkhippoaa.G7
open Go.Proofs.Ytcfoclmkhippoaa.G6 (IsSl rs rs_len rs_get rs_set rs_one rs_snoc make_zeros zeros_at own_zeros info_byte u8s conv_sl)
set_option linter.unusedVariables false
set_option linter.unusedSimpArgs false

set_option maxHeartbeats 8000000 in
theorem restore_own {A : Option Addr} {c n : Nat} {l : List Rw} {w : World} (d : Int) (h : IsRaw w A n c l) (hl : n ≤ 100) (hsm : ∀ r ∈ l, r.2.length ≤ 1000000) :
    Calls Try.prog 21 #[.slice A n c, .int .i64 d] w (RstP l d w) := by
  have hbad : ∀ (k : Int) (w' : World), k = errR l d → k ≠ 0 → Below w.heap.size w w' → RstP l d w (.returned (.tuple #[.slice none 0 0, .int .i64 k])) w' := fun k w' h1 h2 h3 => ⟨k, [], none, 0, ⟨h1, fun h => absurd h h2, fun _ => rfl⟩, rfl, IsBs.zero _, h3⟩
  have hgood : ∀ (A : Option Addr) (c : Nat) (w' : World), errR l d = 0 → IsBs w' A d.toNat c ((List.range d.toNat).map fun i => stO (fst_ l d.toNat) (pt i)) → Below w.heap.size w w' → RstP l d w (.returned (.tuple #[.slice A d.toNat c, .int .i64 0])) w' := fun A c w' h1 h2 h3 => by
    refine ⟨0, _, A, c, ⟨h1.symm, fun _ => rfl, fun h => absurd rfl h⟩, ?_, ?_, h3⟩
    · rw [h2.len]
    · rw [h2.len]; exact h2
  have cB := basis_own d h hl hsm
  have cK := fun (W : World) (A2 : Option Addr) (c2 : Nat) (h0 : errR l d = 0) (hr : IsRaw W A2 d.toNat c2 (raws (fst_ l d.toNat))) => by
    obtain ⟨h1, h2, h3, h4, _⟩ := err_zero h0
    have := blocks_own (F := 0) (N := d.toNat) hr (fst_len h4) (by omega) (fst_nodup l _) (by omega) (fst_same h3 _) (fst_small hsm _) (by omega)
    simp only [Nat.zero_add] at this
    rw [show ((0 : Nat) : Int) = 0 from rfl] at this
    exact this
  have hdn : ∀ (h0 : errR l d = 0), 1 ≤ d ∧ d ≤ 15 ∧ d = (d.toNat : Int) := fun h0 => by
    obtain ⟨h1, _⟩ := err_zero h0
    omega
  obtain ⟨P, hP⟩ : ∃ P, RstP l d w = P := ⟨_, rfl⟩
  rw [hP] at hbad hgood ⊢
  replace hbad := Lib.hid hbad
  replace hgood := Lib.hid hgood
  replace cB := Lib.hid cB
  replace cK := Lib.hid cK
  replace hdn := Lib.hid hdn
  clear hP h hsm
  show Calls _ _ _ _ (fun e w' => P e w')
  go_enter Try.func21, Try.ntmps21
  go_wp2_with fail
  with_reducible refine (cB.out).mono ?_
  rintro e w1 ⟨k, A2, n2, c2, hk, rfl, hr, hb1⟩
  by_cases h0 : k = 0
  · subst h0
    obtain ⟨rfl, hr⟩ := hr rfl
    obtain ⟨d1, d2, d3⟩ := hdn.out hk.symm
    have cK2 := cK.out w1 A2 c2 hk.symm hr
    have hg := fun A c w' => hgood.out A c w' hk.symm
    obtain ⟨D, rfl⟩ : ∃ D : Nat, d = (D : Int) := ⟨d.toNat, d3⟩
    rw [show ((D : Int)).toNat = D from rfl] at cK2 hg ⊢
    have hg := Lib.hid hg
    clear d3
    replace cK2 := Lib.hid cK2
    replace hb1 := Lib.hid hb1
    replace hk := Lib.hid hk
    clear hbad hgood cB cK hr hdn
    go_wp2_with fail
    with_reducible refine (cK2.out).mono ?_
    rintro e w2 ⟨rfl, hr2, hb2⟩
    have hfin := Lib.hid (hg.out _ _ w2 hr2 (chain hb1.out hb2))
    clear hr2 hb2 hg cK2 hb1
    go_wp2
    first | go_ret2 | skip
    exact hfin.out
  · have t1 : (k != 0) = true := bne_iff_ne.2 h0
    have hfin := Lib.hid (hbad.out k w1 hk h0 hb1)
    clear hbad hgood cB cK hr hk hb1 h0 hdn
    go_wp2
    first | go_ret2 | skip
    exact hfin.out
end Go.Proofs.Ytcfoclmkhippoaa.E15
