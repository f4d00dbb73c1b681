/- The contract of the landed Encode of layer 15. -/
import Derived.Test.YtcfoclmkhippoaaE15Own4
import Derived.Test.YtcfoclmkhippoaaE15Own5
import Derived.Test.YtcfoclmkhippoaaE15Con
namespace Go.Proofs.Ytcfoclmkhippoaa.E15
set_option maxRecDepth 100000
open Go.RowKit Mem S14
open Go.Proofs.Ytcfoclmkhippoaa.G5 Go.Proofs.Ytcfoclmkhippoaa.G7
open Go.Proofs.Ytcfoclmkhippoaa.G6 (IsSl rs rs_len rs_get rs_set rs_one rs_snoc make_zeros zeros_at own_zeros info_byte u8s conv_sl)
set_option linter.unusedVariables false
set_option linter.unusedSimpArgs false

set_option maxHeartbeats 8000000 in
theorem encode_own {A : Option Addr} {c n : Nat} {D : List (List R)} {w : World} (m : Int) (hm63 : -9223372036854775808 ≤ m ∧ m ≤ 9223372036854775807) (h : IsBs w A n c D) (hsm : ∀ b ∈ D, b.length ≤ 1000000) :
    Calls Try.prog 39 #[.slice A n c, .int .i64 m] w (EncP D m w) := by
  have hlen := h.len
  have hcm := h.capm
  have hle := h.le
  unfold maxLen at hcm
  have hbad : ∀ (w' : World), EncBad D m → Below w.heap.size w w' → EncP D m w (.returned (.tuple #[.slice none 0 0, .int .i64 1])) w' := fun w' h1 h3 => ⟨1, [], none, 0, ⟨Or.inr rfl, fun h => absurd h (by decide), fun _ => ⟨h1, rfl⟩⟩, rfl, IsBs.zero _, h3⟩
  have hgood : ∀ (A : Option Addr) (c M : Nat) (w' : World), M = m.toNat → ¬ EncBad D m → IsBs w' A M c ((List.range M).map fun j => stD D (D.headD []).length (pt (D.length + j))) → Below w.heap.size w w' → EncP D m w (.returned (.tuple #[.slice A M c, .int .i64 0])) w' := fun A c M w' e h1 h2 h3 => by
    subst e
    refine ⟨0, _, A, c, ⟨Or.inl rfl, fun _ => ⟨h1, rfl⟩, fun h => absurd h (by decide)⟩, ?_, ?_, h3⟩
    · rw [h2.len]
    · rw [h2.len]; exact h2
  obtain ⟨P, hP⟩ : ∃ P, EncP D m w = P := ⟨_, rfl⟩
  rw [hP] at hbad hgood ⊢
  replace hbad := Lib.hid hbad
  replace hgood := Lib.hid hgood
  clear hP
  show Calls _ _ _ _ (fun e w' => P e w')
  have n63 : (n : Int) ≤ 9223372036854775807 := by omega
  have n0 : (0 : Int) ≤ (n : Int) := by omega
  have hstop : EncBad D m → (n = 0 ∨ m < 0 ∨ 15 - (n : Int) < m) → Calls Try.prog 39 #[.slice A n c, .int .i64 m] w (fun e w' => P e w') := fun hb hor => by
    have hfin := Lib.hid (hbad.out w hb (Below.refl _ _))
    clear hbad hgood h hsm hb
    by_cases z0 : n = 0
    · subst z0
      go_enter Try.func39, Try.ntmps39
      go_wp2
      first | go_ret2 | skip
      exact hfin.out
    have t0 : ((n : Int) == 0) = false := beq_eq_false_iff_ne.2 (by omega)
    by_cases z1 : m < 0
    · have t1 : decide (m < 0) = true := decide_eq_true z1
      go_enter Try.func39, Try.ntmps39
      go_wp2
      first | go_ret2 | skip
      exact hfin.out
    have z2 : 15 - (n : Int) < m := by rcases hor with h | h | h <;> first | omega | exact h
    have t1 : decide (m < 0) = false := decide_eq_false z1
    have t2 : decide (15 - (n : Int) < m) = true := decide_eq_true z2
    go_enter Try.func39, Try.ntmps39
    go_wp2
    first | go_ret2 | skip
    exact hfin.out
  by_cases z0 : n = 0
  · exact hstop (Or.inl (List.eq_nil_of_length_eq_zero (by omega))) (Or.inl z0)
  by_cases z1 : m < 0
  · exact hstop (Or.inr (Or.inl z1)) (Or.inr (Or.inl z1))
  by_cases z2 : 15 - (n : Int) < m
  · exact hstop (Or.inr (Or.inr (Or.inl (by omega)))) (Or.inr (Or.inr z2))
  have t0 : ((n : Int) == 0) = false := beq_eq_false_iff_ne.2 (by omega)
  have t1 : decide (m < 0) = false := decide_eq_false z1
  have t2 : decide (15 - (n : Int) < m) = false := decide_eq_false z2
  obtain ⟨M, rfl⟩ : ∃ M : Nat, m = (M : Int) := Int.eq_ofNat_of_zero_le (by omega)
  have cS := shof_own h (by omega)
  have cE := fun (W : World) (hr : IsRaw W (some ⟨w.heap.size, 0, none⟩) n n (raws (shD D))) => eql_own hr (by omega)
  rw [show (raws (shD D)).map Prod.snd = D by rw [snd_raws, shD_snd]] at cE
  have cK := fun (W : World) (hr : IsRaw W (some ⟨w.heap.size, 0, none⟩) n n (raws (shD D))) (hl : LenOk D) => by
    have := blocks_own (F := n) (N := M) (m := (D.headD []).length) hr (by rw [shD_len, hlen]) (by omega) (by rw [shD_fst]; exact pts_nodup (by omega)) (by omega) (fun s hs => by
      have : s.2 ∈ D := by
        have := List.mem_map_of_mem (f := Prod.snd) hs
        rwa [shD_snd] at this
      exact hl _ this) (by
      rcases hD : D with _ | ⟨b, l⟩
      · exact Nat.zero_le _
      · exact hsm b (by rw [hD]; exact List.mem_cons_self)) (by omega)
    rw [shD_fst, shD_snd, show (fun i => blk (pts D.length) D (D.headD []).length (pt (n + i))) = fun i => stD D (D.headD []).length (pt (D.length + i)) from by unfold stD; rw [hlen]] at this
    exact this
  have hM15 : M ≤ 15 := by omega
  have hN15 : n ≤ 15 := by omega
  have hdn : D ≠ [] := fun h => by rw [h] at hlen; simp at hlen; omega
  have hnb : LenOk D → ¬ EncBad D (M : Int) := fun hl hb => by
    rcases hb with h | h | h | h
    · exact hdn h
    · omega
    · omega
    · exact h hl
  replace cS := Lib.hid cS
  replace cE := Lib.hid cE
  replace cK := Lib.hid cK
  replace hnb := Lib.hid hnb
  clear hstop h hsm hdn hlen
  go_enter Try.func39, Try.ntmps39
  go_wp2_with fail
  refine (cS.out).mono ?_
  rintro e w1 ⟨rfl, hr1, hb1⟩
  replace cE := Lib.hid (cE.out w1 hr1)
  replace hr1 := Lib.hid hr1
  replace hb1 := Lib.hid hb1
  go_wp2_with fail
  refine (cE.out).mono ?_
  rintro e w2 ⟨⟨q, rfl, hq⟩, hb2⟩
  have hr2 := Lib.hid (hr1.out.below hb2)
  have hb3 := Lib.hid (chain hb1.out hb2)
  rcases q with _ | _
  · have hfin := Lib.hid (hbad.out w2 (Or.inr (Or.inr (Or.inr (fun h => by cases hq.2 h)))) hb3.out)
    clear hbad hgood cE cK hr1 hr2 hb1 hb2 hb3 hq hnb cS
    go_wp2
    first | go_ret2 | skip
    exact hfin.out
  have hl := Lib.hid (hq.1 rfl)
  replace cK := Lib.hid (cK.out w2 hr2.out hl.out)
  have hg := Lib.hid (fun A c w' => hgood.out A c M w' rfl (hnb.out hl.out))
  clear hbad hgood cE hr1 hr2 hb1 hb2 hq hnb cS
  go_wp2_with fail
  refine (cK.out).mono ?_
  rintro e w3 ⟨rfl, hr4, hb4⟩
  have hfin := Lib.hid (hg.out _ _ w3 hr4 (chain hb3.out hb4))
  clear hg hr4 hb4 cK hb3
  go_wp2
  first | go_ret2 | skip
  exact hfin.out
end Go.Proofs.Ytcfoclmkhippoaa.E15
