/- The contracts of the landed difference and coefficient of layer 15. -/
import Derived.Test.YtcfoclmkhippoaaE15Sh
import Derived.Test.YtcfoclmkhippoaaG5OwnDiv
namespace Go.Proofs.Ytcfoclmkhippoaa.E15
set_option maxRecDepth 100000
open Go.RowKit Mem S14
open Go.Proofs.Ytcfoclmkhippoaa.G5 Go.Proofs.Ytcfoclmkhippoaa.G7
set_option linter.unusedVariables false
set_option linter.unusedSimpArgs false

theorem IsRaw.sh {w : World} {A : Option Addr} {n cap : Nat} {hs : List Sh} (h : IsRaw w A n cap (raws hs)) {k : Nat} (hk : k < hs.length) : ∃ b o : Nat, A = some ⟨b, o, none⟩ ∧ b < w.heap.size ∧ w.cell? ⟨b, o + k * 2, none⟩ = some (.int .i64 (((hs.map Prod.fst).getD k 0).toNat : Int)) ∧ w.cell? ⟨b, o + k * 2 + 1, none⟩ = some (.string (str ((hs.map Prod.snd).getD k []))) := by
  obtain ⟨b, o, e, hb, hc⟩ := h.get (k := k) (by rw [raws_len]; exact hk)
  have e1 : (raws hs)[k]'(by rw [raws_len]; exact hk) = ((hs[k].1.toNat : Int), hs[k].2) := by simp [raws]
  rw [e1] at hc
  refine ⟨b, o, e, hb, ?_, ?_⟩
  · rw [getD_map' _ _ _ hk]; exact hc.c0
  · rw [getD_map' _ _ _ hk]; exact hc.c1
theorem diff_own (x y : R) (w : World) : Calls Try.prog 64 #[.int .i64 (x.toNat : Int), .int .i64 (y.toNat : Int)] w fun e w' => e = .returned (bv (x ^^^ y)) ∧ w = w' := by
  have hx := x.isLt
  have hy := y.isLt
  have c := Lib.hid (add_own x y w)
  obtain ⟨S, hS⟩ : ∃ S, x ^^^ y = S := ⟨_, rfl⟩
  rw [hS] at c ⊢
  clear hS
  go_enter Try.func64, Try.ntmps64
  go_wp2_with fail
  refine c.out.mono ?_
  rintro e w1 ⟨rfl, rfl⟩
  go_wp2
  go_ret
  exact ⟨rfl, rfl⟩
set_option maxHeartbeats 4000000 in
theorem coef_own {A : Option Addr} {cap K : Nat} {hs : List Sh} {w : World} (x : R) (h : IsRaw w A hs.length cap (raws hs)) (hK : K < hs.length) (hn : (hs.map Prod.fst).Nodup) (hl : hs.length ≤ 100) :
    Calls Try.prog 60 #[.slice A hs.length cap, .int .i64 (K : Int), .int .i64 (x.toNat : Int)] w fun e w' => e = .returned (bv (wgt (hs.map Prod.fst) K x (hs.map Prod.fst).length)) ∧ Below w.heap.size w w' := by
  have hfin := wgt_dv hn (k := K) (by rw [List.length_map]; exact hK) x
  have hget := fun (k : Nat) (hk : k < hs.length) => h.sh hk
  have hab := fun (k : Nat) (e : k ≠ K) (y : R) => abv_step (xl := hs.map Prod.fst) e y
  have hsk := fun (y : R) => abv_skip (hs.map Prod.fst) K y
  have hlm : (hs.map Prod.fst).length = hs.length := by rw [List.length_map]
  obtain ⟨xl, hxl⟩ : ∃ xl, hs.map Prod.fst = xl := ⟨_, rfl⟩
  rw [hxl] at hfin hlm
  simp only [hxl] at hget hab hsk ⊢
  rw [hlm] at hfin ⊢
  obtain ⟨n, hn'⟩ : ∃ n, hs.length = n := ⟨_, rfl⟩
  rw [hn'] at hfin hl hK ⊢
  simp only [hn'] at hget
  clear h hn hlm hxl hn'
  obtain ⟨XK, hXK⟩ : ∃ X, xl.getD K 0 = X := ⟨_, rfl⟩
  have gK := hget K hK
  rw [hXK] at hfin gK
  obtain ⟨b', o, rfl, hb, gK, -⟩ := gK
  obtain ⟨V, hV⟩ : ∃ V, wgt xl K x n = V := ⟨_, rfl⟩
  rw [hV] at hfin ⊢
  clear hV
  replace hget := Lib.hid hget
  replace hab := Lib.hid hab
  replace hsk := Lib.hid hsk
  replace hfin := Lib.hid hfin
  clear hXK
  have hXl := XK.isLt
  have hxl := x.isLt
  have K0 : (K : Int) < (n : Int) := by omega
  have K1 : (0 : Int) ≤ (K : Int) := by omega
  go_enter Try.func60, Try.ntmps60
  go_wp2
  go_loopw [7, 8, 14] (fun av bw iv wr => ∃ (k : Nat) (a c : R), iv = .int .i64 (k : Int) ∧ k ≤ n ∧ av = bv a ∧ bw = bv c ∧ Hid (a = abv xl K x k) ∧ Hid (c = abv xl K XK k) ∧ Hid (∃ m, wr = w.drewN m) ∧ wr.cell? ⟨b', o + K * 2, none⟩ = some (.int .i64 (XK.toNat : Int)) ∧ Hid (∀ b o, wr.cell? ⟨b, o, none⟩ = w.cell? ⟨b, o, none⟩)) (fun _ _ iv _ => n - (intOf iv).toNat)
  case atStart => exact ⟨0, 1, 1, rfl, Nat.zero_le _, rfl, rfl, Lib.hid rfl, Lib.hid rfl, Lib.hid ⟨0, rfl⟩, gK, Lib.hid fun _ _ => rfl⟩
  case round =>
    clear gK
    obtain ⟨k, a, c, rfl, hk, rfl, rfl, ha, hc, hw, gK, hce⟩ := hrel
    by_cases hlt : k < n
    · have dk : decide ((k : Int) < (n : Int)) = true := decide_eq_true (by omega)
      have k0 : (0 : Int) ≤ (k : Int) := by omega
      have k1 : (k : Int) < (n : Int) := by omega
      by_cases e : k = K
      · subst e
        have h1 := Lib.hid (show a = abv xl k x (k + 1) by rw [hsk.out]; exact ha.out)
        have h2 := Lib.hid (show c = abv xl k XK (k + 1) by rw [hsk.out]; exact hc.out)
        clear hget hab hsk ha hc hfin
        go_wp2
        go_roundw
        case rel => exact ⟨k + 1, a, c, by go_num, by omega, rfl, rfl, h1, h2, hw, gK, hce⟩
        case measure => simp [intOf]; omega
      · obtain ⟨b1, o1, e1, _, g1, -⟩ := hget.out k hlt
        cases e1
        rw [← hce.out] at g1
        have h1 := hab.out k e x
        have h2 := hab.out k e XK
        rw [← ha.out] at h1
        rw [← hc.out] at h2
        obtain ⟨Y, hY⟩ : ∃ Y, xl.getD k 0 = Y := ⟨_, rfl⟩
        rw [hY] at g1 h1 h2
        have hYl := Y.isLt
        have cD1 := fun W => (diff_own x Y W).mono fun _ _ ⟨a, b⟩ => And.intro a b.symm
        have cD2 := fun W => (diff_own XK Y W).mono fun _ _ ⟨a, b⟩ => And.intro a b.symm
        obtain ⟨D1, hD1⟩ : ∃ D, x ^^^ Y = D := ⟨_, rfl⟩
        obtain ⟨D2, hD2⟩ : ∃ D, XK ^^^ Y = D := ⟨_, rfl⟩
        rw [hD1] at h1
        rw [hD2] at h2
        simp only [hD1] at cD1
        simp only [hD2] at cD2
        have cM1 := fun W => (mul_own a D1 W).mono fun _ _ ⟨a, b⟩ => And.intro a b.symm
        have cM2 := fun W => (mul_own c D2 W).mono fun _ _ ⟨a, b⟩ => And.intro a b.symm
        obtain ⟨T1, hT1⟩ : ∃ T, tms a D1 = T := ⟨_, rfl⟩
        obtain ⟨T2, hT2⟩ : ∃ T, tms c D2 = T := ⟨_, rfl⟩
        rw [hT1] at h1
        rw [hT2] at h2
        simp only [hT1] at cM1
        simp only [hT2] at cM2
        replace h1 := Lib.hid h1.symm
        replace h2 := Lib.hid h2.symm
        replace cD1 := Lib.hid cD1
        replace cD2 := Lib.hid cD2
        replace cM1 := Lib.hid cM1
        replace cM2 := Lib.hid cM2
        have t1 : ((k : Int) != (K : Int)) = true := bne_iff_ne.2 (by omega)
        clear hY hD1 hD2 hT1 hT2 hget hab hsk ha hc hfin
        go_wp2_with fail
        refine (cD1.out _).mono ?_
        rintro e w1 ⟨rfl, rfl⟩
        go_wp2_with fail
        refine (cM1.out _).mono ?_
        rintro e w1 ⟨rfl, rfl⟩
        go_wp2
        go_quiet ((first | (go_at_call 64; exact Calls.quiet_of_same (cD2.out _)) | (go_at_call 63; exact Calls.quiet_of_same (cM2.out _))))
        rename_i nq _
        go_wp2
        go_roundw
        case rel => exact ⟨k + 1, T1, T2, by go_num, by omega, rfl, rfl, h1, h2, Lib.hid (by obtain ⟨m, e⟩ := hw.out; exact ⟨m + nq, by rw [e, World.drewN_drewN]⟩), gK, Lib.hid fun b o => hce.out b o⟩
        case measure => simp [intOf]; omega
    · obtain rfl : k = n := by omega
      have dk : decide ((k : Int) < (k : Int)) = false := decide_eq_false (by omega)
      have cV := fun W => div_own a c W
      rw [ha.out, hc.out, hfin.out, ← ha.out, ← hc.out] at cV
      replace cV := Lib.hid cV
      clear hget hab hsk ha hc hfin
      go_wp2_with fail
      refine (cV.out _).mono ?_
      rintro e w1 ⟨rfl, hbw⟩
      have hb2 := Lib.hid (show Below w.heap.size w w1 by obtain ⟨m, e⟩ := hw.out; exact chain (by rw [e]; exact chainN (Below.refl w.heap.size w) m) hbw)
      clear hbw cV
      go_wp2
      go_ret
      exact ⟨rfl, hb2.out⟩
end Go.Proofs.Ytcfoclmkhippoaa.E15
