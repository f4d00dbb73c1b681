/- The contracts of the reference's over and Weight of layer 15. -/
import Derived.Test.YtcfoclmkhippoaaE15Sh
import Derived.Test.YtcfoclmkhippoaaG7RefTimes
namespace Go.Proofs.Ytcfoclmkhippoaa.E15
set_option maxRecDepth 100000
open Go.RowKit Mem S14
open Go.Proofs.Ytcfoclmkhippoaa.G5 Go.Proofs.Ytcfoclmkhippoaa.G7
open Go.Proofs.Ytcfoclmkhippoaa.G6 (IsSl rs rs_len rs_get rs_set rs_one rs_snoc make_zeros zeros_at own_zeros info_byte u8s conv_sl)
set_option linter.unusedVariables false
set_option linter.unusedSimpArgs false

set_option maxHeartbeats 4000000 in
theorem over_any (a b : R) (hb : b ≠ 0) (w : World) : Calls Try.prog 59 #[bv a, bv b] w fun e w' => e = .returned (bv (tms a (iv b))) ∧ w = w' := by
  obtain ⟨V, hV⟩ : ∃ V, tms a (iv b) = V := ⟨_, rfl⟩
  have hiff : ∀ x, tms x b = a ↔ x = V := fun x => by rw [← hV]; exact over_only hb
  rw [hV]
  clear hV
  have hVl := V.isLt
  replace hiff := Lib.hid hiff
  go_enter Try.func59, Try.ntmps59
  go_wp2
  go_loop [5] (fun iv => ∃ (k : Nat), iv = .int .i64 (k : Int) ∧ k ≤ V.toNat) (fun iv => 256 - (intOf iv).toNat)
  case atStart => exact ⟨0, rfl, Nat.zero_le _⟩
  case round =>
    obtain ⟨k, rfl, hk⟩ := hrel
    have k256 : (k : Int) < 256 := by omega
    have k0 : (0 : Int) ≤ (k : Int) := by omega
    have c := rtimes_any (pt k) b w
    rw [show bv (pt k) = .int .u8 (k : Int) from by unfold bv; rw [pt_val (by omega)]] at c
    obtain ⟨T, hT⟩ : ∃ T, tms (pt k) b = T := ⟨_, rfl⟩
    rw [hT] at c
    have hq : ((T.toNat : Int) == (a.toNat : Int)) = (T == a) := bv_eq1 T a
    replace c := Lib.hid c
    by_cases e : k = V.toNat
    · have h1 : T = a := by rw [← hT]; exact (hiff.out _).2 (by rw [e, pt_of])
      rw [show (T == a) = true from beq_iff_eq.2 h1] at hq
      have hfin := Lib.hid (show (k : Int) = (V.toNat : Int) by rw [e])
      clear hT h1 e
      go_wp2_with fail
      refine (c.out).mono ?_
      rintro e w1 ⟨rfl, rfl⟩
      go_wp2
      go_ret
      exact ⟨ret_i hfin.out, rfl⟩
    · have h1 : T ≠ a := fun h => e (by
        rw [← hT] at h
        have := (hiff.out _).1 h
        rw [← this, pt_val (by omega)])
      rw [show (T == a) = false from beq_eq_false_iff_ne.2 h1] at hq
      have hk1 : k + 1 ≤ V.toNat := by omega
      clear hT h1 e
      go_wp2_with fail
      refine (c.out).mono ?_
      rintro e w1 ⟨rfl, rfl⟩
      go_wp2
      go_round
      case rel => exact ⟨k + 1, by go_num, hk1⟩
      case measure => simp [intOf]; omega
set_option maxHeartbeats 4000000 in
theorem weight_any {A : Option Addr} {c n K : Nat} {xl : List R} {w : World} (x : R) (h : IsSl w A c xl) (hn : xl.length = n) (hl : n ≤ 1000) (hK : K < n) (hnd : xl.Nodup) :
    Calls Try.prog 53 #[.slice A n c, .int .i64 (K : Int), bv x] w fun e w' => e = .returned (bv (wgt xl K x n)) ∧ ∃ m, w' = w.drewN m := by
  have hget := fun (k : Nat) (hk : k < n) => h.read k (by omega)
  have hst := fun (k : Nat) (e : k ≠ K) => wgt_step (xl := xl) e x
  have hsk := wgt_skip xl K x
  have hne := fun (k : Nat) (hk : k < n) (e : k ≠ K) => getD_ne hnd (i := K) (j := k) (by omega) (by omega) (fun h => e h.symm)
  have gK := hget K hK
  obtain ⟨XK, hXK⟩ : ∃ X, xl.getD K 0 = X := ⟨_, rfl⟩
  simp only [hXK] at hst hne gK
  obtain ⟨b, o, rfl, hb, gK⟩ := gK
  replace hget := Lib.hid hget
  replace hst := Lib.hid hst
  replace hsk := Lib.hid hsk
  replace hne := Lib.hid hne
  clear h hXK hn hnd
  have K0 : (K : Int) < (n : Int) := by omega
  have K1 : (0 : Int) ≤ (K : Int) := by omega
  go_enter Try.func53, Try.ntmps53
  go_wp2
  go_loopw [7, 8] (fun av iv wr => ∃ (k : Nat) (a : R), iv = .int .i64 (k : Int) ∧ k ≤ n ∧ av = bv a ∧ Hid (a = wgt xl K x k) ∧ Hid (∃ m, wr = w.drewN m) ∧ wr.cell? ⟨b, o + K, none⟩ = some (bv XK) ∧ Hid (∀ b o, wr.cell? ⟨b, o, none⟩ = w.cell? ⟨b, o, none⟩)) (fun _ iv _ => n - (intOf iv).toNat)
  case atStart => exact ⟨0, 1, rfl, Nat.zero_le _, rfl, Lib.hid rfl, Lib.hid ⟨0, rfl⟩, gK, Lib.hid fun _ _ => rfl⟩
  case round =>
    clear gK
    obtain ⟨k, a, rfl, hk, rfl, ha, hw, gK, hce⟩ := hrel
    by_cases hlt : k < n
    · have dk : decide ((k : Int) < (n : Int)) = true := decide_eq_true (by omega)
      have k0 : (0 : Int) ≤ (k : Int) := by omega
      have k1 : (k : Int) < (n : Int) := by omega
      by_cases e : k = K
      · subst e
        have h1 := Lib.hid (show a = wgt xl k x (k + 1) by rw [hsk.out]; exact ha.out)
        clear hget hst hsk hne ha
        go_wp2
        go_roundw
        case rel => exact ⟨k + 1, a, by go_num, by omega, rfl, h1, hw, gK, hce⟩
        case measure => simp [intOf]; omega
      · obtain ⟨b1, o1, e1, _, g1⟩ := hget.out k hlt
        cases e1
        rw [← hce.out] at g1
        have h1 := hst.out k e
        rw [← ha.out] at h1
        have hD0 := hne.out k hlt e
        obtain ⟨Y, hY⟩ : ∃ Y, xl.getD k 0 = Y := ⟨_, rfl⟩
        rw [hY] at g1 h1 hD0
        have hx1 := bxr x Y
        have hx2 := bxr XK Y
        obtain ⟨D1, hD1⟩ : ∃ D, x ^^^ Y = D := ⟨_, rfl⟩
        obtain ⟨D2, hD2⟩ : ∃ D, XK ^^^ Y = D := ⟨_, rfl⟩
        rw [hD1] at h1 hx1
        rw [hD2] at h1 hx2 hD0
        have cO := fun W => (over_any D1 D2 hD0 W).mono fun _ _ ⟨a, b⟩ => And.intro a b.symm
        obtain ⟨Q, hQ⟩ : ∃ Q, tms D1 (iv D2) = Q := ⟨_, rfl⟩
        rw [hQ] at h1
        simp only [hQ] at cO
        have cT := fun W => (rtimes_any a Q W).mono fun _ _ ⟨a, b⟩ => And.intro a b.symm
        obtain ⟨T1, hT1⟩ : ∃ T, tms a Q = T := ⟨_, rfl⟩
        rw [hT1] at h1
        simp only [hT1] at cT
        replace h1 := Lib.hid h1.symm
        replace cO := Lib.hid cO
        replace cT := Lib.hid cT
        have t1 : ((k : Int) != (K : Int)) = true := bne_iff_ne.2 (by omega)
        clear hY hD1 hD2 hQ hT1 hget hst hsk hne ha hD0
        go_wp2
        go_quiet ((first | (go_at_call 59; exact Calls.quiet_of_same (cO.out _)) | (go_at_call 54; exact Calls.quiet_of_same (cT.out _))))
        rename_i nq _
        go_wp2
        go_roundw
        case rel => exact ⟨k + 1, T1, by go_num, by omega, rfl, h1, Lib.hid (by obtain ⟨m, e⟩ := hw.out; exact ⟨m + nq, by rw [e, World.drewN_drewN]⟩), gK, Lib.hid fun b o => hce.out b o⟩
        case measure => simp [intOf]; omega
    · obtain rfl : k = n := by omega
      have dk : decide ((k : Int) < (k : Int)) = false := decide_eq_false (by omega)
      have hfin := ha
      clear hget hst hsk hne
      go_wp2
      go_ret
      exact ⟨by rw [← hfin.out]; rfl, hw.out⟩
end Go.Proofs.Ytcfoclmkhippoaa.E15
