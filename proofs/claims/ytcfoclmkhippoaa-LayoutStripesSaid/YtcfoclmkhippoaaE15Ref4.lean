/- The contract of the reference's Encode of layer 15. -/
import Derived.Test.YtcfoclmkhippoaaE15Ref2
import Derived.Test.YtcfoclmkhippoaaE15Mk
import Derived.Test.YtcfoclmkhippoaaE15Con
import Derived.BigQuiet
import Derived.Deep.QuietTactic
namespace Go.Proofs.Ytcfoclmkhippoaa.E15
set_option maxRecDepth 100000
open Go.RowKit Mem S14
open Go.Proofs.Ytcfoclmkhippoaa.G5 Go.Proofs.Ytcfoclmkhippoaa.G7
open Go.Proofs.Ytcfoclmkhippoaa.G6 (IsSl rs rs_len rs_get rs_set rs_one rs_snoc make_zeros zeros_at own_zeros info_byte u8s conv_sl)
set_option linter.unusedVariables false
set_option linter.unusedSimpArgs false

theorem pts_succ (k : Nat) : pts (k + 1) = pts k ++ [pt k] := by simp [pts, List.range_succ]
theorem drewN_below {B : Nat} {w w1 : World} (h : Below B w w1) (n : Nat) : Below B w (w1.drewN n) := chainB h n
set_option maxHeartbeats 8000000 in
theorem rencode_any {A : Option Addr} {c n : Nat} {D : List (List R)} {w : World} (m : Int) (hm63 : -9223372036854775808 ≤ m ∧ m ≤ 9223372036854775807) (h : IsBs w A n c D) (hn : n ≤ 1000) (hsm : ∀ b ∈ D, b.length ≤ 1000000) :
    Calls Try.prog 27 #[.slice A n c, .int .i64 m] w (EncP D m w) := by
  have hlen := h.len
  have hbad : ∀ (w' : World), EncBad D m → Below w.heap.size w w' → EncP D m w (.returned (.tuple #[.slice none 0 0, .int .i64 1])) w' := fun w' h1 h3 => ⟨1, [], none, 0, ⟨Or.inr rfl, fun h => absurd h (by decide), fun _ => ⟨h1, rfl⟩⟩, rfl, IsBs.zero _, h3⟩
  have hgood : ∀ (v : Value) (M : Nat) (w' : World), M = m.toNat → ¬ EncBad D m → w'.ownsRow w.heap.size 9 1 v M (bs ((List.range M).map fun j => stD D (D.headD []).length (pt (D.length + j)))) → Below w.heap.size w w' → EncP D m w (.returned (.tuple #[v, .int .i64 0])) w' := fun v M w' e h1 h2 h3 => by
    subst e
    obtain ⟨hl, A', c', rfl, hB⟩ := IsBs.of_own h2
    refine ⟨0, _, A', c', ⟨Or.inl rfl, fun _ => ⟨h1, rfl⟩, fun h => absurd h (by decide)⟩, ?_, ?_, h3⟩
    · rw [hl]
    · rw [hl]; exact hB
  obtain ⟨P, hP⟩ : ∃ P, EncP D m w = P := ⟨_, rfl⟩
  rw [hP] at hbad hgood ⊢
  replace hbad := Lib.hid hbad
  replace hgood := Lib.hid hgood
  clear hP
  show Calls _ _ _ _ (fun e w' => P e w')
  have n0 : (0 : Int) ≤ (n : Int) := by omega
  have n1 : (n : Int) ≤ 1000 := by omega
  have hstop : EncBad D m → (n = 0 ∨ m < 0 ∨ 15 < m ∨ 15 < (n : Int) + m) → Calls Try.prog 27 #[.slice A n c, .int .i64 m] w (fun e w' => P e w') := fun hb hor => by
    have hfin := Lib.hid (hbad.out w hb (Below.refl _ _))
    clear hbad hgood h hsm hb
    by_cases z0 : n = 0
    · subst z0
      go_enter Try.func27, Try.ntmps27
      go_wp2
      first | go_ret2 | skip
      exact hfin.out
    have t0 : ((n : Int) == 0) = false := beq_eq_false_iff_ne.2 (by omega)
    by_cases z1 : m < 0
    · have t1 : decide (m < 0) = true := decide_eq_true z1
      go_enter Try.func27, Try.ntmps27
      go_wp2
      first | go_ret2 | skip
      exact hfin.out
    have t1 : decide (m < 0) = false := decide_eq_false z1
    by_cases z3 : 15 < m
    · have t2 : decide (15 < m) = true := decide_eq_true z3
      go_enter Try.func27, Try.ntmps27
      go_wp2
      first | go_ret2 | skip
      exact hfin.out
    have t2 : decide (15 < m) = false := decide_eq_false z3
    have z2 : 15 < (n : Int) + m := by omega
    have t3 : decide (15 < (n : Int) + m) = true := decide_eq_true z2
    go_enter Try.func27, Try.ntmps27
    go_wp2
    first | go_ret2 | skip
    exact hfin.out
  by_cases z0 : n = 0
  · exact hstop (Or.inl (List.eq_nil_of_length_eq_zero (by omega))) (Or.inl z0)
  by_cases z1 : m < 0
  · exact hstop (Or.inr (Or.inl z1)) (Or.inr (Or.inl z1))
  by_cases z3 : 15 < m
  · exact hstop (Or.inr (Or.inr (Or.inl (by omega)))) (Or.inr (Or.inr (Or.inl z3)))
  by_cases z2 : 15 < (n : Int) + m
  · exact hstop (Or.inr (Or.inr (Or.inl (by omega)))) (Or.inr (Or.inr (Or.inr z2)))
  have t0 : ((n : Int) == 0) = false := beq_eq_false_iff_ne.2 (by omega)
  have t1 : decide (m < 0) = false := decide_eq_false z1
  have t2 : decide (15 < m) = false := decide_eq_false z3
  obtain ⟨M, rfl⟩ : ∃ M : Nat, m = (M : Int) := Int.eq_ofNat_of_zero_le (by omega)
  have t3 : decide (15 < (n : Int) + (M : Int)) = false := decide_eq_false z2
  have hM15 : M ≤ 15 := by omega
  have hN15 : n ≤ 15 := by omega
  have hNM : n + M ≤ 15 := by omega
  have hdn : D ≠ [] := fun h => by rw [h] at hlen; simp at hlen; omega
  have hget := fun (k : Nat) (hk : k < D.length) => h.get hk
  have hhd : D.headD [] = D[0]'(by omega) := headD_get D (by omega)
  have hnb : LenOk D → ¬ EncBad D (M : Int) := fun hl hb => by
    rcases hb with h | h | h | h
    · exact hdn h
    · omega
    · omega
    · exact h hl
  have hno : ∀ k (hk : k < D.length), D[k].length ≠ (D[0]'(by omega)).length → EncBad D (M : Int) := fun k hk hne => Or.inr (Or.inr (Or.inr (fun hl => hne (by
    have := hl _ (List.getElem_mem hk)
    rwa [hhd] at this))))
  have hyes : (∀ j (hj : j < D.length), D[j].length = (D[0]'(by omega)).length) → LenOk D := fun h r hr => by
    obtain ⟨j, hj, rfl⟩ := List.getElem_of_mem hr
    rw [hhd]
    exact h j hj
  have cA := fun (hl : LenOk D) (x : R) (W : World) (A1 : Option Addr) (c1 : Nat) (hb : Below w.heap.size w W) (hx : IsSl W A1 c1 (pts n)) => by
    have := at_any x hx (pts_len n) (h.below hb) (by omega) (by omega) (pts_nodup (by omega)) (m := (D.headD []).length) (fun b hb => hl b hb) (by rw [hhd]; exact hsm _ (List.getElem_mem _))
    rw [show blk (pts n) D (D.headD []).length x = stD D (D.headD []).length x by unfold stD; rw [hlen]] at this
    exact this
  have o1 : (w.alloc (.cells #[] 5)).ownsRow w.heap.size 5 1 (.slice (some ⟨w.heap.size, 0, none⟩) 0 0) 0 (rs (pts 0)) := empty_at rfl (Nat.le_refl _)
  have o3 : Below w.heap.size w (w.alloc (.cells #[] 5)) := (Below.refl _ _).alloc (Nat.le_refl _) _
  obtain ⟨i0, hi, hz0, hz1, hz2⟩ := info_parts info_byte
  obtain ⟨j0, hj0, hy0, hy1, hy2⟩ := info_parts info_str
  obtain ⟨T, hT⟩ : ∃ T : R → List R, stD D (D.headD []).length = T := ⟨_, rfl⟩
  rw [hT] at cA
  rw [hT] at hgood
  replace hlen := Lib.hid hlen
  replace hget := Lib.hid hget
  replace hnb := Lib.hid hnb
  replace hno := Lib.hid hno
  replace hyes := Lib.hid hyes
  replace cA := Lib.hid cA
  replace o1 := Lib.hid o1
  replace o3 := Lib.hid o3
  clear hstop h hsm hdn hhd hT
  go_enter Try.func27, Try.ntmps27
  go_wp2
  go_loopw [6, 7] (fun vv iv wr => ∃ (k : Nat) (v : Value), v = vv ∧ iv = .int .i64 (k : Int) ∧ k ≤ n ∧ Hid (∀ j (hj : j < D.length), j < k → D[j].length = (D[0]'(by omega)).length) ∧ Hid (wr.ownsRow w.heap.size 5 1 v k (rs (pts k))) ∧ Hid (Below w.heap.size w wr)) (fun _ iv _ => n - (intOf iv).toNat)
  case atStart => exact ⟨0, _, rfl, rfl, Nat.zero_le _, Lib.hid (fun j _ h => by omega), o1, o3⟩
  case round =>
    clear o1 o3
    obtain ⟨k, v, rfl, rfl, hk, hI, hrow, hb⟩ := hrel
    by_cases hlt : k < n
    · have dk : decide ((k : Int) < (n : Int)) = true := decide_eq_true (by omega)
      have k0 : (0 : Int) ≤ (k : Int) := by omega
      have k1 : (k : Int) < (n : Int) := by omega
      have z1' : (0 : Int) < (n : Int) := by omega
      have hkl : k < D.length := by have := hlen.out; omega
      have h0l : 0 < D.length := by omega
      obtain ⟨b, o, rfl, hbl, g1⟩ := hget.out k hkl
      obtain ⟨b', o', e', _, f1⟩ := hget.out 0 h0l
      cases e'
      have g1 := (hb.out.cell (p := ⟨b, o + k, none⟩) hbl).trans g1
      have f1 := (hb.out.cell (p := ⟨b, o + 0, none⟩) hbl).trans f1
      rw [Nat.add_zero] at f1
      have hn' := hno.out k hkl
      have hs : D[k].length = D[0].length → ∀ j (hj : j < D.length), j < k + 1 → D[j].length = (D[0]'(by omega)).length := fun h j hj h1 => by
        by_cases e : j = k
        · subst e; exact h
        · exact hI.out j hj (by omega)
      replace hs := Lib.hid hs
      replace hn' := Lib.hid hn'
      obtain ⟨S, hS⟩ : ∃ S, str D[k] = S := ⟨_, rfl⟩
      obtain ⟨S0, hS0⟩ : ∃ S, str D[0] = S := ⟨_, rfl⟩
      have hz : S.size = D[k].length := by rw [← hS, size_str]
      have hz0' : S0.size = D[0].length := by rw [← hS0, size_str]
      have heq : (S.size = S0.size) ↔ (D[k].length = D[0].length) := by rw [hz, hz0']
      rw [hS] at g1
      rw [hS0] at f1
      replace heq := Lib.hid heq
      clear hS hS0 hz hz0' hget hbl hI
      by_cases e : S.size = S0.size
      · have hs2 := Lib.hid (hs.out (heq.out.1 e))
        have t1 : ((S.size : Int) != (S0.size : Int)) = false := by rw [e]; simp
        have hbo := hb.out
        have hro := hrow.out
        have hsn := Lib.hid (show rs (pts (k + 1)) = rs (pts k) ++ [.int .u8 (k : Int)] by rw [pts_succ, rs_snoc]; show _ ++ [Value.int .u8 ((pt k).toNat : Int)] = _; rw [pt_val (by omega)])
        clear hs hn' e heq hno hyes hrow hb
        go_wp2
        go_quiet (fail)
        rename_i nq _
        have hbo2 : Below w.heap.size w (wr.drewN nq) := chainB hbo nq
        have hro2 : (wr.drewN nq).ownsRow w.heap.size 5 1 v k (rs (pts k)) := hro
        obtain ⟨w5, hw5⟩ : ∃ W, wr.drewN nq = W := ⟨_, rfl⟩
        rw [hw5] at hbo2 hro2 ⊢
        clear hw5 hbo hro f1 g1
        go_wp2_with (at_builtin; refine wpList_append_own _ rfl _ _ 67 rfl w.heap.size 5 i0 (.int .u8 0) 1 1 Try.underlying67 hi hz0 hz1 hz2 rfl (by decide) _ _ _ rfl (hro2.alloc _) ⟨w5.heap.size, 0, none⟩ 1 1 [.int .u8 (k : Int)] rfl rfl (one_new _ _ _) (one_cell _ _) (by unfold maxLen; omega) (by omega) (by have := hbo2.size; simp; omega) ?_; intro v' w6 hown' hgrow _)
        have hb6 := (hbo2.alloc hbo2.size _).grown hgrow (by have := hbo2.size; simp; omega) (fun j hj => (hro2.lt j hj).1)
        rw [← hsn.out] at hown'
        clear hgrow hro2 hbo2
        go_roundw
        case rel => exact ⟨k + 1, _, rfl, by go_num, by omega, hs2, Lib.hid hown', Lib.hid hb6⟩
        case measure => simp [intOf]; omega
      · have t1 : ((S.size : Int) != (S0.size : Int)) = true := bne_iff_ne.2 (by omega)
        have hfin := Lib.hid (fun w' hb => hbad.out w' (hn'.out (fun h => e (heq.out.2 h))) hb)
        have hbo := Lib.hid hb.out
        clear hs hn' e heq hno hyes hrow hb hgood hbad
        go_wp2
        go_quiet (fail)
        rename_i nq _
        have hf := Lib.hid (hfin.out _ (chainB hbo.out nq))
        go_wp2
        first | go_ret2 | skip
        exact hf.out
    · obtain rfl : k = n := by omega
      have dk : decide ((k : Int) < (k : Int)) = false := decide_eq_false (by omega)
      have hl := Lib.hid (hyes.out (fun j hj => hI.out j hj (by have := hlen.out; omega)))
      have hgd := Lib.hid (fun v w' h1 h2 => hgood.out v M w' rfl (hnb.out hl.out) h1 h2)
      obtain ⟨A1, c1, rfl, hc1, _⟩ := own_slice hrow.out
      have hsl := (G6.IsSl.of_own hrow.out).1
      have cA2 := Lib.hid (fun (x : R) (W : World) (hb' : Below wr.heap.size wr W) => cA.out hl.out x W A1 c1 (hb.out.trans (hb'.mono hb.out.size)) (hsl.below hb'))
      have o1 : (wr.alloc (.cells #[] 9)).ownsRow wr.heap.size 9 1 (.slice (some ⟨wr.heap.size, 0, none⟩) 0 0) 0 (bs ((List.range 0).map fun j => T (pt (D.length + j)))) := empty_at rfl (Nat.le_refl _)
      have o3 : Below wr.heap.size wr (wr.alloc (.cells #[] 9)) := (Below.refl _ _).alloc (Nat.le_refl _) _
      have hbw := hb
      replace o1 := Lib.hid o1
      replace o3 := Lib.hid o3
      obtain ⟨w0, rfl⟩ : ∃ W, W = wr := ⟨_, rfl⟩
      clear hget hno hyes hI hgood hbad hnb cA hsl hrow hb
      go_wp2
      go_loopw [8, 9] (fun vv iv wi => ∃ (j : Nat) (v : Value), v = vv ∧ iv = .int .i64 (j : Int) ∧ j ≤ M ∧ Hid (wi.ownsRow w0.heap.size 9 1 v j (bs ((List.range j).map fun j => T (pt (D.length + j))))) ∧ Hid (Below w0.heap.size w0 wi)) (fun _ iv _ => M - (intOf iv).toNat)
      case atStart => exact ⟨0, _, rfl, rfl, Nat.zero_le _, o1, o3⟩
      case round =>
        clear o1 o3
        obtain ⟨j, v, rfl, rfl, hj, hrow, hb⟩ := hrel
        by_cases hjt : j < M
        · have dj : decide ((j : Int) < (M : Int)) = true := decide_eq_true (by omega)
          have j0' : (0 : Int) ≤ (j : Int) := by omega
          have j1 : (j : Int) < (M : Int) := by omega
          obtain ⟨I, hI⟩ : ∃ I, k + j = I := ⟨_, rfl⟩
          have eI : (k : Int) + (j : Int) = (I : Int) := by omega
          have hI2 : I ≤ 15 := by omega
          have hwI : IntKind.u8.wrap (I : Int) = (I : Int) := by rw [IntKind.wrap_u8]; omega
          have cK := cA2.out (pt I) wr hb.out
          rw [show bv (pt I) = .int .u8 (I : Int) from by unfold bv; rw [pt_val (by omega)]] at cK
          obtain ⟨S, hS⟩ : ∃ S, str (T (pt I)) = S := ⟨_, rfl⟩
          rw [hS] at cK
          have hsn := Lib.hid (show bs ((List.range (j + 1)).map fun j => T (pt (D.length + j))) = bs ((List.range j).map fun j => T (pt (D.length + j))) ++ [.string S] by
            rw [List.range_succ, List.map_append, List.map_cons, List.map_nil, bs_snoc, hlen.out, hI, hS])
          replace cK := Lib.hid cK
          clear hI hS
          go_wp2_with fail
          refine (cK.out).mono ?_
          rintro e w5 ⟨rfl, hb5⟩
          have hro2 := own_below hrow.out hb5
          have hbo2 := chain hb.out hb5
          have hbs5 := hbo2.size
          clear hrow hb hb5 cK
          go_wp2_with (at_builtin; refine wpList_append_own _ rfl _ _ 39 rfl w0.heap.size 9 j0 (.string ⟨#[]⟩) 1 16 Try.underlying39 hj0 hy0 hy1 hy2 rfl (by decide) _ _ _ rfl (hro2.alloc _) ⟨w5.heap.size, 0, none⟩ 1 1 [.string S] rfl rfl (one_new _ _ _) (one_str _) (by unfold maxLen; omega) (by omega) (by simp; omega) ?_; intro v' w6 hown' hgrow _)
          have hb6 := (hbo2.alloc hbs5 _).grown hgrow (by simp; omega) (fun j hj => (hro2.lt j hj).1)
          rw [← hsn.out] at hown'
          clear hgrow hro2 hbo2
          go_roundw
          case rel => exact ⟨j + 1, _, rfl, by go_num, by omega, Lib.hid hown', Lib.hid hb6⟩
          case measure => simp [intOf]; omega
        · obtain rfl : j = M := by omega
          have dj : decide ((j : Int) < (j : Int)) = false := decide_eq_false (by omega)
          have hfin := Lib.hid (hgd.out v wr (own_mono hrow.out hbw.out.size) (hbw.out.trans (hb.out.mono hbw.out.size)))
          clear hgd hrow hb cA2 hbw
          go_wp2
          first | go_ret2 | skip
          exact hfin.out
end Go.Proofs.Ytcfoclmkhippoaa.E15
