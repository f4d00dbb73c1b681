/- The contract of the landed Mul. -/
import Derived.Test.YtcakdhnlgeiodaaG6OwnEv
namespace Go.Proofs.Ytcakdhnlgeiodaa.G6
set_option maxRecDepth 100000
open Go.Proofs.Ytcakdhnlgeiodaa.G5
open Go.RowKit Mem
set_option linter.unusedVariables false
set_option linter.unusedSimpArgs false

theorem mul_step {m P Q : List R} {k j n i : Nat} {X Y Z : R} (hi : i = k + j) (hm : m.length = n) (hn : i < n) (hj : j < Q.length) (hY : Q.getD j 0 = Y) (hZ : m.getD i 0 = Z)
    (he : ∀ x, ev m x = tms (ev (P.take k) x) (ev Q x) ^^^ tms (tms X (pw x k)) (ev (Q.take j) x)) (x : R) :
    ev (m.set i (Z ^^^ tms X Y)) x = tms (ev (P.take k) x) (ev Q x) ^^^ tms (tms X (pw x k)) (ev (Q.take (j + 1)) x) := by
  rw [ev_set x _ m i (by omega), hZ, xcan, he x, ev_step Q j hj x, hY, tms_b, BitVec.xor_assoc, hi, pw_add]
  congr 2
  simp only [tms_assoc, tms_comm, tac]
theorem mul_row {P Q : List R} {k : Nat} (hk : k < P.length) {X : R} (hX : P.getD k 0 = X) (x : R) :
    tms (ev (P.take k) x) (ev Q x) ^^^ tms (tms X (pw x k)) (ev Q x) = tms (ev (P.take (k + 1)) x) (ev Q x) := by
  rw [ev_step P k hk x, hX, tms_a]

set_option maxRecDepth 100000 in
set_option maxHeartbeats 4000000 in
theorem mulP_own {A B : Option Addr} {c d : Nat} {p q : List R} {w : World} (h : IsSl w A c p) (h' : IsSl w B d q) (hpq : p.length + q.length ≤ 200) :
    Calls Try.prog 39 #[.slice A p.length c, .slice B q.length d] w (Gives w (mulL p q)) := by
  have cp := trim_own h (by omega)
  have hqh := Lib.hid h'
  have hpl := trim_len p
  have hql := trim_len q
  have hval : ∀ m : List R, m.length ≤ 200 → (∀ x, ev m x = tms (ev (trim p) x) (ev (trim q) x)) → trim m = mulL p q := fun m hm he => by
    have h1 := trim_len m
    have h2 := mulL_len p q
    exact eq_ev (trim_trim m) (mulL_tr p q) (by omega) (by omega) fun x => by rw [ev_trim, he, ev_mulL, ev_trim, ev_trim]
  obtain ⟨P, hP⟩ : ∃ P, trim p = P := ⟨_, rfl⟩
  obtain ⟨Q, hQ⟩ : ∃ Q, trim q = Q := ⟨_, rfl⟩
  have cq := fun (w1 : World) (k : Below w.heap.size w w1) => trim_own (h'.below k) (show q.length ≤ 1000 by omega)
  rw [hP] at cp hpl hval
  rw [hQ] at hql hval cq
  obtain ⟨np, hnp⟩ : ∃ np, P.length = np := ⟨_, rfl⟩
  obtain ⟨nq, hnq⟩ : ∃ nq, Q.length = nq := ⟨_, rfl⟩
  have hval := Lib.hid hval
  have hnph := Lib.hid hnp
  have hnqh := Lib.hid hnq
  rw [hnp] at hpl
  rw [hnq] at hql
  have hb200 : np + nq ≤ 200 := by omega
  have cp := Lib.hid cp
  have cq := Lib.hid cq
  clear h h' hP hQ hnp hnq hpl hql hpq
  go_enter Try.func39, Try.ntmps39
  go_wp2_with fail
  refine cp.out.mono ?_
  rintro e w1 ⟨A1, c1, rfl, hs1, hb1⟩
  have cq1 := Lib.hid (cq.out w1 hb1)
  rw [hnph.out]
  go_wp2_with fail
  refine cq1.out.mono ?_
  rintro e w2 ⟨A2, c2, rfl, hs2, hb2⟩
  have hsp := Lib.hid (hs1.below hb2)
  have hsq := Lib.hid hs2
  have hbb := Lib.hid (chain hb1 hb2)
  rw [hnqh.out]
  clear hs1 hs2 hb1 hb2 cp cq cq1 hqh
  obtain ⟨n, hn⟩ : ∃ n, np + nq = n := ⟨_, rfl⟩
  have hnI : (np : Int) + (nq : Int) = (n : Int) := by omega
  have hmk := make_zeros w2 n (by omega)
  have hat := zeros_at w2 n (by omega)
  have ob := mb w2 (.cells (madeCells #[.int .u8 0] n) 5)
  have hn200 : n ≤ 200 := by omega
  have hnh := Lib.hid hn
  clear hn
  go_wp2
  clear hmk
  obtain ⟨G, hG⟩ : ∃ G, w2.heap.size = G := ⟨_, rfl⟩
  have hgl : G < (w2.alloc (.cells (madeCells #[.int .u8 0] n) 5)).heap.size := by rw [← hG]; simp
  rw [hG] at hat ⊢
  have hGh := Lib.hid hG
  clear hG
  go_loopw [20] (fun a wr => ∃ (k : Nat) (m : List R), k ≤ np ∧ a = .int .i64 k ∧ Hid (m.length = n ∧ ∀ x, ev m x = tms (ev (P.take k) x) (ev Q x)) ∧ Hid (VAt wr G (rs m)) ∧ Hid (G < wr.heap.size) ∧ Below w2.heap.size w2 wr) (fun a _ => np - (intOf a).toNat)
  case atStart => exact ⟨0, List.replicate n 0#8, Nat.zero_le _, rfl, Lib.hid ⟨by simp, fun x => by rw [List.take_zero, ev_nil, zero_tms]; exact ev_zeros n x⟩, Lib.hid hat, Lib.hid hgl, ob⟩
  case round =>
    clear hat hgl ob
    obtain ⟨k, m, hk, rfl, hm, hat, hgl, hb⟩ := hrel
    by_cases hlt : k < np
    · have i1 : (k : Int) < (np : Int) := by omega
      obtain ⟨X, hX⟩ : ∃ X, P.getD k 0 = X := ⟨_, rfl⟩
      have hXh := Lib.hid hX
      clear hX
      go_wp2
      go_loopw [25] (fun b wq => ∃ (j : Nat) (m : List R), j ≤ nq ∧ b = .int .i64 j ∧ Hid (m.length = n ∧ ∀ x, ev m x = tms (ev (P.take k) x) (ev Q x) ^^^ tms (tms X (pw x k)) (ev (Q.take j) x)) ∧ Hid (VAt wq G (rs m)) ∧ Hid (G < wq.heap.size) ∧ Below w2.heap.size w2 wq) (fun b _ => nq - (intOf b).toNat)
      case atStart => exact ⟨0, m, Nat.zero_le _, rfl, Lib.hid ⟨hm.out.1, fun x => by rw [hm.out.2 x, List.take_zero, ev_nil, tms_zero, xz]⟩, hat, hgl, hb⟩
      case round =>
        clear hm hat hgl hb
        obtain ⟨j, m, hj, rfl, hm, hat, hgl, hb⟩ := hrel
        by_cases hlj : j < nq
        · obtain ⟨i, hi⟩ : ∃ i, i = k + j := ⟨_, rfl⟩
          have hin : i < n := by have := hnh.out; omega
          obtain ⟨b1, o1, hA1, hbl1, hc1⟩ := (hsp.out.below hb).read k (by rw [hnph.out]; exact hlt)
          obtain ⟨b2, o2, hA2, hbl2, hc2⟩ := (hsq.out.below hb).read j (by rw [hnqh.out]; exact hlj)
          subst hA1 hA2
          obtain ⟨hn1, hf1⟩ := VAt.readR hat.out (k := i) (by rw [hm.out.1]; exact hin)
          rw [hXh.out] at hc1
          obtain ⟨Y, hY⟩ : ∃ Y, Q.getD j 0 = Y := ⟨_, rfl⟩
          obtain ⟨Z, hZ⟩ : ∃ Z, m.getD i 0 = Z := ⟨_, rfl⟩
          rw [hY] at hc2
          rw [hZ] at hn1
          have hst := mul_step hi hm.out.1 hin (by rw [hnqh.out]; exact hlj) hY hZ hm.out.2
          have cM := fun W => (mul_own X Y W).mono fun _ _ ⟨a, b⟩ => And.intro a b.symm
          obtain ⟨T, hT⟩ : ∃ T, tms X Y = T := ⟨_, rfl⟩
          rw [hT] at cM hst
          have cA := fun W => (add_own Z T W).mono fun _ _ ⟨a, b⟩ => And.intro a b.symm
          obtain ⟨S, hS⟩ : ∃ S, Z ^^^ T = S := ⟨_, rfl⟩
          rw [hS] at cA hst
          have cM := Lib.hid cM
          have cA := Lib.hid cA
          have hat2 := Lib.hid (show VAt (wr.setCell ⟨G, i, none⟩ (bv S)).drew G (rs (m.set i S)) from (VAt.setR hat.out (k := i) (by rw [hm.out.1]; exact hin) S).drew)
          have hgl2 := Lib.hid (show G < (wr.setCell ⟨G, i, none⟩ (bv S)).drew.heap.size by simpa using hgl.out)
          have hb2 := chainN (hb.setCell (p := ⟨G, i, none⟩) (by rw [hGh.out]; exact Nat.le_refl _) (bv S)) 1
          have hst := Lib.hid (And.intro (show (m.set i S).length = n by rw [List.length_set]; exact hm.out.1) hst)
          have j1 : (j : Int) < (nq : Int) := by omega
          have j0 : (0 : Int) ≤ (j : Int) := by omega
          have k0 : (0 : Int) ≤ (k : Int) := by omega
          have e1 : (k : Int) + (j : Int) = (i : Int) := by omega
          have n0 : (0 : Int) ≤ (i : Int) := by omega
          have e2 : IntKind.i64.wrap (i : Int) = (i : Int) := by rw [IntKind.wrap_i64]; omega
          have n1 : (i : Int) < (n : Int) := by omega
          clear hat hgl hm hi hY hZ hT hS
          go_wp2_with fail
          refine wp_region_still_tail 21 (by kernel_rfl) (by kernel_rfl) ?_
          simp only [List.take_succ_cons, List.take_zero, List.drop_succ_cons, List.drop_zero]
          repeat still_step
          still_call (cM.out _)
          still_call (cA.out _)
          repeat still_step
          refine wpStill_nil ?_
          change wpList _ _ _ _ _ wr.drew
          go_wp2
          go_roundw
          case rel => exact ⟨j + 1, m.set i S, by omega, by go_num, hst, hat2, hgl2, hb2⟩
          case measure => simp [intOf]; omega
        · have j1 : ¬ (j : Int) < (nq : Int) := by omega
          have hm2 := Lib.hid (show m.length = n ∧ ∀ x, ev m x = tms (ev (P.take (k + 1)) x) (ev Q x) from ⟨hm.out.1, fun x => by
            rw [hm.out.2 x, List.take_of_length_le (l := Q) (by have := hnqh.out; omega), mul_row (by rw [hnph.out]; exact hlt) hXh.out]⟩)
          go_wp2
          go_roundw
          case rel => exact ⟨k + 1, m, by omega, by go_num, hm2, hat, hgl, hb⟩
          case measure => simp [intOf]; omega
    · have i1 : ¬ (k : Int) < (np : Int) := by omega
      have hfin := hval.out m (by rw [hm.out.1]; exact hn200) fun x => by rw [hm.out.2 x, List.take_of_length_le (by have := hnph.out; omega)]
      have hsl := IsSl.of_at hat.out hm.out.1 (by omega) hgl.out
      have cc := size_own hsl (by rw [hm.out.1]; omega)
      have htl := trim_len m
      have hfr := trim_take m
      rw [hm.out.1, hfin] at cc
      rw [hfin, hm.out.1] at htl
      rw [hfin] at hfr
      have hsl := Lib.hid hsl
      obtain ⟨r, hr⟩ : ∃ r, (mulL p q).length = r := ⟨_, rfl⟩
      rw [hr] at cc htl hfr
      have hrn : (r : Int) ≤ (n : Int) := by omega
      have hrh := Lib.hid hr
      have hfr := Lib.hid hfr
      have cc := Lib.hid cc
      have hBB := chain hbb.out hb
      clear hr hat hgl hm htl hfin hb
      go_wp2_with fail
      refine cc.out.mono ?_
      rintro e w3 ⟨rfl, rfl⟩
      go_wp2
      go_ret
      exact ⟨_, n, by rw [hrh.out]; rfl, hsl.out.front r hfr.out, hBB⟩
end Go.Proofs.Ytcakdhnlgeiodaa.G6
