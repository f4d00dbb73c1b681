/- The walk of the law GfpolyRoots, under the package's contracts. -/
import Derived.Test.YtdinngcfjjajeaaG6Law1
namespace Go.Proofs.Ytdinngcfjjajeaa.G6
open Go.Proofs.Ytdinngcfjjajeaa.G5
open Go.RowKit Mem
set_option linter.unusedVariables false
set_option linter.unusedSimpArgs false


theorem z_one (x : R) : ((x.toNat : Int) == 0) = (x == 0#8) := bv_eq1 x 0#8

set_option maxRecDepth 100000 in
set_option maxHeartbeats 4000000 in
theorem walk_roots (D : Dev) (a0 : Option Addr) (len0 cap0 : Nat) (z0 : List Int) (i1 : Int) (w : World) (h0 : IsRow .u8 w a0 len0 cap0 z0) (h1 : (Lit.int .u8 i1).wf = true) :
    Calls Try.prog 11 #[.slice a0 len0 cap0, .int .u8 i1] w fun e w' => e = .returned (.bool true) ∧ Below w.heap.size w w' := by
  obtain ⟨p, rfl, hhp⟩ := sl_of_row h0
  obtain ⟨x, rfl⟩ := u8_el h1
  have hp := Lib.hid hhp
  by_cases hs : p.length ≤ 20
  · have s1 := hs
    clear hhp
    have cc := small1 20 (by decide) (w := w) (A1 := a0) (c1 := cap0) (n1 := p.length) true (by simp; omega)
    rw [show ((20 : Nat) : Int) = 20 from rfl] at cc
    replace cc := Lib.hid cc
    go_enter Try.func11, Try.ntmps11
    go_wp2_with fail
    refine cc.out.mono ?_
    rintro e w1 ⟨rfl, hb⟩
    clear cc
    replace hp := Lib.hid (hp.out.below hb)
    have hB := hb
    clear hb
    obtain ⟨n, hn⟩ : ∃ n, p.length = n := ⟨_, rfl⟩
    have hnh := Lib.hid hn
    rw [hn] at s1 ⊢
    clear hn
    go_wp2
    go_loopw [5, 6, 20] (fun v f a wr => ∃ (E : Option Addr) (e nm k : Nat) (F : Bool), v = .slice E nm e ∧ f = .bool F ∧ a = .int .i64 k ∧ k ≤ n ∧ nm ≤ 21 ∧ Hid (nm = k + 1 ∧ F = decide (x ∈ p.take k) ∧ (prodL (p.take k)).length = nm) ∧ Hid (IsSl wr E e (prodL (p.take k))) ∧ Hid (IsSl wr a0 cap0 p) ∧ Below w.heap.size w wr) (fun _ _ a _ => n - (intOf a).toNat)
    case atStart => exact ⟨_, 1, 1, 0, false, rfl, rfl, rfl, Nat.zero_le _, by decide, Lib.hid ⟨rfl, rfl, rfl⟩, Lib.hid (IsSl.made w1 5 [1#8] #[.int .u8 1] _ 1 rfl rfl rfl (by decide)), Lib.hid (hp.out.below (mb _ _)), hB.alloc hB.size _⟩
    case round =>
      clear hB hp
      obtain ⟨E, e, nm, k, F, rfl, rfl, rfl, hk, hnm, hf, hs, hp, hb⟩ := hrel
      by_cases hlt : k < n
      · have hts := take_snoc p k (by rw [hnh.out]; exact hlt)
        obtain ⟨b1, o1, rfl, hbl1, hc1⟩ := hp.out.read k (by rw [hnh.out]; exact hlt)
        obtain ⟨X, hX⟩ : ∃ X, p.getD k 0 = X := ⟨_, rfl⟩
        rw [hX] at hts hc1
        have hnm2 : nm ≤ 20 := by have := hf.out.1; omega
        have hkI : (k : Int) < (n : Int) := by omega
        have ob := mb wr (.cells #[bv X, .int .u8 1] 5)
        have cc := D.mul (hs.out.below ob) (IsSl.made wr 5 [X, 1#8] #[bv X, .int .u8 1] wr.heap.size 2 rfl rfl rfl (by decide)) (by rw [hf.out.2.2]; simp; omega)
        rw [hf.out.2.2] at cc
        simp only [List.length_cons, List.length_nil, Nat.reduceAdd] at cc
        have hpr : mulL (prodL (p.take k)) [X, 1#8] = prodL (p.take (k + 1)) := by rw [hts, prodL_snoc]; rfl
        rw [hpr] at cc
        have hpl : (prodL (p.take (k + 1))).length = nm + 1 := by rw [prodL_len, List.length_take, hnh.out, Nat.min_eq_left (by omega)]; have := hf.out.1; omega
        have hplh := Lib.hid hpl
        have hff := Lib.hid hf.out.2.1
        have hn1 := Lib.hid (show nm + 1 = (k + 1) + 1 by have := hf.out.1; omega)
        have hmem : decide (x ∈ p.take (k + 1)) = (decide (x ∈ p.take k) || X == x) := by
          rw [hts, Bool.eq_iff_iff]
          simp only [decide_eq_true_eq, List.mem_append, List.mem_singleton, Bool.or_eq_true, beq_iff_eq]
          constructor
          · rintro (h | h)
            · exact .inl h
            · exact .inr h.symm
          · rintro (h | h)
            · exact .inl h
            · exact .inr h.symm
        rw [← hff.out] at hmem
        have hmem := Lib.hid hmem
        have ht := bv_eq1 X x
        obtain ⟨B, hB⟩ : ∃ B, (X == x) = B := ⟨_, rfl⟩
        rw [hB] at ht
        have hBh := Lib.hid hB
        obtain ⟨M, hM⟩ : ∃ M, decide (x ∈ p.take (k + 1)) = M := ⟨_, rfl⟩
        have hm0 := hmem.out
        rw [hM, hB] at hm0
        have hMh := Lib.hid hM
        replace cc := Lib.hid cc
        clear hX hpr hpl hts hM hmem hff hf
        go_wp2_with fail
        refine cc.out.mono ?_
        rintro e1 w3 ⟨A3, c3, rfl, hs3, hb3⟩
        rw [hplh.out]
        have hs3h := Lib.hid hs3
        have hp3 := Lib.hid ((hp.out.below ob).below hb3)
        have hbb := chain (chain hb ob) hb3
        clear hs3 hb3 ob hb hs hp
        rcases F with _ | _
        · obtain rfl : M = B := by rw [hm0, Bool.false_or]
          clear hm0
          go_wp2
          go_roundw
          case rel => exact ⟨A3, c3, nm + 1, k + 1, M, rfl, rfl, by go_num, by omega, by omega, Lib.hid ⟨hn1.out, hMh.out.symm, hplh.out⟩, hs3h, hp3, hbb⟩
          case measure => simp [intOf]; omega
        · obtain rfl : M = true := by rw [hm0, Bool.true_or]
          clear hm0
          go_wp2
          go_roundw
          case rel => exact ⟨A3, c3, nm + 1, k + 1, true, rfl, rfl, by go_num, by omega, by omega, Lib.hid ⟨hn1.out, hMh.out.symm, hplh.out⟩, hs3h, hp3, hbb⟩
          case measure => simp [intOf]; omega
      · have hkI : ¬ (k : Int) < (n : Int) := by omega
        obtain ⟨f1, f2, f3⟩ := hf.out
        have hkn : k = n := by omega
        rw [List.take_of_length_le (by rw [hnh.out]; omega)] at f2 f3 hs
        have hz := z_one (ev (prodL p) x)
        rw [show (ev (prodL p) x == 0#8) = F by rw [f2, Bool.eq_iff_iff, beq_iff_eq, decide_eq_true_eq]; exact prodL_zero p x] at hz
        have ob := mb wr (.cells #[bv x, .int .u8 1] 5)
        have cc := D.div1 (hs.out.below ob) (IsSl.made wr 5 [x, 1#8] #[bv x, .int .u8 1] wr.heap.size 2 rfl rfl rfl (by decide)) (by omega) (by simp) (by rw [show trim [x, 1#8] = [x, 1#8] from Tr_lin x]; simp)
        rw [f3] at cc
        simp only [List.length_cons, List.length_nil, Nat.reduceAdd] at cc
        have cc := Lib.hid cc
        have hsl := hs.out.below ob
        have hsl := Lib.hid hsl
        have f1h := Lib.hid (show nm = n + 1 by omega)
        have f3h := Lib.hid f3
        have hev : (ev (prodL p) x = 0) ↔ F = true := by rw [prodL_zero, f2, decide_eq_true_eq]
        have hevh := Lib.hid hev
        obtain ⟨V, hV⟩ : ∃ V, ev (prodL p) x = V := ⟨_, rfl⟩
        have hVh := Lib.hid hV
        rw [hV] at hz
        clear f1 f2 f3 hkn hev hV
        go_wp2_with fail
        refine cc.out.mono ?_
        rintro e1 w3 ⟨d, r, A3, c3, A4, c4, hdv, rfl, hs3, hs4, hb3⟩
        have hrr : r = trim [V] := by rw [← hVh.out]; exact (show Dvd (prodL p) [x, 1] d r from hdv).rest
        have hrl : ((r.length : Int) == 0) = F := by
          rw [hrr]
          rcases F with _ | _
          · have hV0 : V ≠ 0 := fun e => by have := hevh.out.1 (hVh.out.trans e); cases this
            rw [show trim [V] = [V] from trim_snoc hV0 []]
            rfl
          · have hV0 : V = 0 := hVh.out.symm.trans (hevh.out.2 rfl)
            rw [hV0]
            rfl
        have hrn : (r.length == 0) = F := by rw [← hrl, Bool.eq_iff_iff, beq_iff_eq, beq_iff_eq]; omega
        have cc2 := D.evalB x (hsl.out.below hb3) (by have := f3h.out; omega)
        rw [hVh.out, f3h.out, f1h.out] at cc2
        have cc2 := Lib.hid cc2
        have hbb := chain (chain hb ob) hb3
        obtain ⟨nr, hnr⟩ : ∃ nr, r.length = nr := ⟨_, rfl⟩
        rw [hnr] at hrl hrn ⊢
        clear hrr hnr hs3 hs4 hb3 ob hb hdv
        rw [f1h.out]
        go_wp2_with fail
        refine cc2.out.mono ?_
        rintro e2 w4 ⟨rfl, hb4⟩
        replace hbb := chain hbb hb4
        have cc3 := Lib.hid (awake_any D w4)
        rcases F with _ | _
        all_goals
          go_wp2_with fail
          refine cc3.out.mono ?_
          rintro e3 w5 ⟨rfl, hb5⟩
          go_wp2
          go_ret
          exact ⟨rfl, chain hbb hb5⟩
  · have cc := small1 20 (by decide) (w := w) (A1 := a0) (c1 := cap0) (n1 := p.length) false (by simp; omega)
    rw [show ((20 : Nat) : Int) = 20 from rfl] at cc
    replace cc := Lib.hid cc
    go_enter Try.func11, Try.ntmps11
    go_wp2_with fail
    refine cc.out.mono ?_
    rintro e w1 ⟨rfl, hb⟩
    clear cc
    have hB := hb
    clear hb
    have cc := awake_any D w1
    replace cc := Lib.hid cc
    go_wp2_with fail
    refine cc.out.mono ?_
    rintro e w2 ⟨rfl, hb⟩
    clear cc
    replace hB := chain hB hb
    clear hb
    go_wp2
    go_ret
    exact ⟨rfl, hB⟩
end Go.Proofs.Ytdinngcfjjajeaa.G6
