/- The walk of the law GfpolyArithmetic, under the package's contracts. -/
import Derived.Test.YtdinngcfjjajeaaG6Dev
namespace Go.Proofs.Ytdinngcfjjajeaa.G6
open Go.Proofs.Ytdinngcfjjajeaa.G5
open Go.RowKit Mem
set_option linter.unusedVariables false
set_option linter.unusedSimpArgs false

theorem u8_el {a : Int} (h : (Lit.int .u8 a).wf = true) : ∃ x : R, a = (x.toNat : Int) := by
  obtain ⟨h1, h2⟩ : 0 ≤ a ∧ a ≤ 255 := (Lit.wf_int_iff .u8 _).1 h
  refine ⟨BitVec.ofNat 8 a.toNat, ?_⟩
  rw [BitVec.toNat_ofNat]
  omega

set_option maxRecDepth 100000 in
set_option maxHeartbeats 4000000 in
theorem walk_arithmetic (D : Dev) (a0 : Option Addr) (len0 cap0 : Nat) (z0 : List Int) (a1 : Option Addr) (len1 cap1 : Nat) (z1 : List Int) (i2 : Int) (w : World) (h0 : IsRow .u8 w a0 len0 cap0 z0) (h1 : IsRow .u8 w a1 len1 cap1 z1) (h2 : (Lit.int .u8 i2).wf = true) :
    Calls Try.prog 3 #[.slice a0 len0 cap0, .slice a1 len1 cap1, .int .u8 i2] w fun e w' => e = .returned (.bool true) ∧ Below w.heap.size w w' := by
  obtain ⟨p, rfl, hhp⟩ := sl_of_row h0
  obtain ⟨q, rfl, hhq⟩ := sl_of_row h1
  obtain ⟨x, rfl⟩ := u8_el h2
  have hp := Lib.hid hhp
  have hq := Lib.hid hhq
  by_cases hs : p.length ≤ 60 ∧ q.length ≤ 60
  · obtain ⟨s1, s2⟩ := hs
    clear hhp hhq
    have cc := small2 60 (by decide) (w := w) (A1 := a0) (c1 := cap0) (n1 := p.length) (A2 := a1) (c2 := cap1) (n2 := q.length) true (by simp; omega)
    rw [show ((60 : Nat) : Int) = 60 from rfl] at cc
    replace cc := Lib.hid cc
    go_enter Try.func3, Try.ntmps3
    go_wp2_with fail
    refine cc.out.mono ?_
    rintro e w1 ⟨rfl, hb⟩
    clear cc
    replace hp := Lib.hid (hp.out.below hb)
    replace hq := Lib.hid (hq.out.below hb)
    have hB := hb
    clear hb
    have cc := D.trim hp.out (by omega)
    replace cc := Lib.hid cc
    go_wp2_with fail
    refine cc.out.mono ?_
    rintro e w2 ⟨A2, c2, rfl, hs2, hb⟩
    clear cc
    replace hp := Lib.hid (hp.out.below hb)
    replace hq := Lib.hid (hq.out.below hb)
    replace hB := chain hB hb
    have hu := Lib.hid hs2
    clear hs2 hb
    have cc := rtrim_any hp.out (by omega)
    replace cc := Lib.hid cc
    go_wp2_with fail
    refine cc.out.mono ?_
    rintro e w3 ⟨A3, c3, rfl, hs3, hb⟩
    clear cc
    replace hp := Lib.hid (hp.out.below hb)
    replace hq := Lib.hid (hq.out.below hb)
    replace hu := Lib.hid (hu.out.below hb)
    replace hB := chain hB hb
    have hv := Lib.hid hs3
    clear hs3 hb
    have cc := same_eq hu.out hv.out rfl
    replace cc := Lib.hid cc
    go_wp2_with fail
    refine cc.out.mono ?_
    rintro e w4 ⟨rfl, rfl⟩
    clear cc
    clear hu hv
    have cc := D.add hp.out hq.out (by omega) (by omega)
    replace cc := Lib.hid cc
    go_wp2_with fail
    refine cc.out.mono ?_
    rintro e w5 ⟨A5, c5, rfl, hs5, hb⟩
    clear cc
    replace hp := Lib.hid (hp.out.below hb)
    replace hq := Lib.hid (hq.out.below hb)
    replace hB := chain hB hb
    have hu := Lib.hid hs5
    clear hs5 hb
    have cc := radd_poly hp.out hq.out (by omega) (by omega)
    replace cc := Lib.hid cc
    go_wp2_with fail
    refine cc.out.mono ?_
    rintro e w6 ⟨A6, c6, rfl, hs6, hb⟩
    clear cc
    replace hp := Lib.hid (hp.out.below hb)
    replace hq := Lib.hid (hq.out.below hb)
    replace hu := Lib.hid (hu.out.below hb)
    replace hB := chain hB hb
    have hv := Lib.hid hs6
    clear hs6 hb
    have cc := same_eq hu.out hv.out rfl
    replace cc := Lib.hid cc
    go_wp2_with fail
    refine cc.out.mono ?_
    rintro e w7 ⟨rfl, rfl⟩
    clear cc
    clear hu hv
    have cc := D.der hp.out (by omega)
    replace cc := Lib.hid cc
    go_wp2_with fail
    refine cc.out.mono ?_
    rintro e w8 ⟨A8, c8, rfl, hs8, hb⟩
    clear cc
    replace hp := Lib.hid (hp.out.below hb)
    replace hq := Lib.hid (hq.out.below hb)
    replace hB := chain hB hb
    have hu := Lib.hid hs8
    clear hs8 hb
    have cc := rder_any hp.out (by omega)
    replace cc := Lib.hid cc
    go_wp2_with fail
    refine cc.out.mono ?_
    rintro e w9 ⟨A9, c9, rfl, hs9, hb⟩
    clear cc
    replace hp := Lib.hid (hp.out.below hb)
    replace hq := Lib.hid (hq.out.below hb)
    replace hu := Lib.hid (hu.out.below hb)
    replace hB := chain hB hb
    have hv := Lib.hid hs9
    clear hs9 hb
    have cc := same_eq hu.out hv.out rfl
    replace cc := Lib.hid cc
    go_wp2_with fail
    refine cc.out.mono ?_
    rintro e w10 ⟨rfl, rfl⟩
    clear cc
    clear hu hv
    have cc := D.evalB x hp.out (by omega)
    replace cc := Lib.hid cc
    go_wp2_with fail
    refine cc.out.mono ?_
    rintro e w11 ⟨rfl, hb⟩
    clear cc
    replace hp := Lib.hid (hp.out.below hb)
    replace hq := Lib.hid (hq.out.below hb)
    replace hB := chain hB hb
    clear hb
    have cc := reval_any hp.out (by omega) x
    replace cc := Lib.hid cc
    go_wp2_with fail
    refine cc.out.mono ?_
    rintro e w12 ⟨rfl, rfl⟩
    clear cc
    have cc := awake_any D w11
    replace cc := Lib.hid cc
    go_wp2_with fail
    refine cc.out.mono ?_
    rintro e w13 ⟨rfl, hb⟩
    clear cc
    replace hp := Lib.hid (hp.out.below hb)
    replace hq := Lib.hid (hq.out.below hb)
    replace hB := chain hB hb
    clear hb
    go_wp2
    go_ret
    exact ⟨rfl, hB⟩
  · have cc := small2 60 (by decide) (w := w) (A1 := a0) (c1 := cap0) (n1 := p.length) (A2 := a1) (c2 := cap1) (n2 := q.length) false (by simp; omega)
    rw [show ((60 : Nat) : Int) = 60 from rfl] at cc
    replace cc := Lib.hid cc
    go_enter Try.func3, Try.ntmps3
    go_wp2_with fail
    refine cc.out.mono ?_
    rintro e w1 ⟨rfl, hb⟩
    clear cc
    have hB := hb
    clear hb
    have cc := awake_any D w1
    replace cc := Lib.hid cc
    go_wp2_with fail
    refine cc.out.mono ?_
    rintro e w2 ⟨rfl, hb⟩
    clear cc
    replace hB := chain hB hb
    clear hb
    go_wp2
    go_ret
    exact ⟨rfl, hB⟩

set_option maxRecDepth 100000 in
set_option maxHeartbeats 4000000 in
theorem walk_products (D : Dev) (a0 : Option Addr) (len0 cap0 : Nat) (z0 : List Int) (a1 : Option Addr) (len1 cap1 : Nat) (z1 : List Int) (w : World) (h0 : IsRow .u8 w a0 len0 cap0 z0) (h1 : IsRow .u8 w a1 len1 cap1 z1) :
    Calls Try.prog 4 #[.slice a0 len0 cap0, .slice a1 len1 cap1] w fun e w' => e = .returned (.bool true) ∧ Below w.heap.size w w' := by
  obtain ⟨p, rfl, hhp⟩ := sl_of_row h0
  obtain ⟨q, rfl, hhq⟩ := sl_of_row h1
  have hp := Lib.hid hhp
  have hq := Lib.hid hhq
  by_cases hs : p.length ≤ 30 ∧ q.length ≤ 30
  · obtain ⟨s1, s2⟩ := hs
    clear hhp hhq
    by_cases hq0 : trim q = []
    · have hq0h := Lib.hid hq0
      clear hq0
      have cc := small2 30 (by decide) (w := w) (A1 := a0) (c1 := cap0) (n1 := p.length) (A2 := a1) (c2 := cap1) (n2 := q.length) true (by simp; omega)
      rw [show ((30 : Nat) : Int) = 30 from rfl] at cc
      replace cc := Lib.hid cc
      go_enter Try.func4, Try.ntmps4
      go_wp2_with fail
      refine cc.out.mono ?_
      rintro e w1 ⟨rfl, hb⟩
      clear cc
      replace hp := Lib.hid (hp.out.below hb)
      replace hq := Lib.hid (hq.out.below hb)
      have hB := hb
      clear hb
      have cc := D.div0 hp.out hq.out (by omega) (by omega) hq0h.out
      replace cc := Lib.hid cc
      go_wp2_with fail
      refine cc.out.mono ?_
      rintro e w2 ⟨E2, e2, F2, f2, rfl, hs1, hs2, hb⟩
      clear cc
      replace hp := Lib.hid (hp.out.below hb)
      replace hq := Lib.hid (hq.out.below hb)
      replace hB := chain hB hb
      have ha := Lib.hid hs1
      have hb1 := Lib.hid hs2
      clear hs1 hs2 hb
      have cc := rdiv0_any hp.out hq.out (by omega) hq0h.out
      replace cc := Lib.hid cc
      go_wp2_with fail
      refine cc.out.mono ?_
      rintro e w3 ⟨E3, e3, F3, f3, rfl, hs1, hs2, hb⟩
      clear cc
      replace hp := Lib.hid (hp.out.below hb)
      replace hq := Lib.hid (hq.out.below hb)
      replace ha := Lib.hid (ha.out.below hb)
      replace hb1 := Lib.hid (hb1.out.below hb)
      replace hB := chain hB hb
      have hc := Lib.hid hs1
      have hd := Lib.hid hs2
      clear hs1 hs2 hb
      have cc := D.mul hp.out hq.out (by omega)
      replace cc := Lib.hid cc
      go_wp2_with fail
      refine cc.out.mono ?_
      rintro e w4 ⟨A4, c4, rfl, hs4, hb⟩
      clear cc
      replace hp := Lib.hid (hp.out.below hb)
      replace hq := Lib.hid (hq.out.below hb)
      replace ha := Lib.hid (ha.out.below hb)
      replace hb1 := Lib.hid (hb1.out.below hb)
      replace hc := Lib.hid (hc.out.below hb)
      replace hd := Lib.hid (hd.out.below hb)
      replace hB := chain hB hb
      have hu := Lib.hid hs4
      clear hs4 hb
      have cc := rmul_poly hp.out hq.out (by omega)
      replace cc := Lib.hid cc
      go_wp2_with fail
      refine cc.out.mono ?_
      rintro e w5 ⟨A5, c5, rfl, hs5, hb⟩
      clear cc
      replace hp := Lib.hid (hp.out.below hb)
      replace hq := Lib.hid (hq.out.below hb)
      replace ha := Lib.hid (ha.out.below hb)
      replace hb1 := Lib.hid (hb1.out.below hb)
      replace hc := Lib.hid (hc.out.below hb)
      replace hd := Lib.hid (hd.out.below hb)
      replace hu := Lib.hid (hu.out.below hb)
      replace hB := chain hB hb
      have hv := Lib.hid hs5
      clear hs5 hb
      have cc := same_eq hu.out hv.out rfl
      replace cc := Lib.hid cc
      go_wp2_with fail
      refine cc.out.mono ?_
      rintro e w6 ⟨rfl, rfl⟩
      clear cc
      clear hu hv
      have cc := same_eq ha.out hc.out rfl
      simp only [List.length_cons, List.length_nil, Nat.reduceAdd] at cc
      replace cc := Lib.hid cc
      go_wp2_with fail
      refine cc.out.mono ?_
      rintro e w7 ⟨rfl, rfl⟩
      clear cc
      have cc := same_eq hb1.out hd.out rfl
      simp only [List.length_cons, List.length_nil, Nat.reduceAdd] at cc
      replace cc := Lib.hid cc
      go_wp2_with fail
      refine cc.out.mono ?_
      rintro e w8 ⟨rfl, rfl⟩
      clear cc
      have cc := awake_any D w5
      replace cc := Lib.hid cc
      go_wp2_with fail
      refine cc.out.mono ?_
      rintro e w9 ⟨rfl, hb⟩
      clear cc
      replace hp := Lib.hid (hp.out.below hb)
      replace hq := Lib.hid (hq.out.below hb)
      replace ha := Lib.hid (ha.out.below hb)
      replace hb1 := Lib.hid (hb1.out.below hb)
      replace hc := Lib.hid (hc.out.below hb)
      replace hd := Lib.hid (hd.out.below hb)
      replace hB := chain hB hb
      clear hb
      go_wp2
      go_ret
      exact ⟨rfl, hB⟩
    · have hq0h := Lib.hid hq0
      clear hq0
      have cc := small2 30 (by decide) (w := w) (A1 := a0) (c1 := cap0) (n1 := p.length) (A2 := a1) (c2 := cap1) (n2 := q.length) true (by simp; omega)
      rw [show ((30 : Nat) : Int) = 30 from rfl] at cc
      replace cc := Lib.hid cc
      go_enter Try.func4, Try.ntmps4
      go_wp2_with fail
      refine cc.out.mono ?_
      rintro e w1 ⟨rfl, hb⟩
      clear cc
      replace hp := Lib.hid (hp.out.below hb)
      replace hq := Lib.hid (hq.out.below hb)
      have hB := hb
      clear hb
      have cc := D.div1 hp.out hq.out (by omega) (by omega) hq0h.out
      replace cc := Lib.hid cc
      go_wp2_with fail
      refine cc.out.mono ?_
      rintro e w2 ⟨d, r, E2, e2, F2, f2, hdv, rfl, hs1, hs2, hb⟩
      clear cc
      have hdv1 := Lib.hid hdv
      replace hp := Lib.hid (hp.out.below hb)
      replace hq := Lib.hid (hq.out.below hb)
      replace hB := chain hB hb
      have ha := Lib.hid hs1
      have hb1 := Lib.hid hs2
      clear hs1 hs2 hb hdv
      have cc := rdiv1_any hp.out hq.out (by omega) (by omega) hq0h.out
      replace cc := Lib.hid cc
      go_wp2_with fail
      refine cc.out.mono ?_
      rintro e w3 ⟨d', r', E3, e3, F3, f3, hdv, rfl, hs1, hs2, hb⟩
      clear cc
      have hdv2 := Lib.hid hdv
      replace hp := Lib.hid (hp.out.below hb)
      replace hq := Lib.hid (hq.out.below hb)
      replace ha := Lib.hid (ha.out.below hb)
      replace hb1 := Lib.hid (hb1.out.below hb)
      replace hB := chain hB hb
      have hc := Lib.hid hs1
      have hd := Lib.hid hs2
      clear hs1 hs2 hb hdv
      obtain ⟨rfl, rfl⟩ := hdv1.out.only hdv2.out (by omega) (by omega)
      have cc := D.mul hp.out hq.out (by omega)
      replace cc := Lib.hid cc
      go_wp2_with fail
      refine cc.out.mono ?_
      rintro e w4 ⟨A4, c4, rfl, hs4, hb⟩
      clear cc
      replace hp := Lib.hid (hp.out.below hb)
      replace hq := Lib.hid (hq.out.below hb)
      replace ha := Lib.hid (ha.out.below hb)
      replace hb1 := Lib.hid (hb1.out.below hb)
      replace hc := Lib.hid (hc.out.below hb)
      replace hd := Lib.hid (hd.out.below hb)
      replace hB := chain hB hb
      have hu := Lib.hid hs4
      clear hs4 hb
      have cc := rmul_poly hp.out hq.out (by omega)
      replace cc := Lib.hid cc
      go_wp2_with fail
      refine cc.out.mono ?_
      rintro e w5 ⟨A5, c5, rfl, hs5, hb⟩
      clear cc
      replace hp := Lib.hid (hp.out.below hb)
      replace hq := Lib.hid (hq.out.below hb)
      replace ha := Lib.hid (ha.out.below hb)
      replace hb1 := Lib.hid (hb1.out.below hb)
      replace hc := Lib.hid (hc.out.below hb)
      replace hd := Lib.hid (hd.out.below hb)
      replace hu := Lib.hid (hu.out.below hb)
      replace hB := chain hB hb
      have hv := Lib.hid hs5
      clear hs5 hb
      have cc := same_eq hu.out hv.out rfl
      replace cc := Lib.hid cc
      go_wp2_with fail
      refine cc.out.mono ?_
      rintro e w6 ⟨rfl, rfl⟩
      clear cc
      clear hu hv
      have cc := same_eq ha.out hc.out rfl
      replace cc := Lib.hid cc
      go_wp2_with fail
      refine cc.out.mono ?_
      rintro e w7 ⟨rfl, rfl⟩
      clear cc
      have cc := same_eq hb1.out hd.out rfl
      replace cc := Lib.hid cc
      go_wp2_with fail
      refine cc.out.mono ?_
      rintro e w8 ⟨rfl, rfl⟩
      clear cc
      have cc := awake_any D w5
      replace cc := Lib.hid cc
      go_wp2_with fail
      refine cc.out.mono ?_
      rintro e w9 ⟨rfl, hb⟩
      clear cc
      replace hp := Lib.hid (hp.out.below hb)
      replace hq := Lib.hid (hq.out.below hb)
      replace ha := Lib.hid (ha.out.below hb)
      replace hb1 := Lib.hid (hb1.out.below hb)
      replace hc := Lib.hid (hc.out.below hb)
      replace hd := Lib.hid (hd.out.below hb)
      replace hB := chain hB hb
      clear hb
      go_wp2
      go_ret
      exact ⟨rfl, hB⟩
  · have cc := small2 30 (by decide) (w := w) (A1 := a0) (c1 := cap0) (n1 := p.length) (A2 := a1) (c2 := cap1) (n2 := q.length) false (by simp; omega)
    rw [show ((30 : Nat) : Int) = 30 from rfl] at cc
    replace cc := Lib.hid cc
    go_enter Try.func4, Try.ntmps4
    go_wp2_with fail
    refine cc.out.mono ?_
    rintro e w1 ⟨rfl, hb⟩
    clear cc
    have hB := hb
    clear hb
    have cc := awake_any D w1
    replace cc := Lib.hid cc
    go_wp2_with fail
    refine cc.out.mono ?_
    rintro e w2 ⟨rfl, hb⟩
    clear cc
    replace hB := chain hB hb
    clear hb
    go_wp2
    go_ret
    exact ⟨rfl, hB⟩
end Go.Proofs.Ytdinngcfjjajeaa.G6
