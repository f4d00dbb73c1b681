/- The walks of the laws GfpolyDivision, GfpolyHomomorphism and GfpolyProductRule, under the package's contracts. -/
import Derived.Test.YtdinngcfjjajeaaG6Law1
namespace Go.Proofs.Ytdinngcfjjajeaa.G6
open Go.Proofs.Ytdinngcfjjajeaa.G5
open Go.RowKit Mem
set_option linter.unusedVariables false
set_option linter.unusedSimpArgs false


set_option maxRecDepth 100000 in
set_option maxHeartbeats 4000000 in
theorem walk_division (D : Dev) (a0 : Option Addr) (len0 cap0 : Nat) (z0 : List Int) (a1 : Option Addr) (len1 cap1 : Nat) (z1 : List Int) (w : World) (h0 : IsRow .u8 w a0 len0 cap0 z0) (h1 : IsRow .u8 w a1 len1 cap1 z1) :
    Calls Try.prog 7 #[.slice a0 len0 cap0, .slice a1 len1 cap1] w fun e w' => e = .returned (.bool true) ∧ Below w.heap.size w w' := by
  obtain ⟨p, rfl, hhp⟩ := sl_of_row h0
  obtain ⟨q, rfl, hhq⟩ := sl_of_row h1
  have hp := Lib.hid hhp
  have hq := Lib.hid hhq
  by_cases hs : p.length ≤ 40 ∧ q.length ≤ 40
  · obtain ⟨s1, s2⟩ := hs
    clear hhp hhq
    by_cases hq0 : trim q = []
    · have hq0h := Lib.hid hq0
      clear hq0
      have cc := small2 40 (by decide) (w := w) (A1 := a0) (c1 := cap0) (n1 := p.length) (A2 := a1) (c2 := cap1) (n2 := q.length) true (by simp; omega)
      rw [show ((40 : Nat) : Int) = 40 from rfl] at cc
      replace cc := Lib.hid cc
      go_enter Try.func7, Try.ntmps7
      go_wp2_with fail
      refine cc.out.mono ?_
      rintro e w1 ⟨rfl, hb⟩
      clear cc
      replace hp := Lib.hid (hp.out.below hb)
      replace hq := Lib.hid (hq.out.below hb)
      have hB := hb
      clear hb
      have cc := D.div0 hp.out hq.out (by omega) (by omega) hq0h.out
      replace cc := Lib.hid cc
      go_wp2_with fail
      refine cc.out.mono ?_
      rintro e w2 ⟨E2, e2, F2, f2, rfl, hs1, hs2, hb⟩
      clear cc
      replace hp := Lib.hid (hp.out.below hb)
      replace hq := Lib.hid (hq.out.below hb)
      replace hB := chain hB hb
      have ha := Lib.hid hs1
      have hb1 := Lib.hid hs2
      clear hs1 hs2 hb
      have cc := D.trim hq.out (by omega)
      rw [hq0h.out] at cc
      replace cc := Lib.hid cc
      go_wp2_with fail
      refine cc.out.mono ?_
      rintro e w3 ⟨A3, c3, rfl, hs3, hb⟩
      clear cc hs3
      replace hp := Lib.hid (hp.out.below hb)
      replace hq := Lib.hid (hq.out.below hb)
      replace ha := Lib.hid (ha.out.below hb)
      replace hb1 := Lib.hid (hb1.out.below hb)
      replace hB := chain hB hb
      clear hb
      have cc := awake_any D w3
      replace cc := Lib.hid cc
      go_wp2_with fail
      refine cc.out.mono ?_
      rintro e w4 ⟨rfl, hb⟩
      clear cc
      replace hp := Lib.hid (hp.out.below hb)
      replace hq := Lib.hid (hq.out.below hb)
      replace ha := Lib.hid (ha.out.below hb)
      replace hb1 := Lib.hid (hb1.out.below hb)
      replace hB := chain hB hb
      clear hb
      go_wp2
      go_ret
      exact ⟨rfl, hB⟩
    · have hq0h := Lib.hid hq0
      clear hq0
      have cc := small2 40 (by decide) (w := w) (A1 := a0) (c1 := cap0) (n1 := p.length) (A2 := a1) (c2 := cap1) (n2 := q.length) true (by simp; omega)
      rw [show ((40 : Nat) : Int) = 40 from rfl] at cc
      replace cc := Lib.hid cc
      go_enter Try.func7, Try.ntmps7
      go_wp2_with fail
      refine cc.out.mono ?_
      rintro e w1 ⟨rfl, hb⟩
      clear cc
      replace hp := Lib.hid (hp.out.below hb)
      replace hq := Lib.hid (hq.out.below hb)
      have hB := hb
      clear hb
      have cc := D.div1 hp.out hq.out (by omega) (by omega) hq0h.out
      replace cc := Lib.hid cc
      go_wp2_with fail
      refine cc.out.mono ?_
      rintro e w2 ⟨d, r, E2, e2, F2, f2, hdv, rfl, hs1, hs2, hb⟩
      clear cc
      have hdv1 := Lib.hid hdv
      replace hp := Lib.hid (hp.out.below hb)
      replace hq := Lib.hid (hq.out.below hb)
      replace hB := chain hB hb
      have ha := Lib.hid hs1
      have hb1 := Lib.hid hs2
      clear hs1 hs2 hb hdv
      have l1 : (r.length : Int) < ((trim q).length : Int) := by have := hdv1.out.lt; omega
      have l2 : r.length < (trim q).length := hdv1.out.lt
      have l3 : ((trim q).length == 0) = false := by rw [beq_eq_false_iff_ne]; omega
      have l4 : d.length ≤ 40 := by have := hdv1.out.ld; omega
      have l5 : (trim q).length ≤ 40 := by have := trim_len q; omega
      have l6 := Lib.hid (mulL_len d q)
      have l7 : (((trim q).length : Int) == 0) = false := by rw [beq_eq_false_iff_ne]; omega
      have cc := D.trim hq.out (by omega)
      replace cc := Lib.hid cc
      go_wp2_with fail
      refine cc.out.mono ?_
      rintro e w3 ⟨A3, c3, rfl, hs3, hb⟩
      clear cc
      replace hp := Lib.hid (hp.out.below hb)
      replace hq := Lib.hid (hq.out.below hb)
      replace ha := Lib.hid (ha.out.below hb)
      replace hb1 := Lib.hid (hb1.out.below hb)
      replace hB := chain hB hb
      have hu := Lib.hid hs3
      clear hs3 hb
      clear hu
      have cc := D.mul ha.out hq.out (by omega)
      replace cc := Lib.hid cc
      go_wp2_with fail
      refine cc.out.mono ?_
      rintro e w4 ⟨A4, c4, rfl, hs4, hb⟩
      clear cc
      replace hp := Lib.hid (hp.out.below hb)
      replace hq := Lib.hid (hq.out.below hb)
      replace ha := Lib.hid (ha.out.below hb)
      replace hb1 := Lib.hid (hb1.out.below hb)
      replace hB := chain hB hb
      have hu := Lib.hid hs4
      clear hs4 hb
      have cc := D.add hu.out hb1.out (by have := l6.out; omega) (by omega)
      replace cc := Lib.hid cc
      go_wp2_with fail
      refine cc.out.mono ?_
      rintro e w5 ⟨A5, c5, rfl, hs5, hb⟩
      clear cc
      replace hp := Lib.hid (hp.out.below hb)
      replace hq := Lib.hid (hq.out.below hb)
      replace ha := Lib.hid (ha.out.below hb)
      replace hb1 := Lib.hid (hb1.out.below hb)
      replace hu := Lib.hid (hu.out.below hb)
      replace hB := chain hB hb
      have hv := Lib.hid hs5
      clear hs5 hb
      clear hu
      have cc := D.trim hp.out (by omega)
      replace cc := Lib.hid cc
      go_wp2_with fail
      refine cc.out.mono ?_
      rintro e w6 ⟨A6, c6, rfl, hs6, hb⟩
      clear cc
      replace hp := Lib.hid (hp.out.below hb)
      replace hq := Lib.hid (hq.out.below hb)
      replace ha := Lib.hid (ha.out.below hb)
      replace hb1 := Lib.hid (hb1.out.below hb)
      replace hv := Lib.hid (hv.out.below hb)
      replace hB := chain hB hb
      have hu := Lib.hid hs6
      clear hs6 hb
      have cc := same_eq hv.out hu.out (hdv1.out.back (by omega) (by omega))
      replace cc := Lib.hid cc
      go_wp2_with fail
      refine cc.out.mono ?_
      rintro e w7 ⟨rfl, rfl⟩
      clear cc
      clear hu hv
      have cc := D.trim ha.out (by omega)
      replace cc := Lib.hid cc
      go_wp2_with fail
      refine cc.out.mono ?_
      rintro e w8 ⟨A8, c8, rfl, hs8, hb⟩
      clear cc
      replace hp := Lib.hid (hp.out.below hb)
      replace hq := Lib.hid (hq.out.below hb)
      replace ha := Lib.hid (ha.out.below hb)
      replace hb1 := Lib.hid (hb1.out.below hb)
      replace hB := chain hB hb
      have hu := Lib.hid hs8
      clear hs8 hb
      have cc := same_eq hu.out ha.out hdv1.out.td.eq
      replace cc := Lib.hid cc
      go_wp2_with fail
      refine cc.out.mono ?_
      rintro e w9 ⟨rfl, rfl⟩
      clear cc
      clear hu
      have cc := D.trim hb1.out (by omega)
      replace cc := Lib.hid cc
      go_wp2_with fail
      refine cc.out.mono ?_
      rintro e w10 ⟨A10, c10, rfl, hs10, hb⟩
      clear cc
      replace hp := Lib.hid (hp.out.below hb)
      replace hq := Lib.hid (hq.out.below hb)
      replace ha := Lib.hid (ha.out.below hb)
      replace hb1 := Lib.hid (hb1.out.below hb)
      replace hB := chain hB hb
      have hu := Lib.hid hs10
      clear hs10 hb
      have cc := same_eq hu.out hb1.out hdv1.out.tr.eq
      replace cc := Lib.hid cc
      go_wp2_with fail
      refine cc.out.mono ?_
      rintro e w11 ⟨rfl, rfl⟩
      clear cc
      clear hu
      have cc := awake_any D w10
      replace cc := Lib.hid cc
      go_wp2_with fail
      refine cc.out.mono ?_
      rintro e w12 ⟨rfl, hb⟩
      clear cc
      replace hp := Lib.hid (hp.out.below hb)
      replace hq := Lib.hid (hq.out.below hb)
      replace ha := Lib.hid (ha.out.below hb)
      replace hb1 := Lib.hid (hb1.out.below hb)
      replace hB := chain hB hb
      clear hb
      go_wp2
      go_ret
      exact ⟨rfl, hB⟩
  · have cc := small2 40 (by decide) (w := w) (A1 := a0) (c1 := cap0) (n1 := p.length) (A2 := a1) (c2 := cap1) (n2 := q.length) false (by simp; omega)
    rw [show ((40 : Nat) : Int) = 40 from rfl] at cc
    replace cc := Lib.hid cc
    go_enter Try.func7, Try.ntmps7
    go_wp2_with fail
    refine cc.out.mono ?_
    rintro e w1 ⟨rfl, hb⟩
    clear cc
    have hB := hb
    clear hb
    have cc := awake_any D w1
    replace cc := Lib.hid cc
    go_wp2_with fail
    refine cc.out.mono ?_
    rintro e w2 ⟨rfl, hb⟩
    clear cc
    replace hB := chain hB hb
    clear hb
    go_wp2
    go_ret
    exact ⟨rfl, hB⟩

set_option maxRecDepth 100000 in
set_option maxHeartbeats 4000000 in
theorem walk_homomorphism (D : Dev) (a0 : Option Addr) (len0 cap0 : Nat) (z0 : List Int) (a1 : Option Addr) (len1 cap1 : Nat) (z1 : List Int) (i2 : Int) (w : World) (h0 : IsRow .u8 w a0 len0 cap0 z0) (h1 : IsRow .u8 w a1 len1 cap1 z1) (h2 : (Lit.int .u8 i2).wf = true) :
    Calls Try.prog 8 #[.slice a0 len0 cap0, .slice a1 len1 cap1, .int .u8 i2] w fun e w' => e = .returned (.bool true) ∧ Below w.heap.size w w' := by
  obtain ⟨p, rfl, hhp⟩ := sl_of_row h0
  obtain ⟨q, rfl, hhq⟩ := sl_of_row h1
  obtain ⟨x, rfl⟩ := u8_el h2
  have hp := Lib.hid hhp
  have hq := Lib.hid hhq
  by_cases hs : p.length ≤ 30 ∧ q.length ≤ 30
  · obtain ⟨s1, s2⟩ := hs
    clear hhp hhq
    have cc := small2 30 (by decide) (w := w) (A1 := a0) (c1 := cap0) (n1 := p.length) (A2 := a1) (c2 := cap1) (n2 := q.length) true (by simp; omega)
    rw [show ((30 : Nat) : Int) = 30 from rfl] at cc
    replace cc := Lib.hid cc
    go_enter Try.func8, Try.ntmps8
    go_wp2_with fail
    refine cc.out.mono ?_
    rintro e w1 ⟨rfl, hb⟩
    clear cc
    replace hp := Lib.hid (hp.out.below hb)
    replace hq := Lib.hid (hq.out.below hb)
    have hB := hb
    clear hb
    have k1 := Lib.hid (addL_len p q)
    have k3 := Lib.hid (mulL_len p q)
    have cc := D.evalB x hp.out (by omega)
    replace cc := Lib.hid cc
    go_wp2_with fail
    refine cc.out.mono ?_
    rintro e w2 ⟨rfl, hb⟩
    clear cc
    replace hp := Lib.hid (hp.out.below hb)
    replace hq := Lib.hid (hq.out.below hb)
    replace hB := chain hB hb
    clear hb
    have cc := D.evalB x hq.out (by omega)
    replace cc := Lib.hid cc
    go_wp2_with fail
    refine cc.out.mono ?_
    rintro e w3 ⟨rfl, hb⟩
    clear cc
    replace hp := Lib.hid (hp.out.below hb)
    replace hq := Lib.hid (hq.out.below hb)
    replace hB := chain hB hb
    clear hb
    have hb := mb w3 (.cells #[bv x, .int .u8 1] 5)
    replace hp := Lib.hid (hp.out.below hb)
    replace hq := Lib.hid (hq.out.below hb)
    replace hB := chain hB hb
    clear hb
    have hw := Lib.hid (IsSl.made w3 5 [x, 1#8] #[bv x, .int .u8 1] (w3.heap.size) 2 rfl rfl rfl (by decide))
    have cc := D.div1 hp.out hw.out (by omega) (by simp) (by rw [show trim [x, 1#8] = [x, 1#8] from Tr_lin x]; simp)
    simp only [List.length_cons, List.length_nil, Nat.reduceAdd] at cc
    replace cc := Lib.hid cc
    go_wp2_with fail
    refine cc.out.mono ?_
    rintro e w4 ⟨d, r, E4, e4, F4, f4, hdv, rfl, hs1, hs2, hb⟩
    clear cc
    have hrr := Lib.hid (show Dvd p [x, 1] d r from hdv).rest
    replace hp := Lib.hid (hp.out.below hb)
    replace hq := Lib.hid (hq.out.below hb)
    replace hw := Lib.hid (hw.out.below hb)
    replace hB := chain hB hb
    have hr := Lib.hid hs2
    clear hs1 hs2 hb hdv hw
    have cc := D.add hp.out hq.out (by omega) (by omega)
    replace cc := Lib.hid cc
    go_wp2_with fail
    refine cc.out.mono ?_
    rintro e w5 ⟨A5, c5, rfl, hs5, hb⟩
    clear cc
    replace hp := Lib.hid (hp.out.below hb)
    replace hq := Lib.hid (hq.out.below hb)
    replace hr := Lib.hid (hr.out.below hb)
    replace hB := chain hB hb
    have hu := Lib.hid hs5
    clear hs5 hb
    have cc := D.evalB x hu.out (by have := k1.out; omega)
    rw [ev_addL] at cc
    replace cc := Lib.hid cc
    go_wp2_with fail
    refine cc.out.mono ?_
    rintro e w6 ⟨rfl, hb⟩
    clear cc
    replace hp := Lib.hid (hp.out.below hb)
    replace hq := Lib.hid (hq.out.below hb)
    replace hr := Lib.hid (hr.out.below hb)
    replace hu := Lib.hid (hu.out.below hb)
    replace hB := chain hB hb
    clear hb
    clear hu
    have cc := D.gadd (ev p x) (ev q x) w6
    replace cc := Lib.hid cc
    go_wp2_with fail
    refine cc.out.mono ?_
    rintro e w7 ⟨rfl, rfl⟩
    clear cc
    have cc := D.mul hp.out hq.out (by omega)
    replace cc := Lib.hid cc
    go_wp2_with fail
    refine cc.out.mono ?_
    rintro e w8 ⟨A8, c8, rfl, hs8, hb⟩
    clear cc
    replace hp := Lib.hid (hp.out.below hb)
    replace hq := Lib.hid (hq.out.below hb)
    replace hr := Lib.hid (hr.out.below hb)
    replace hB := chain hB hb
    have hu := Lib.hid hs8
    clear hs8 hb
    have cc := D.evalB x hu.out (by have := k3.out; omega)
    rw [ev_mulL] at cc
    replace cc := Lib.hid cc
    go_wp2_with fail
    refine cc.out.mono ?_
    rintro e w9 ⟨rfl, hb⟩
    clear cc
    replace hp := Lib.hid (hp.out.below hb)
    replace hq := Lib.hid (hq.out.below hb)
    replace hr := Lib.hid (hr.out.below hb)
    replace hu := Lib.hid (hu.out.below hb)
    replace hB := chain hB hb
    clear hb
    clear hu
    have cc := D.gmul (ev p x) (ev q x) w9
    replace cc := Lib.hid cc
    go_wp2_with fail
    refine cc.out.mono ?_
    rintro e w10 ⟨rfl, rfl⟩
    clear cc
    have hb := mb w9 (.cells #[bv (ev p x)] 5)
    replace hp := Lib.hid (hp.out.below hb)
    replace hq := Lib.hid (hq.out.below hb)
    replace hr := Lib.hid (hr.out.below hb)
    replace hB := chain hB hb
    clear hb
    have hw := Lib.hid (IsSl.made w9 5 [ev p x] #[bv (ev p x)] (w9.heap.size) 1 rfl rfl rfl (by decide))
    have cc := D.trim hw.out (by simp)
    simp only [List.length_cons, List.length_nil, Nat.reduceAdd] at cc
    replace cc := Lib.hid cc
    go_wp2_with fail
    refine cc.out.mono ?_
    rintro e w11 ⟨A11, c11, rfl, hs11, hb⟩
    clear cc
    replace hp := Lib.hid (hp.out.below hb)
    replace hq := Lib.hid (hq.out.below hb)
    replace hr := Lib.hid (hr.out.below hb)
    replace hw := Lib.hid (hw.out.below hb)
    replace hB := chain hB hb
    have hu := Lib.hid hs11
    clear hs11 hb
    have cc := same_eq hr.out hu.out hrr.out
    replace cc := Lib.hid cc
    go_wp2_with fail
    refine cc.out.mono ?_
    rintro e w12 ⟨rfl, rfl⟩
    clear cc
    have cc := awake_any D w11
    replace cc := Lib.hid cc
    go_wp2_with fail
    refine cc.out.mono ?_
    rintro e w13 ⟨rfl, hb⟩
    clear cc
    replace hp := Lib.hid (hp.out.below hb)
    replace hq := Lib.hid (hq.out.below hb)
    replace hr := Lib.hid (hr.out.below hb)
    replace hw := Lib.hid (hw.out.below hb)
    replace hu := Lib.hid (hu.out.below hb)
    replace hB := chain hB hb
    clear hb
    go_wp2
    go_ret
    exact ⟨rfl, hB⟩
  · have cc := small2 30 (by decide) (w := w) (A1 := a0) (c1 := cap0) (n1 := p.length) (A2 := a1) (c2 := cap1) (n2 := q.length) false (by simp; omega)
    rw [show ((30 : Nat) : Int) = 30 from rfl] at cc
    replace cc := Lib.hid cc
    go_enter Try.func8, Try.ntmps8
    go_wp2_with fail
    refine cc.out.mono ?_
    rintro e w1 ⟨rfl, hb⟩
    clear cc
    have hB := hb
    clear hb
    have cc := awake_any D w1
    replace cc := Lib.hid cc
    go_wp2_with fail
    refine cc.out.mono ?_
    rintro e w2 ⟨rfl, hb⟩
    clear cc
    replace hB := chain hB hb
    clear hb
    go_wp2
    go_ret
    exact ⟨rfl, hB⟩

set_option maxRecDepth 100000 in
set_option maxHeartbeats 4000000 in
theorem walk_productrule (D : Dev) (a0 : Option Addr) (len0 cap0 : Nat) (z0 : List Int) (a1 : Option Addr) (len1 cap1 : Nat) (z1 : List Int) (w : World) (h0 : IsRow .u8 w a0 len0 cap0 z0) (h1 : IsRow .u8 w a1 len1 cap1 z1) :
    Calls Try.prog 9 #[.slice a0 len0 cap0, .slice a1 len1 cap1] w fun e w' => e = .returned (.bool true) ∧ Below w.heap.size w w' := by
  obtain ⟨p, rfl, hhp⟩ := sl_of_row h0
  obtain ⟨q, rfl, hhq⟩ := sl_of_row h1
  have hp := Lib.hid hhp
  have hq := Lib.hid hhq
  by_cases hs : p.length ≤ 30 ∧ q.length ≤ 30
  · obtain ⟨s1, s2⟩ := hs
    clear hhp hhq
    have cc := small2 30 (by decide) (w := w) (A1 := a0) (c1 := cap0) (n1 := p.length) (A2 := a1) (c2 := cap1) (n2 := q.length) true (by simp; omega)
    rw [show ((30 : Nat) : Int) = 30 from rfl] at cc
    replace cc := Lib.hid cc
    go_enter Try.func9, Try.ntmps9
    go_wp2_with fail
    refine cc.out.mono ?_
    rintro e w1 ⟨rfl, hb⟩
    clear cc
    replace hp := Lib.hid (hp.out.below hb)
    replace hq := Lib.hid (hq.out.below hb)
    have hB := hb
    clear hb
    have k1 := Lib.hid (derL_len p)
    have k2 := Lib.hid (derL_len q)
    have k3 := Lib.hid (mulL_len (derL p) q)
    have k4 := Lib.hid (mulL_len p (derL q))
    have k5 := Lib.hid (addL_len p q)
    have k6 := Lib.hid (mulL_len p q)
    have cc := D.der hp.out (by omega)
    replace cc := Lib.hid cc
    go_wp2_with fail
    refine cc.out.mono ?_
    rintro e w2 ⟨A2, c2, rfl, hs2, hb⟩
    clear cc
    replace hp := Lib.hid (hp.out.below hb)
    replace hq := Lib.hid (hq.out.below hb)
    replace hB := chain hB hb
    have ha := Lib.hid hs2
    clear hs2 hb
    have cc := D.der hq.out (by omega)
    replace cc := Lib.hid cc
    go_wp2_with fail
    refine cc.out.mono ?_
    rintro e w3 ⟨A3, c3, rfl, hs3, hb⟩
    clear cc
    replace hp := Lib.hid (hp.out.below hb)
    replace hq := Lib.hid (hq.out.below hb)
    replace ha := Lib.hid (ha.out.below hb)
    replace hB := chain hB hb
    have hb1 := Lib.hid hs3
    clear hs3 hb
    have cc := D.mul ha.out hq.out (by have := k1.out; omega)
    replace cc := Lib.hid cc
    go_wp2_with fail
    refine cc.out.mono ?_
    rintro e w4 ⟨A4, c4, rfl, hs4, hb⟩
    clear cc
    replace hp := Lib.hid (hp.out.below hb)
    replace hq := Lib.hid (hq.out.below hb)
    replace ha := Lib.hid (ha.out.below hb)
    replace hb1 := Lib.hid (hb1.out.below hb)
    replace hB := chain hB hb
    have hu := Lib.hid hs4
    clear hs4 hb
    have cc := D.mul hp.out hb1.out (by have := k2.out; omega)
    replace cc := Lib.hid cc
    go_wp2_with fail
    refine cc.out.mono ?_
    rintro e w5 ⟨A5, c5, rfl, hs5, hb⟩
    clear cc
    replace hp := Lib.hid (hp.out.below hb)
    replace hq := Lib.hid (hq.out.below hb)
    replace ha := Lib.hid (ha.out.below hb)
    replace hb1 := Lib.hid (hb1.out.below hb)
    replace hu := Lib.hid (hu.out.below hb)
    replace hB := chain hB hb
    have hv := Lib.hid hs5
    clear hs5 hb
    have cc := D.add hu.out hv.out (by have := k3.out; have := k1.out; omega) (by have := k4.out; have := k2.out; omega)
    replace cc := Lib.hid cc
    go_wp2_with fail
    refine cc.out.mono ?_
    rintro e w6 ⟨A6, c6, rfl, hs6, hb⟩
    clear cc
    replace hp := Lib.hid (hp.out.below hb)
    replace hq := Lib.hid (hq.out.below hb)
    replace ha := Lib.hid (ha.out.below hb)
    replace hb1 := Lib.hid (hb1.out.below hb)
    replace hu := Lib.hid (hu.out.below hb)
    replace hv := Lib.hid (hv.out.below hb)
    replace hB := chain hB hb
    have ht := Lib.hid hs6
    clear hs6 hb
    clear hu hv
    have cc := D.add hp.out hq.out (by omega) (by omega)
    replace cc := Lib.hid cc
    go_wp2_with fail
    refine cc.out.mono ?_
    rintro e w7 ⟨A7, c7, rfl, hs7, hb⟩
    clear cc
    replace hp := Lib.hid (hp.out.below hb)
    replace hq := Lib.hid (hq.out.below hb)
    replace ha := Lib.hid (ha.out.below hb)
    replace hb1 := Lib.hid (hb1.out.below hb)
    replace ht := Lib.hid (ht.out.below hb)
    replace hB := chain hB hb
    have hu := Lib.hid hs7
    clear hs7 hb
    have cc := D.der hu.out (by have := k5.out; omega)
    replace cc := Lib.hid cc
    go_wp2_with fail
    refine cc.out.mono ?_
    rintro e w8 ⟨A8, c8, rfl, hs8, hb⟩
    clear cc
    replace hp := Lib.hid (hp.out.below hb)
    replace hq := Lib.hid (hq.out.below hb)
    replace ha := Lib.hid (ha.out.below hb)
    replace hb1 := Lib.hid (hb1.out.below hb)
    replace ht := Lib.hid (ht.out.below hb)
    replace hu := Lib.hid (hu.out.below hb)
    replace hB := chain hB hb
    have hv := Lib.hid hs8
    clear hs8 hb
    clear hu
    have cc := D.add ha.out hb1.out (by have := k1.out; omega) (by have := k2.out; omega)
    replace cc := Lib.hid cc
    go_wp2_with fail
    refine cc.out.mono ?_
    rintro e w9 ⟨A9, c9, rfl, hs9, hb⟩
    clear cc
    replace hp := Lib.hid (hp.out.below hb)
    replace hq := Lib.hid (hq.out.below hb)
    replace ha := Lib.hid (ha.out.below hb)
    replace hb1 := Lib.hid (hb1.out.below hb)
    replace ht := Lib.hid (ht.out.below hb)
    replace hv := Lib.hid (hv.out.below hb)
    replace hB := chain hB hb
    have hu := Lib.hid hs9
    clear hs9 hb
    have cc := same_eq hv.out hu.out (derL_addL p q (by omega) (by omega))
    replace cc := Lib.hid cc
    go_wp2_with fail
    refine cc.out.mono ?_
    rintro e w10 ⟨rfl, rfl⟩
    clear cc
    clear hu hv
    have cc := D.mul hp.out hq.out (by omega)
    replace cc := Lib.hid cc
    go_wp2_with fail
    refine cc.out.mono ?_
    rintro e w11 ⟨A11, c11, rfl, hs11, hb⟩
    clear cc
    replace hp := Lib.hid (hp.out.below hb)
    replace hq := Lib.hid (hq.out.below hb)
    replace ha := Lib.hid (ha.out.below hb)
    replace hb1 := Lib.hid (hb1.out.below hb)
    replace ht := Lib.hid (ht.out.below hb)
    replace hB := chain hB hb
    have hu := Lib.hid hs11
    clear hs11 hb
    have cc := D.der hu.out (by have := k6.out; omega)
    replace cc := Lib.hid cc
    go_wp2_with fail
    refine cc.out.mono ?_
    rintro e w12 ⟨A12, c12, rfl, hs12, hb⟩
    clear cc
    replace hp := Lib.hid (hp.out.below hb)
    replace hq := Lib.hid (hq.out.below hb)
    replace ha := Lib.hid (ha.out.below hb)
    replace hb1 := Lib.hid (hb1.out.below hb)
    replace ht := Lib.hid (ht.out.below hb)
    replace hu := Lib.hid (hu.out.below hb)
    replace hB := chain hB hb
    have hv := Lib.hid hs12
    clear hs12 hb
    clear hu
    have cc := same_eq hv.out ht.out (derL_mulL p q (by omega) (by omega))
    replace cc := Lib.hid cc
    go_wp2_with fail
    refine cc.out.mono ?_
    rintro e w13 ⟨rfl, rfl⟩
    clear cc
    have cc := awake_any D w12
    replace cc := Lib.hid cc
    go_wp2_with fail
    refine cc.out.mono ?_
    rintro e w14 ⟨rfl, hb⟩
    clear cc
    replace hp := Lib.hid (hp.out.below hb)
    replace hq := Lib.hid (hq.out.below hb)
    replace ha := Lib.hid (ha.out.below hb)
    replace hb1 := Lib.hid (hb1.out.below hb)
    replace ht := Lib.hid (ht.out.below hb)
    replace hv := Lib.hid (hv.out.below hb)
    replace hB := chain hB hb
    clear hb
    go_wp2
    go_ret
    exact ⟨rfl, hB⟩
  · have cc := small2 30 (by decide) (w := w) (A1 := a0) (c1 := cap0) (n1 := p.length) (A2 := a1) (c2 := cap1) (n2 := q.length) false (by simp; omega)
    rw [show ((30 : Nat) : Int) = 30 from rfl] at cc
    replace cc := Lib.hid cc
    go_enter Try.func9, Try.ntmps9
    go_wp2_with fail
    refine cc.out.mono ?_
    rintro e w1 ⟨rfl, hb⟩
    clear cc
    have hB := hb
    clear hb
    have cc := awake_any D w1
    replace cc := Lib.hid cc
    go_wp2_with fail
    refine cc.out.mono ?_
    rintro e w2 ⟨rfl, hb⟩
    clear cc
    replace hB := chain hB hb
    clear hb
    go_wp2
    go_ret
    exact ⟨rfl, hB⟩
end Go.Proofs.Ytdinngcfjjajeaa.G6
