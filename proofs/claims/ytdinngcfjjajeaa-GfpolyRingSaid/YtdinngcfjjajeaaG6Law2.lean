/- The walk of the law GfpolyRing, under the package's contracts. -/
import Derived.Test.YtdinngcfjjajeaaG6Law1
namespace Go.Proofs.Ytdinngcfjjajeaa.G6
open Go.Proofs.Ytdinngcfjjajeaa.G5
open Go.RowKit Mem
set_option linter.unusedVariables false
set_option linter.unusedSimpArgs false


set_option maxRecDepth 100000 in
set_option maxHeartbeats 8000000 in
theorem walk_ring (D : Dev) (a0 : Option Addr) (len0 cap0 : Nat) (z0 : List Int) (a1 : Option Addr) (len1 cap1 : Nat) (z1 : List Int) (a2 : Option Addr) (len2 cap2 : Nat) (z2 : List Int) (w : World) (h0 : IsRow .u8 w a0 len0 cap0 z0) (h1 : IsRow .u8 w a1 len1 cap1 z1) (h2 : IsRow .u8 w a2 len2 cap2 z2) :
    Calls Try.prog 6 #[.slice a0 len0 cap0, .slice a1 len1 cap1, .slice a2 len2 cap2] w fun e w' => e = .returned (.bool true) ∧ Below w.heap.size w w' := by
  obtain ⟨p, rfl, hhp⟩ := sl_of_row h0
  obtain ⟨q, rfl, hhq⟩ := sl_of_row h1
  obtain ⟨r, rfl, hhr⟩ := sl_of_row h2
  have hp := Lib.hid hhp
  have hq := Lib.hid hhq
  have hr := Lib.hid hhr
  by_cases hs : p.length ≤ 20 ∧ q.length ≤ 20 ∧ r.length ≤ 20
  · obtain ⟨s1, s2, s3⟩ := hs
    clear hhp hhq hhr
    have cc := small3 20 (by decide) (w := w) (A1 := a0) (c1 := cap0) (n1 := p.length) (A2 := a1) (c2 := cap1) (n2 := q.length) (A3 := a2) (c3 := cap2) (n3 := r.length) true (by simp; omega)
    rw [show ((20 : Nat) : Int) = 20 from rfl] at cc
    replace cc := Lib.hid cc
    go_enter Try.func6, Try.ntmps6
    go_wp2_with fail
    refine cc.out.mono ?_
    rintro e w1 ⟨rfl, hb⟩
    clear cc
    replace hp := Lib.hid (hp.out.below hb)
    replace hq := Lib.hid (hq.out.below hb)
    replace hr := Lib.hid (hr.out.below hb)
    have hB := hb
    clear hb
    have k1 := Lib.hid (addL_len p q)
    have k2 := Lib.hid (addL_len q r)
    have k3 := Lib.hid (mulL_len p q)
    have k4 := Lib.hid (mulL_len q r)
    have k5 := Lib.hid (mulL_len p r)
    have cc := D.add hp.out hq.out (by omega) (by omega)
    replace cc := Lib.hid cc
    go_wp2_with fail
    refine cc.out.mono ?_
    rintro e w2 ⟨A2, c2, rfl, hs2, hb⟩
    clear cc
    replace hp := Lib.hid (hp.out.below hb)
    replace hq := Lib.hid (hq.out.below hb)
    replace hr := Lib.hid (hr.out.below hb)
    replace hB := chain hB hb
    have hu := Lib.hid hs2
    clear hs2 hb
    have cc := D.add hq.out hp.out (by omega) (by omega)
    replace cc := Lib.hid cc
    go_wp2_with fail
    refine cc.out.mono ?_
    rintro e w3 ⟨A3, c3, rfl, hs3, hb⟩
    clear cc
    replace hp := Lib.hid (hp.out.below hb)
    replace hq := Lib.hid (hq.out.below hb)
    replace hr := Lib.hid (hr.out.below hb)
    replace hu := Lib.hid (hu.out.below hb)
    replace hB := chain hB hb
    have hv := Lib.hid hs3
    clear hs3 hb
    have cc := same_eq hu.out hv.out (addL_comm p q (by omega) (by omega))
    replace cc := Lib.hid cc
    go_wp2_with fail
    refine cc.out.mono ?_
    rintro e w4 ⟨rfl, rfl⟩
    clear cc
    clear hu hv
    have cc := D.add hp.out hq.out (by omega) (by omega)
    replace cc := Lib.hid cc
    go_wp2_with fail
    refine cc.out.mono ?_
    rintro e w5 ⟨A5, c5, rfl, hs5, hb⟩
    clear cc
    replace hp := Lib.hid (hp.out.below hb)
    replace hq := Lib.hid (hq.out.below hb)
    replace hr := Lib.hid (hr.out.below hb)
    replace hB := chain hB hb
    have hu := Lib.hid hs5
    clear hs5 hb
    have cc := D.add hu.out hr.out (by have := k1.out; omega) (by omega)
    replace cc := Lib.hid cc
    go_wp2_with fail
    refine cc.out.mono ?_
    rintro e w6 ⟨A6, c6, rfl, hs6, hb⟩
    clear cc
    replace hp := Lib.hid (hp.out.below hb)
    replace hq := Lib.hid (hq.out.below hb)
    replace hr := Lib.hid (hr.out.below hb)
    replace hu := Lib.hid (hu.out.below hb)
    replace hB := chain hB hb
    have ht := Lib.hid hs6
    clear hs6 hb
    clear hu
    have cc := D.add hq.out hr.out (by omega) (by omega)
    replace cc := Lib.hid cc
    go_wp2_with fail
    refine cc.out.mono ?_
    rintro e w7 ⟨A7, c7, rfl, hs7, hb⟩
    clear cc
    replace hp := Lib.hid (hp.out.below hb)
    replace hq := Lib.hid (hq.out.below hb)
    replace hr := Lib.hid (hr.out.below hb)
    replace ht := Lib.hid (ht.out.below hb)
    replace hB := chain hB hb
    have hu := Lib.hid hs7
    clear hs7 hb
    have cc := D.add hp.out hu.out (by omega) (by have := k2.out; omega)
    replace cc := Lib.hid cc
    go_wp2_with fail
    refine cc.out.mono ?_
    rintro e w8 ⟨A8, c8, rfl, hs8, hb⟩
    clear cc
    replace hp := Lib.hid (hp.out.below hb)
    replace hq := Lib.hid (hq.out.below hb)
    replace hr := Lib.hid (hr.out.below hb)
    replace ht := Lib.hid (ht.out.below hb)
    replace hu := Lib.hid (hu.out.below hb)
    replace hB := chain hB hb
    have hv := Lib.hid hs8
    clear hs8 hb
    clear hu
    have cc := same_eq ht.out hv.out (addL_assoc p q r (by omega) (by omega) (by omega))
    replace cc := Lib.hid cc
    go_wp2_with fail
    refine cc.out.mono ?_
    rintro e w9 ⟨rfl, rfl⟩
    clear cc
    clear ht hv
    have cc := D.add hp.out hp.out (by omega) (by omega)
    rw [addL_self] at cc
    replace cc := Lib.hid cc
    go_wp2_with fail
    refine cc.out.mono ?_
    rintro e w10 ⟨A10, c10, rfl, hs10, hb⟩
    clear cc hs10
    replace hp := Lib.hid (hp.out.below hb)
    replace hq := Lib.hid (hq.out.below hb)
    replace hr := Lib.hid (hr.out.below hb)
    replace hB := chain hB hb
    clear hb
    have cc := D.mul hp.out hq.out (by omega)
    replace cc := Lib.hid cc
    go_wp2_with fail
    refine cc.out.mono ?_
    rintro e w11 ⟨A11, c11, rfl, hs11, hb⟩
    clear cc
    replace hp := Lib.hid (hp.out.below hb)
    replace hq := Lib.hid (hq.out.below hb)
    replace hr := Lib.hid (hr.out.below hb)
    replace hB := chain hB hb
    have hu := Lib.hid hs11
    clear hs11 hb
    have cc := D.mul hq.out hp.out (by omega)
    replace cc := Lib.hid cc
    go_wp2_with fail
    refine cc.out.mono ?_
    rintro e w12 ⟨A12, c12, rfl, hs12, hb⟩
    clear cc
    replace hp := Lib.hid (hp.out.below hb)
    replace hq := Lib.hid (hq.out.below hb)
    replace hr := Lib.hid (hr.out.below hb)
    replace hu := Lib.hid (hu.out.below hb)
    replace hB := chain hB hb
    have hv := Lib.hid hs12
    clear hs12 hb
    have cc := same_eq hu.out hv.out (mulL_comm p q (by omega))
    replace cc := Lib.hid cc
    go_wp2_with fail
    refine cc.out.mono ?_
    rintro e w13 ⟨rfl, rfl⟩
    clear cc
    clear hu hv
    have cc := D.mul hp.out hq.out (by omega)
    replace cc := Lib.hid cc
    go_wp2_with fail
    refine cc.out.mono ?_
    rintro e w14 ⟨A14, c14, rfl, hs14, hb⟩
    clear cc
    replace hp := Lib.hid (hp.out.below hb)
    replace hq := Lib.hid (hq.out.below hb)
    replace hr := Lib.hid (hr.out.below hb)
    replace hB := chain hB hb
    have hu := Lib.hid hs14
    clear hs14 hb
    have cc := D.mul hu.out hr.out (by have := k3.out; omega)
    replace cc := Lib.hid cc
    go_wp2_with fail
    refine cc.out.mono ?_
    rintro e w15 ⟨A15, c15, rfl, hs15, hb⟩
    clear cc
    replace hp := Lib.hid (hp.out.below hb)
    replace hq := Lib.hid (hq.out.below hb)
    replace hr := Lib.hid (hr.out.below hb)
    replace hu := Lib.hid (hu.out.below hb)
    replace hB := chain hB hb
    have ht := Lib.hid hs15
    clear hs15 hb
    clear hu
    have cc := D.mul hq.out hr.out (by omega)
    replace cc := Lib.hid cc
    go_wp2_with fail
    refine cc.out.mono ?_
    rintro e w16 ⟨A16, c16, rfl, hs16, hb⟩
    clear cc
    replace hp := Lib.hid (hp.out.below hb)
    replace hq := Lib.hid (hq.out.below hb)
    replace hr := Lib.hid (hr.out.below hb)
    replace ht := Lib.hid (ht.out.below hb)
    replace hB := chain hB hb
    have hu := Lib.hid hs16
    clear hs16 hb
    have cc := D.mul hp.out hu.out (by have := k4.out; omega)
    replace cc := Lib.hid cc
    go_wp2_with fail
    refine cc.out.mono ?_
    rintro e w17 ⟨A17, c17, rfl, hs17, hb⟩
    clear cc
    replace hp := Lib.hid (hp.out.below hb)
    replace hq := Lib.hid (hq.out.below hb)
    replace hr := Lib.hid (hr.out.below hb)
    replace ht := Lib.hid (ht.out.below hb)
    replace hu := Lib.hid (hu.out.below hb)
    replace hB := chain hB hb
    have hv := Lib.hid hs17
    clear hs17 hb
    clear hu
    have cc := same_eq ht.out hv.out (mulL_assoc p q r (by omega))
    replace cc := Lib.hid cc
    go_wp2_with fail
    refine cc.out.mono ?_
    rintro e w18 ⟨rfl, rfl⟩
    clear cc
    clear ht hv
    have hb := mb w17 (.cells #[.int .u8 1] 5)
    replace hp := Lib.hid (hp.out.below hb)
    replace hq := Lib.hid (hq.out.below hb)
    replace hr := Lib.hid (hr.out.below hb)
    replace hB := chain hB hb
    clear hb
    have hw := Lib.hid (IsSl.made w17 5 [1#8] #[.int .u8 1] (w17.heap.size) 1 rfl rfl rfl (by decide))
    have cc := D.mul hp.out hw.out (by simp; omega)
    simp only [List.length_cons, List.length_nil, Nat.reduceAdd] at cc
    replace cc := Lib.hid cc
    go_wp2_with fail
    refine cc.out.mono ?_
    rintro e w19 ⟨A19, c19, rfl, hs19, hb⟩
    clear cc
    replace hp := Lib.hid (hp.out.below hb)
    replace hq := Lib.hid (hq.out.below hb)
    replace hr := Lib.hid (hr.out.below hb)
    replace hw := Lib.hid (hw.out.below hb)
    replace hB := chain hB hb
    have hu := Lib.hid hs19
    clear hs19 hb
    clear hw
    have cc := D.trim hp.out (by omega)
    replace cc := Lib.hid cc
    go_wp2_with fail
    refine cc.out.mono ?_
    rintro e w20 ⟨A20, c20, rfl, hs20, hb⟩
    clear cc
    replace hp := Lib.hid (hp.out.below hb)
    replace hq := Lib.hid (hq.out.below hb)
    replace hr := Lib.hid (hr.out.below hb)
    replace hu := Lib.hid (hu.out.below hb)
    replace hB := chain hB hb
    have hv := Lib.hid hs20
    clear hs20 hb
    have cc := same_eq hu.out hv.out (mulL_one p (by omega))
    replace cc := Lib.hid cc
    go_wp2_with fail
    refine cc.out.mono ?_
    rintro e w21 ⟨rfl, rfl⟩
    clear cc
    clear hu hv
    have cc := D.add hq.out hr.out (by omega) (by omega)
    replace cc := Lib.hid cc
    go_wp2_with fail
    refine cc.out.mono ?_
    rintro e w22 ⟨A22, c22, rfl, hs22, hb⟩
    clear cc
    replace hp := Lib.hid (hp.out.below hb)
    replace hq := Lib.hid (hq.out.below hb)
    replace hr := Lib.hid (hr.out.below hb)
    replace hB := chain hB hb
    have hu := Lib.hid hs22
    clear hs22 hb
    have cc := D.mul hp.out hu.out (by have := k2.out; omega)
    replace cc := Lib.hid cc
    go_wp2_with fail
    refine cc.out.mono ?_
    rintro e w23 ⟨A23, c23, rfl, hs23, hb⟩
    clear cc
    replace hp := Lib.hid (hp.out.below hb)
    replace hq := Lib.hid (hq.out.below hb)
    replace hr := Lib.hid (hr.out.below hb)
    replace hu := Lib.hid (hu.out.below hb)
    replace hB := chain hB hb
    have ht := Lib.hid hs23
    clear hs23 hb
    clear hu
    have cc := D.mul hp.out hq.out (by omega)
    replace cc := Lib.hid cc
    go_wp2_with fail
    refine cc.out.mono ?_
    rintro e w24 ⟨A24, c24, rfl, hs24, hb⟩
    clear cc
    replace hp := Lib.hid (hp.out.below hb)
    replace hq := Lib.hid (hq.out.below hb)
    replace hr := Lib.hid (hr.out.below hb)
    replace ht := Lib.hid (ht.out.below hb)
    replace hB := chain hB hb
    have hu := Lib.hid hs24
    clear hs24 hb
    have cc := D.mul hp.out hr.out (by omega)
    replace cc := Lib.hid cc
    go_wp2_with fail
    refine cc.out.mono ?_
    rintro e w25 ⟨A25, c25, rfl, hs25, hb⟩
    clear cc
    replace hp := Lib.hid (hp.out.below hb)
    replace hq := Lib.hid (hq.out.below hb)
    replace hr := Lib.hid (hr.out.below hb)
    replace ht := Lib.hid (ht.out.below hb)
    replace hu := Lib.hid (hu.out.below hb)
    replace hB := chain hB hb
    have hv := Lib.hid hs25
    clear hs25 hb
    have cc := D.add hu.out hv.out (by have := k3.out; omega) (by have := k5.out; omega)
    replace cc := Lib.hid cc
    go_wp2_with fail
    refine cc.out.mono ?_
    rintro e w26 ⟨A26, c26, rfl, hs26, hb⟩
    clear cc
    replace hp := Lib.hid (hp.out.below hb)
    replace hq := Lib.hid (hq.out.below hb)
    replace hr := Lib.hid (hr.out.below hb)
    replace ht := Lib.hid (ht.out.below hb)
    replace hu := Lib.hid (hu.out.below hb)
    replace hv := Lib.hid (hv.out.below hb)
    replace hB := chain hB hb
    have hw := Lib.hid hs26
    clear hs26 hb
    clear hu hv
    have cc := same_eq ht.out hw.out (mulL_addL p q r (by omega) (by omega) (by omega))
    replace cc := Lib.hid cc
    go_wp2_with fail
    refine cc.out.mono ?_
    rintro e w27 ⟨rfl, rfl⟩
    clear cc
    have cc := awake_any D w26
    replace cc := Lib.hid cc
    go_wp2_with fail
    refine cc.out.mono ?_
    rintro e w28 ⟨rfl, hb⟩
    clear cc
    replace hp := Lib.hid (hp.out.below hb)
    replace hq := Lib.hid (hq.out.below hb)
    replace hr := Lib.hid (hr.out.below hb)
    replace ht := Lib.hid (ht.out.below hb)
    replace hw := Lib.hid (hw.out.below hb)
    replace hB := chain hB hb
    clear hb
    go_wp2
    go_ret
    exact ⟨rfl, hB⟩
  · have cc := small3 20 (by decide) (w := w) (A1 := a0) (c1 := cap0) (n1 := p.length) (A2 := a1) (c2 := cap1) (n2 := q.length) (A3 := a2) (c3 := cap2) (n3 := r.length) false (by simp; omega)
    rw [show ((20 : Nat) : Int) = 20 from rfl] at cc
    replace cc := Lib.hid cc
    go_enter Try.func6, Try.ntmps6
    go_wp2_with fail
    refine cc.out.mono ?_
    rintro e w1 ⟨rfl, hb⟩
    clear cc
    have hB := hb
    clear hb
    have cc := awake_any D w1
    replace cc := Lib.hid cc
    go_wp2_with fail
    refine cc.out.mono ?_
    rintro e w2 ⟨rfl, hb⟩
    clear cc
    replace hB := chain hB hb
    clear hb
    go_wp2
    go_ret
    exact ⟨rfl, hB⟩
end Go.Proofs.Ytdinngcfjjajeaa.G6
