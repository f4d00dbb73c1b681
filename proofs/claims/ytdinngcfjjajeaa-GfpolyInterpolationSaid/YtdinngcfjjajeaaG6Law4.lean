/- The walk of the law GfpolyInterpolation, under the package's contracts. -/
import Derived.Test.YtdinngcfjjajeaaG6Ref4
import Derived.Test.YtdinngcfjjajeaaG6Law1
namespace Go.Proofs.Ytdinngcfjjajeaa.G6
open Go.Proofs.Ytdinngcfjjajeaa.G5
open Go.RowKit Mem
set_option linter.unusedVariables false
set_option linter.unusedSimpArgs false


theorem rit2_any {A B : Option Addr} {c d : Nat} {xl yl : List R} {w : World} (h : IsSl w A c xl) (h' : IsSl w B d yl) (hx : xl.length ≤ 20) (he : xl.length = yl.length) (hn : ¬ xl.Nodup) :
    Calls Try.prog 28 #[.slice A xl.length c, .slice B yl.length d] w (ItpNo 8 w) :=
  (ritp_any h h' hx he.symm).mono fun e w' H => H.elim (fun H => H.2) (fun H => absurd H.1 hn)
theorem rit3_any {A B : Option Addr} {c d : Nat} {xl yl : List R} {w : World} (h : IsSl w A c xl) (h' : IsSl w B d yl) (hx : xl.length ≤ 20) (he : xl.length = yl.length) (hn : xl.Nodup) :
    Calls Try.prog 28 #[.slice A xl.length c, .slice B yl.length d] w (ItpYes xl yl w) :=
  (ritp_any h h' hx he.symm).mono fun e w' H => H.elim (fun H => absurd hn H.1) (fun H => H.2)

set_option maxRecDepth 100000 in
set_option maxHeartbeats 4000000 in
theorem walk_interpolation (D : Dev) (a0 : Option Addr) (len0 cap0 : Nat) (z0 : List Int) (a1 : Option Addr) (len1 cap1 : Nat) (z1 : List Int) (w : World) (h0 : IsRow .u8 w a0 len0 cap0 z0) (h1 : IsRow .u8 w a1 len1 cap1 z1) :
    Calls Try.prog 5 #[.slice a0 len0 cap0, .slice a1 len1 cap1] w fun e w' => e = .returned (.bool true) ∧ Below w.heap.size w w' := by
  obtain ⟨p, rfl, hhp⟩ := sl_of_row h0
  obtain ⟨q, rfl, hhq⟩ := sl_of_row h1
  have hp := Lib.hid hhp
  have hq := Lib.hid hhq
  by_cases hs : p.length ≤ 12 ∧ q.length ≤ 12
  · obtain ⟨s1, s2⟩ := hs
    clear hhp hhq
    by_cases hne : p.length = q.length
    · by_cases hnd : p.Nodup
      · replace hnd := Lib.hid hnd
        replace hne := Lib.hid hne
        have cc := small2 12 (by decide) (w := w) (A1 := a0) (c1 := cap0) (n1 := p.length) (A2 := a1) (c2 := cap1) (n2 := q.length) true (by simp; omega)
        rw [show ((12 : Nat) : Int) = 12 from rfl] at cc
        replace cc := Lib.hid cc
        go_enter Try.func5, Try.ntmps5
        go_wp2_with fail
        refine cc.out.mono ?_
        rintro e w1 ⟨rfl, hb⟩
        clear cc
        replace hp := Lib.hid (hp.out.below hb)
        replace hq := Lib.hid (hq.out.below hb)
        have hB := hb
        clear hb
        have cc := D.itp3 hp.out hq.out (by omega) (by omega) hne.out hnd.out
        replace cc := Lib.hid cc
        go_wp2_with fail
        refine cc.out.mono ?_
        rintro e w2 ⟨l, A2, c2, hi2, rfl, hs2, hb⟩
        clear cc
        replace hp := Lib.hid (hp.out.below hb)
        replace hq := Lib.hid (hq.out.below hb)
        replace hB := chain hB hb
        have ha := Lib.hid hs2
        have hi := Lib.hid hi2
        clear hs2 hb hi2
        have cc := rit3_any hp.out hq.out (by omega) hne.out hnd.out
        replace cc := Lib.hid cc
        go_wp2_with fail
        refine cc.out.mono ?_
        rintro e w3 ⟨m, A3, c3, hi3, rfl, hs3, hb⟩
        clear cc
        replace hp := Lib.hid (hp.out.below hb)
        replace hq := Lib.hid (hq.out.below hb)
        replace ha := Lib.hid (ha.out.below hb)
        replace hB := chain hB hb
        have hc := Lib.hid hs3
        have hj := Lib.hid hi3
        clear hs3 hb hi3
        obtain rfl := hi.out.only hnd.out hj.out
        have cc := same_eq ha.out hc.out rfl
        replace cc := Lib.hid cc
        go_wp2_with fail
        refine cc.out.mono ?_
        rintro e w4 ⟨rfl, rfl⟩
        clear cc
        have cc := awake_any D w3
        replace cc := Lib.hid cc
        go_wp2_with fail
        refine cc.out.mono ?_
        rintro e w5 ⟨rfl, hb⟩
        clear cc
        replace hp := Lib.hid (hp.out.below hb)
        replace hq := Lib.hid (hq.out.below hb)
        replace ha := Lib.hid (ha.out.below hb)
        replace hc := Lib.hid (hc.out.below hb)
        replace hB := chain hB hb
        clear hb
        go_wp2
        go_ret
        exact ⟨rfl, hB⟩
      · replace hnd := Lib.hid hnd
        replace hne := Lib.hid hne
        have cc := small2 12 (by decide) (w := w) (A1 := a0) (c1 := cap0) (n1 := p.length) (A2 := a1) (c2 := cap1) (n2 := q.length) true (by simp; omega)
        rw [show ((12 : Nat) : Int) = 12 from rfl] at cc
        replace cc := Lib.hid cc
        go_enter Try.func5, Try.ntmps5
        go_wp2_with fail
        refine cc.out.mono ?_
        rintro e w1 ⟨rfl, hb⟩
        clear cc
        replace hp := Lib.hid (hp.out.below hb)
        replace hq := Lib.hid (hq.out.below hb)
        have hB := hb
        clear hb
        have cc := D.itp2 hp.out hq.out (by omega) (by omega) hne.out hnd.out
        replace cc := Lib.hid cc
        go_wp2_with fail
        refine cc.out.mono ?_
        rintro e w2 ⟨A2, c2, rfl, hs2, hb⟩
        clear cc
        replace hp := Lib.hid (hp.out.below hb)
        replace hq := Lib.hid (hq.out.below hb)
        replace hB := chain hB hb
        have ha := Lib.hid hs2
        clear hs2 hb
        have cc := rit2_any hp.out hq.out (by omega) hne.out hnd.out
        replace cc := Lib.hid cc
        go_wp2_with fail
        refine cc.out.mono ?_
        rintro e w3 ⟨A3, c3, rfl, hs3, hb⟩
        clear cc
        replace hp := Lib.hid (hp.out.below hb)
        replace hq := Lib.hid (hq.out.below hb)
        replace ha := Lib.hid (ha.out.below hb)
        replace hB := chain hB hb
        have hc := Lib.hid hs3
        clear hs3 hb
        have cc := same_eq ha.out hc.out rfl
        simp only [List.length_cons, List.length_nil, Nat.reduceAdd] at cc
        replace cc := Lib.hid cc
        go_wp2_with fail
        refine cc.out.mono ?_
        rintro e w4 ⟨rfl, rfl⟩
        clear cc
        have cc := awake_any D w3
        replace cc := Lib.hid cc
        go_wp2_with fail
        refine cc.out.mono ?_
        rintro e w5 ⟨rfl, hb⟩
        clear cc
        replace hp := Lib.hid (hp.out.below hb)
        replace hq := Lib.hid (hq.out.below hb)
        replace ha := Lib.hid (ha.out.below hb)
        replace hc := Lib.hid (hc.out.below hb)
        replace hB := chain hB hb
        clear hb
        go_wp2
        go_ret
        exact ⟨rfl, hB⟩
    · replace hne := Lib.hid hne
      have cc := small2 12 (by decide) (w := w) (A1 := a0) (c1 := cap0) (n1 := p.length) (A2 := a1) (c2 := cap1) (n2 := q.length) true (by simp; omega)
      rw [show ((12 : Nat) : Int) = 12 from rfl] at cc
      replace cc := Lib.hid cc
      go_enter Try.func5, Try.ntmps5
      go_wp2_with fail
      refine cc.out.mono ?_
      rintro e w1 ⟨rfl, hb⟩
      clear cc
      replace hp := Lib.hid (hp.out.below hb)
      replace hq := Lib.hid (hq.out.below hb)
      have hB := hb
      clear hb
      have cc := D.itp1 hp.out hq.out (by omega) (by omega) hne.out
      replace cc := Lib.hid cc
      go_wp2_with fail
      refine cc.out.mono ?_
      rintro e w2 ⟨A2, c2, rfl, hs2, hb⟩
      clear cc
      replace hp := Lib.hid (hp.out.below hb)
      replace hq := Lib.hid (hq.out.below hb)
      replace hB := chain hB hb
      have ha := Lib.hid hs2
      clear hs2 hb
      have cc := rit1_any (A := a0) (B := a1) (c := cap0) (d := cap1) (w := w2) hne.out
      replace cc := Lib.hid cc
      go_wp2_with fail
      refine cc.out.mono ?_
      rintro e w3 ⟨A3, c3, rfl, hs3, hb⟩
      clear cc
      replace hp := Lib.hid (hp.out.below hb)
      replace hq := Lib.hid (hq.out.below hb)
      replace ha := Lib.hid (ha.out.below hb)
      replace hB := chain hB hb
      have hc := Lib.hid hs3
      clear hs3 hb
      have cc := same_eq ha.out hc.out rfl
      simp only [List.length_cons, List.length_nil, Nat.reduceAdd] at cc
      replace cc := Lib.hid cc
      go_wp2_with fail
      refine cc.out.mono ?_
      rintro e w4 ⟨rfl, rfl⟩
      clear cc
      have cc := awake_any D w3
      replace cc := Lib.hid cc
      go_wp2_with fail
      refine cc.out.mono ?_
      rintro e w5 ⟨rfl, hb⟩
      clear cc
      replace hp := Lib.hid (hp.out.below hb)
      replace hq := Lib.hid (hq.out.below hb)
      replace ha := Lib.hid (ha.out.below hb)
      replace hc := Lib.hid (hc.out.below hb)
      replace hB := chain hB hb
      clear hb
      go_wp2
      go_ret
      exact ⟨rfl, hB⟩
  · have cc := small2 12 (by decide) (w := w) (A1 := a0) (c1 := cap0) (n1 := p.length) (A2 := a1) (c2 := cap1) (n2 := q.length) false (by simp; omega)
    rw [show ((12 : Nat) : Int) = 12 from rfl] at cc
    replace cc := Lib.hid cc
    go_enter Try.func5, Try.ntmps5
    go_wp2_with fail
    refine cc.out.mono ?_
    rintro e w1 ⟨rfl, hb⟩
    clear cc
    have hB := hb
    clear hb
    have cc := awake_any D w1
    replace cc := Lib.hid cc
    go_wp2_with fail
    refine cc.out.mono ?_
    rintro e w2 ⟨rfl, hb⟩
    clear cc
    replace hB := chain hB hb
    clear hb
    go_wp2
    go_ret
    exact ⟨rfl, hB⟩
end Go.Proofs.Ytdinngcfjjajeaa.G6
