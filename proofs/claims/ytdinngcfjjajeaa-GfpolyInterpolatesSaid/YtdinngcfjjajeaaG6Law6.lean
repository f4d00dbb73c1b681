/- The walk of the law GfpolyInterpolates, under the package's contracts. -/
import Derived.Test.YtdinngcfjjajeaaG6Lag
import Derived.Test.YtdinngcfjjajeaaG6Law1
namespace Go.Proofs.Ytdinngcfjjajeaa.G6
open Go.Proofs.Ytdinngcfjjajeaa.G5
open Go.RowKit Mem
set_option linter.unusedVariables false
set_option linter.unusedSimpArgs false


set_option maxRecDepth 100000 in
set_option maxHeartbeats 8000000 in
theorem walk_interpolates (D : Dev) (a0 : Option Addr) (len0 cap0 : Nat) (z0 : List Int) (a1 : Option Addr) (len1 cap1 : Nat) (z1 : List Int) (a2 : Option Addr) (len2 cap2 : Nat) (z2 : List Int) (w : World) (h0 : IsRow .u8 w a0 len0 cap0 z0) (h1 : IsRow .u8 w a1 len1 cap1 z1) (h2 : IsRow .u8 w a2 len2 cap2 z2) :
    Calls Try.prog 10 #[.slice a0 len0 cap0, .slice a1 len1 cap1, .slice a2 len2 cap2] w fun e w' => e = .returned (.bool true) ∧ Below w.heap.size w w' := by
  obtain ⟨u, rfl, hhu⟩ := sl_of_row h0
  obtain ⟨v, rfl, hhv⟩ := sl_of_row h1
  obtain ⟨p, rfl, hhp⟩ := sl_of_row h2
  have hu := Lib.hid hhu
  have hv := Lib.hid hhv
  have hp := Lib.hid hhp
  by_cases hs : u.length ≤ 16 ∧ v.length ≤ 16 ∧ p.length ≤ 16
  · obtain ⟨s1, s2, s3⟩ := hs
    clear hhu hhv hhp
    by_cases hne : u.length = v.length
    · by_cases hnd : u.Nodup
      · replace hnd := Lib.hid hnd
        obtain ⟨i0, hi0, hz0, hz1, hz2⟩ := info_parts info_byte
        obtain ⟨n, hn⟩ : ∃ n, u.length = n := ⟨_, rfl⟩
        have hnv : v.length = n := hne.symm.trans hn
        have hn16 : n ≤ 16 := by omega
        have hnh := Lib.hid hn
        have hnvh := Lib.hid hnv
        clear hne hn hnv
        have cc := small3 16 (by decide) (w := w) (A1 := a0) (c1 := cap0) (n1 := u.length) (A2 := a1) (c2 := cap1) (n2 := v.length) (A3 := a2) (c3 := cap2) (n3 := p.length) true (by simp; omega)
        rw [show ((16 : Nat) : Int) = 16 from rfl] at cc
        replace cc := Lib.hid cc
        go_enter Try.func10, Try.ntmps10
        go_wp2_with fail
        refine cc.out.mono ?_
        rintro e w1 ⟨rfl, hb⟩
        clear cc
        replace hu := Lib.hid (hu.out.below hb)
        replace hv := Lib.hid (hv.out.below hb)
        replace hp := Lib.hid (hp.out.below hb)
        have hB := hb
        clear hb
        have cc := D.itp3 hu.out hv.out (by omega) (by omega) (hnh.out.trans hnvh.out.symm) hnd.out
        replace cc := Lib.hid cc
        go_wp2_with fail
        refine cc.out.mono ?_
        rintro e w2 ⟨l, A2, c2, hi2, rfl, hs2, hb⟩
        clear cc
        replace hu := Lib.hid (hu.out.below hb)
        replace hv := Lib.hid (hv.out.below hb)
        replace hp := Lib.hid (hp.out.below hb)
        replace hB := chain hB hb
        have hl := Lib.hid hs2
        have hi := Lib.hid hi2
        clear hs2 hb hi2
        have hl0 := hi.out.len
        rw [hnh.out] at hl0
        obtain ⟨nl, hnl⟩ : ∃ nl, l.length = nl := ⟨_, rfl⟩
        rw [hnl] at hl0
        rw [hnh.out, hnvh.out, hnl]
        have hnlh := Lib.hid hnl
        have t0 : decide (n < nl) = false := decide_eq_false (by omega)
        clear hnl
        go_wp2
        go_loopw [9, 49] (fun vv a wr => ∃ k : Nat, a = .int .i64 k ∧ k ≤ n ∧ wr.ownsRow w2.heap.size 5 1 vv k (rs ((u.map (ev p)).take k)) ∧ Below w2.heap.size w2 wr) (fun _ a _ => n - (intOf a).toNat)
        case atStart => exact ⟨0, rfl, Nat.zero_le _, World.ownsRow_nil _ _ _ _, Below.refl _ _⟩
        case round =>
          obtain ⟨k, rfl, hk, hown, hb⟩ := hrel
          have hs := Lib.hid (And.intro (hu.out.below hb) (And.intro (hv.out.below hb) (And.intro (hp.out.below hb) (hl.out.below hb))))
          by_cases hlt : k < n
          · obtain ⟨b1, o1, rfl, hbl1, hc1⟩ := hs.out.1.read k (by rw [hnh.out]; exact hlt)
            obtain ⟨b2, o2, rfl, hbl2, hc2⟩ := hs.out.2.1.read k (by rw [hnvh.out]; exact hlt)
            have hval := hi.out.val k (by rw [hnh.out]; exact hlt)
            rw [← getD_of u k (by rw [hnh.out]; exact hlt)] at hval
            have hts := take_snoc (u.map (ev p)) k (by rw [List.length_map, hnh.out]; exact hlt)
            have hmg : (u.map (ev p)).getD k 0 = ev p (u.getD k 0) := by
              simp [List.getD_eq_getElem?_getD, List.getElem?_eq_getElem (show k < u.length by rw [hnh.out]; exact hlt)]
            rw [hmg] at hts
            obtain ⟨X, hX⟩ : ∃ X, u.getD k 0 = X := ⟨_, rfl⟩
            obtain ⟨Y, hY⟩ : ∃ Y, v.getD k 0 = Y := ⟨_, rfl⟩
            rw [hX] at hc1 hval hts
            rw [hY] at hc2 hval
            have cE := fun nq : Nat => D.eval X (hs.out.2.2.2.drewN nq) (by have := hnlh.out; omega)
            rw [hval, hnlh.out] at cE
            have cE := Lib.hid cE
            have cP := fun nq : Nat => D.eval X (hs.out.2.2.1.drewN nq) (by omega)
            obtain ⟨Z, hZ⟩ : ∃ Z, ev p X = Z := ⟨_, rfl⟩
            rw [hZ] at cP hts
            have cP := Lib.hid cP
            have hts := Lib.hid hts
            have hkI : (k : Int) < (n : Int) := by omega
            have hk0 : (0 : Int) ≤ (k : Int) := by omega
            clear hX hY hZ hval hmg
            go_wp2
            go_quiet ((go_at_call 21; exact Calls.quiet_of (cE.out _)))
            rename_i nq _
            go_wp2_with fail
            refine (cP.out nq).mono ?_
            rintro e3 w3 ⟨rfl, nn, rfl⟩
            have hown2 : (wr.drewN (nq + nn)).ownsRow w2.heap.size 5 1 _ k (rs ((u.map (ev p)).take k)) := hown
            have hb2 : Below w2.heap.size w2 (wr.drewN (nq + nn)) := chainN hb (nq + nn)
            go_wp2_with (at_builtin; refine wpList_append_own _ rfl _ _ 22 rfl w2.heap.size 5 i0 (.int .u8 0) 1 1 Try.underlying22 hi0 hz0 hz1 hz2 rfl (by decide) _ _ _ rfl (hown2.alloc _) ⟨wr.heap.size, 0, none⟩ 1 1 [bv Z] rfl rfl (one_new _ _ _) (one_cell _ _) (by unfold maxLen; omega) (by omega) (by have := hb.size; simp; omega) ?_)
            intro v' w4 hown4 hgrow4 _
            rw [← rs_snoc, ← hts.out] at hown4
            have hb4 : Below w2.heap.size w2 w4 := (hb2.alloc hb2.size _).grown hgrow4 (by have := hb.size; simp; omega) (fun j hj => (hown2.lt j hj).1)
            clear hown hown2 hb hb2 hgrow4 hs
            go_wp2
            go_roundw
            case rel => exact ⟨k + 1, by go_num, by omega, hown4, hb4⟩
            case measure => simp [intOf]; omega
          · have hkI : ¬ (k : Int) < (n : Int) := by omega
            have hml : (u.map (ev p)).length = n := by rw [List.length_map, hnh.out]
            rw [List.take_of_length_le (by rw [hml]; omega)] at hown
            obtain ⟨A', c', rfl, _, _⟩ := own_slice hown
            obtain ⟨hsv, hkl⟩ := IsSl.of_own hown
            have hkn : k = n := hkl.symm.trans hml
            have hsv := Lib.hid hsv
            have hu := Lib.hid (hu.out.below hb)
            have hp := Lib.hid (hp.out.below hb)
            have hB2 := hB.trans (hb.mono hB.size)
            have cc := Lib.hid (D.trim hp.out (by omega))
            have htl := trim_len p
            have hklh := Lib.hid hkl
            have hknh := Lib.hid hkn
            have hmlh := Lib.hid hml
            clear hown hb hkl hkn hml hlt hk
            go_wp2_with fail
            refine cc.out.mono ?_
            rintro e3 w3 ⟨A3, c3, rfl, hs3, hb3⟩
            have hu := Lib.hid (hu.out.below hb3)
            have hp := Lib.hid (hp.out.below hb3)
            have hsv := Lib.hid (hsv.out.below hb3)
            have hB3 := chain hB2 hb3
            obtain ⟨nt, hnt⟩ : ∃ nt, (trim p).length = nt := ⟨_, rfl⟩
            rw [hnt] at htl ⊢
            have hnth := Lib.hid hnt
            clear hs3 hb3 hnt hB2
            by_cases hgt : n < nt
            · have t1 : decide (n < nt) = true := decide_eq_true hgt
              have cc := Lib.hid (awake_any D w3)
              clear hgt
              go_wp2_with fail
              refine cc.out.mono ?_
              rintro e4 w4 ⟨rfl, hb4⟩
              go_wp2
              go_ret
              exact ⟨rfl, chain hB3 hb4⟩
            · have t1 : decide (n < nt) = false := decide_eq_false hgt
              have cc := D.itp3 hu.out hsv.out (by omega) (by have := hmlh.out; omega) (hnh.out.trans hmlh.out.symm) hnd.out
              rw [hnh.out, hmlh.out, ← hknh.out] at cc
              have hof : Itp u (u.map (ev p)) (trim p) := Itp.of_values (by rw [hnth.out, hnh.out]; omega)
              have hof := Lib.hid hof
              have hkeq := hknh.out
              subst hkeq
              have cc := Lib.hid cc
              clear hgt
              go_wp2_with fail
              refine cc.out.mono ?_
              rintro e4 w4 ⟨m, A4, c4, hi4, rfl, hs4, hb4⟩
              obtain rfl := Itp.only hnd.out hof.out hi4
              have hp := Lib.hid (hp.out.below hb4)
              have hs4h := Lib.hid hs4
              have hB4 := chain hB3 hb4
              have cc := Lib.hid (D.trim hp.out (by omega))
              clear hs4 hb4 hi4 hB3
              go_wp2_with fail
              refine cc.out.mono ?_
              rintro e5 w5 ⟨A5, c5, rfl, hs5, hb5⟩
              have cc := same_eq (hs4h.out.below hb5) hs5 rfl
              have hB5 := chain hB4 hb5
              have cc := Lib.hid cc
              clear hs5 hb5 hB4
              go_wp2_with fail
              refine cc.out.mono ?_
              rintro e6 w6 ⟨rfl, rfl⟩
              have cc := Lib.hid (awake_any D w5)
              go_wp2_with fail
              refine cc.out.mono ?_
              rintro e7 w7 ⟨rfl, hb7⟩
              go_wp2
              go_ret
              exact ⟨rfl, chain hB5 hb7⟩
      · replace hnd := Lib.hid hnd
        replace hne := Lib.hid hne
        have cc := small3 16 (by decide) (w := w) (A1 := a0) (c1 := cap0) (n1 := u.length) (A2 := a1) (c2 := cap1) (n2 := v.length) (A3 := a2) (c3 := cap2) (n3 := p.length) true (by simp; omega)
        rw [show ((16 : Nat) : Int) = 16 from rfl] at cc
        replace cc := Lib.hid cc
        go_enter Try.func10, Try.ntmps10
        go_wp2_with fail
        refine cc.out.mono ?_
        rintro e w1 ⟨rfl, hb⟩
        clear cc
        replace hu := Lib.hid (hu.out.below hb)
        replace hv := Lib.hid (hv.out.below hb)
        replace hp := Lib.hid (hp.out.below hb)
        have hB := hb
        clear hb
        have cc := D.itp2 hu.out hv.out (by omega) (by omega) hne.out hnd.out
        replace cc := Lib.hid cc
        go_wp2_with fail
        refine cc.out.mono ?_
        rintro e w2 ⟨A2, c2, rfl, hs2, hb⟩
        clear cc
        replace hu := Lib.hid (hu.out.below hb)
        replace hv := Lib.hid (hv.out.below hb)
        replace hp := Lib.hid (hp.out.below hb)
        replace hB := chain hB hb
        have ha := Lib.hid hs2
        clear hs2 hb
        have cc := awake_any D w2
        replace cc := Lib.hid cc
        go_wp2_with fail
        refine cc.out.mono ?_
        rintro e w3 ⟨rfl, hb⟩
        clear cc
        replace hu := Lib.hid (hu.out.below hb)
        replace hv := Lib.hid (hv.out.below hb)
        replace hp := Lib.hid (hp.out.below hb)
        replace ha := Lib.hid (ha.out.below hb)
        replace hB := chain hB hb
        clear hb
        go_wp2
        go_ret
        exact ⟨rfl, hB⟩
    · replace hne := Lib.hid hne
      have cc := small3 16 (by decide) (w := w) (A1 := a0) (c1 := cap0) (n1 := u.length) (A2 := a1) (c2 := cap1) (n2 := v.length) (A3 := a2) (c3 := cap2) (n3 := p.length) true (by simp; omega)
      rw [show ((16 : Nat) : Int) = 16 from rfl] at cc
      replace cc := Lib.hid cc
      go_enter Try.func10, Try.ntmps10
      go_wp2_with fail
      refine cc.out.mono ?_
      rintro e w1 ⟨rfl, hb⟩
      clear cc
      replace hu := Lib.hid (hu.out.below hb)
      replace hv := Lib.hid (hv.out.below hb)
      replace hp := Lib.hid (hp.out.below hb)
      have hB := hb
      clear hb
      have cc := D.itp1 hu.out hv.out (by omega) (by omega) hne.out
      replace cc := Lib.hid cc
      go_wp2_with fail
      refine cc.out.mono ?_
      rintro e w2 ⟨A2, c2, rfl, hs2, hb⟩
      clear cc
      replace hu := Lib.hid (hu.out.below hb)
      replace hv := Lib.hid (hv.out.below hb)
      replace hp := Lib.hid (hp.out.below hb)
      replace hB := chain hB hb
      have ha := Lib.hid hs2
      clear hs2 hb
      have cc := awake_any D w2
      replace cc := Lib.hid cc
      go_wp2_with fail
      refine cc.out.mono ?_
      rintro e w3 ⟨rfl, hb⟩
      clear cc
      replace hu := Lib.hid (hu.out.below hb)
      replace hv := Lib.hid (hv.out.below hb)
      replace hp := Lib.hid (hp.out.below hb)
      replace ha := Lib.hid (ha.out.below hb)
      replace hB := chain hB hb
      clear hb
      go_wp2
      go_ret
      exact ⟨rfl, hB⟩
  · have cc := small3 16 (by decide) (w := w) (A1 := a0) (c1 := cap0) (n1 := u.length) (A2 := a1) (c2 := cap1) (n2 := v.length) (A3 := a2) (c3 := cap2) (n3 := p.length) false (by simp; omega)
    rw [show ((16 : Nat) : Int) = 16 from rfl] at cc
    replace cc := Lib.hid cc
    go_enter Try.func10, Try.ntmps10
    go_wp2_with fail
    refine cc.out.mono ?_
    rintro e w1 ⟨rfl, hb⟩
    clear cc
    have hB := hb
    clear hb
    have cc := awake_any D w1
    replace cc := Lib.hid cc
    go_wp2_with fail
    refine cc.out.mono ?_
    rintro e w2 ⟨rfl, hb⟩
    clear cc
    replace hB := chain hB hb
    clear hb
    go_wp2
    go_ret
    exact ⟨rfl, hB⟩
end Go.Proofs.Ytdinngcfjjajeaa.G6
