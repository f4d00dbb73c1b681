/- The walk of the law RsdecodeSound, under the package's contracts. -/
import Derived.Test.YtkobcffkgaodbaaG8Law1
import Derived.Test.YtkobcffkgaodbaaG8Map
namespace Go.Proofs.Ytkobcffkgaodbaa.G8
open Go.Proofs.Ytkobcffkgaodbaa.G5
open Go.Proofs.Ytkobcffkgaodbaa.G7
open Go.RowKit Mem
open Go.Maps
set_option linter.unusedVariables false
set_option linter.unusedSimpArgs false

theorem zero_bool (w : World) : (zeroValue 4).run Try.prog w = .ok (.bool false) w := by kernel_rfl
theorem pe_bool_inv {v : Value} {z : DataW Unit × List MemPlace} (h : plainElem Try.prog 4 v = some z) : ∃ b, v = .bool b ∧ z = (.lit (.bool b), []) := by
  unfold plainElem at h
  rw [Try.underlying4] at h
  cases v <;> simp at h
  exact ⟨_, rfl, h.symm⟩
/-- 'm[z]' of a set. -/
theorem look_set {w : World} {B n : Nat} {zs : List Int} (h : w.ownsMap Try.prog 3 (plainElem Try.prog 4) B n (setI zs)) (z : Int) (hz : (Lit.int .i64 z).wf = true) :
    (Instr.lookup 35 (.map (some B)) (.int .i64 z) false).run Try.prog w = .ok (.bool (decide (z ∈ zs))) w := by
  obtain ⟨v, ps, hrun, hv⟩ := h.lookup (int_keyed Try.underlying3) Try.underlying35 (zero_bool w) (plainElem_bool Try.underlying4 false) (keyOf_int_mk Try.underlying3 hz)
  obtain ⟨b, rfl, hb⟩ := pe_bool_inv hv
  rw [show (Lit.int .i64 z) = keyI z from rfl, at_setI] at hb
  injection hb with h1 _
  injection h1 with h1
  injection h1 with h1
  rw [hrun, h1]
/-- What a decoder says, in two cases. -/
theorem DecQ.cases {u : List R} {p : Int} {zs : List Int} {S : ByteArray} {n k : Int} (h : DecQ u p zs S n k) :
    (¬ k = 0 ∧ S = ⟨#[]⟩ ∧ n = 0 ∧ (k = 1 ∨ k = 11)) ∨ (k = 0 ∧ ¬ Bad u.length p zs ∧ ∃ c, Within p.toNat u (Lof zs) c ∧ S = str c ∧ n = (dif u c : Int)) := by
  by_cases hb : Bad u.length p zs
  · obtain ⟨rfl, rfl, rfl⟩ := h.1 hb
    exact .inl ⟨by decide, rfl, rfl, .inl rfl⟩
  · by_cases hc : ∃ c, Within p.toNat u (Lof zs) c
    · obtain ⟨c, hc⟩ := hc
      obtain ⟨h1, h2, h3⟩ := (h.2 hb).1 c hc
      exact .inr ⟨h3, hb, c, hc, h1, h2⟩
    · obtain ⟨rfl, rfl, rfl⟩ := (h.2 hb).2 fun c h => hc ⟨c, h⟩
      exact .inl ⟨by decide, rfl, rfl, .inr rfl⟩

set_option maxRecDepth 100000 in
set_option maxHeartbeats 4000000 in
theorem walk_sound (D : Dev) (s : ByteArray) (p : Int) (a2 : Option Addr) (n2 c2 : Nat) (z2 : List Int) (w : World) (hs : s.size ≤ 140737488351232) (hp : (Lit.int .i64 p).wf = true) (hz : IsRow .i64 w a2 n2 c2 z2) :
    Calls Try.prog 5 #[.string s, .int .i64 p, .slice a2 n2 c2] w fun e w' => e = .returned (.bool true) ∧ Below w.heap.size w w' := by
  obtain ⟨zs, hzl, hzi⟩ := IsInts.of_row hz
  obtain ⟨p1, p2⟩ := i64_fit hp
  have cA := Lib.hid (alive_any D w)
  have cS := Lib.hid (fun W => small_any s p a2 n2 c2 W)
  have hzi := Lib.hid hzi
  have hzl := Lib.hid hzl
  have hmm := @run_makeMap Try.prog
  clear hz hp
  go_enter Try.func5, Try.ntmps5
  go_wp2_with fail
  refine cA.out.mono ?_
  rintro e w1 ⟨rfl, hB⟩
  have hzi := Lib.hid (hzi.out.below hB)
  go_wp2_with fail
  refine (cS.out _).mono ?_
  rintro e w2 ⟨rfl, rfl⟩
  rcases hsm : smB s.size p n2 with _ | _
  · go_wp2
    go_ret
    exact ⟨rfl, hB⟩
  obtain ⟨q1, q2, q3⟩ : s.size ≤ 60 ∧ p ≤ 16 ∧ n2 ≤ 40 := by
    unfold smB at hsm
    exact of_decide_eq_true hsm
  have cD := Lib.hid (D.decode hzi.out hzl.out q1 p1 q2)
  go_wp2_with fail
  refine cD.out.mono ?_
  rintro e w3 ⟨S, n, k, hq, rfl, hb⟩
  have hzi := Lib.hid (hzi.out.below hb)
  replace hB := chain hB hb
  clear hb cD cA cS hsm
  rcases hq.cases with ⟨hk, rfl, rfl, hk2⟩ | ⟨rfl, hbad, c, hc, rfl, rfl⟩
  · clear hq
    have d1 : (k == 0) = false := by simpa using hk
    have d2 : (k != 0) = true := by simpa using hk
    rcases hk2 with rfl | rfl
    · go_wp2
      go_ret
      exact ⟨rfl, hB⟩
    · go_wp2
      go_ret
      exact ⟨rfl, hB⟩
  · obtain ⟨P, rfl⟩ : ∃ P : Nat, p = (P : Int) := ⟨p.toNat, by unfold Bad at hbad; omega⟩
    rw [Int.toNat_natCast] at hc
    have hP1 : 1 ≤ P := by unfold Bad at hbad; omega
    have hrange : ∀ z ∈ zs, 0 ≤ z ∧ z < ((el s).length : Int) := fun z hz => by
      unfold Bad at hbad
      by_cases h : 0 ≤ z ∧ z < ((el s).length : Int)
      · exact h
      · exact absurd (.inr (.inr (.inr (.inr ⟨z, hz, by omega⟩)))) hbad
    have hPs : P ≤ s.size := by unfold Bad at hbad; rw [el_len] at hbad; omega
    have hcw := cwB_yes hc.cw
    have hrad := hc.rad
    have hsz := size_setI zs hrange
    have hclen := hc.len
    have hlen : (str c).size = s.size := by rw [size_str, hclen, el_len]
    have hel : el (str c) = c := el_str c
    rw [el_len] at hrange
    obtain ⟨C, hC⟩ : ∃ C, str c = C := ⟨_, rfl⟩
    rw [hC] at hlen hel ⊢
    rw [← hel] at hcw hrad hclen ⊢
    have hcw := Lib.hid hcw
    have hrad := Lib.hid hrad
    have hsz := Lib.hid hsz
    have hlen := Lib.hid hlen
    have hrange := Lib.hid hrange
    clear hq hbad hc hel hC hclen
    obtain ⟨B, hBB⟩ : ∃ B, w3.heap.size = B := ⟨_, rfl⟩
    have hm0 : (w3.alloc (.map #[] 0)).ownsMap Try.prog 3 (plainElem Try.prog 4) B 0 (setI []) := by rw [← hBB]; exact World.ownsMap_made _ _ _ _
    have hb0 : Below w3.heap.size w3 (w3.alloc (.map #[] 0)) := (Below.refl _ _).alloc (Nat.le_refl _) _
    go_wp2
    have hBh := Lib.hid hBB
    clear hBB hmm
    go_loopw [11] (fun x wr => ∃ k : Nat, k ≤ n2 ∧ x = .int .i64 k ∧ wr.ownsMap Try.prog 3 (plainElem Try.prog 4) B k (setI (zs.take k)) ∧ Below w3.heap.size w3 wr) (fun x _ => n2 - (intOf x).toNat)
    case atStart => exact ⟨0, Nat.zero_le _, rfl, hm0, hb0⟩
    case round =>
      clear hm0 hb0
      obtain ⟨k, hk, rfl, hown, hbq⟩ := hrel
      by_cases hlt : k < n2
      · obtain ⟨b, o, rfl, hbl, hc⟩ := (hzi.out.below hbq).read k (by rw [hzl.out]; exact hlt)
        obtain ⟨f1, f2⟩ := hzi.out.get_fit k (by rw [hzl.out]; exact hlt)
        have hts : zs.take (k + 1) = zs.take k ++ [zs.getD k 0] := by
          rw [List.take_succ_eq_append_getElem (by rw [hzl.out]; exact hlt)]
          simp [List.getD_eq_getElem?_getD, List.getElem?_eq_getElem (show k < zs.length by rw [hzl.out]; exact hlt)]
        obtain ⟨z, hz⟩ : ∃ z, zs.getD k 0 = z := ⟨_, rfl⟩
        rw [hz] at hc f1 f2 hts
        have hset := Lib.hid (show setI (zs.take (k + 1)) = (setI (zs.take k)).put (keyI z) (.lit (.bool true)) by rw [hts, setI_snoc])
        have hwf : (Lit.int .i64 z).wf = true := (Lit.wf_int_iff .i64 _).2 ⟨f1, f2⟩
        have hkey := Lib.hid (keyOf_int_mk (P := Try.prog) (k := 3) Try.underlying3 hwf)
        have k0 : (0 : Int) ≤ (k : Int) := by omega
        have k1 : (k : Int) < (n2 : Int) := by omega
        have d3 : decide (k < n2) = true := decide_eq_true hlt
        clear hz hts hwf
        go_wp2_with (at_mapUpdate; refine wpList_mapUpdate_own _ rfl _ _ _ 35 rfl 3 4 (int_keyed Try.underlying3) Try.underlying35 _ B k _ rfl hown (by unfold maxLen; omega) _ _ _ rfl rfl hkey.out _ [] (plainElem_bool Try.underlying4 true) ?_)
        intro w4 hown4 hgr
        rw [show (Lit.int .i64 z) = keyI z from rfl, ← hset.out] at hown4
        have hb2 := hbq.grown hgr hbq.size (fun j hj => by cases hj; rw [hBh.out]; exact Nat.le_refl _)
        clear hown hgr hbq hc
        go_wp2
        go_roundw
        case rel => exact ⟨k + 1, by omega, by go_num, hown4, hb2⟩
        case measure => simp [intOf]; omega
      · have hke : k = n2 := by omega
        rw [hke, List.take_of_length_le (by rw [hzl.out]; exact Nat.le_refl _)] at hown
        have d3 : decide (k < n2) = false := decide_eq_false hlt
        have k1 : ¬ (k : Int) < (n2 : Int) := by omega
        have cI := isc_own C P wr hP1 (by omega) (by rw [hlen.out]; exact hPs) (by rw [hlen.out]; omega)
        rw [hcw.out] at cI
        have cI := Lib.hid cI
        have t1 : ((C.size : Int) != (s.size : Int)) = false := by rw [hlen.out]; simp
        have t2 : (C.size != s.size) = false := by rw [hlen.out]; simp
        replace hB := chain hB hbq
        clear hke hbq hzi
        go_wp2_with fail
        refine cI.out.mono ?_
        rintro e w5 ⟨rfl, hb5⟩
        have hown5 : w5.ownsMap Try.prog 3 (plainElem Try.prog 4) B n2 (setI zs) := by
          obtain ⟨es, clock, hh, hrest⟩ := hown
          exact ⟨es, clock, (hb5.block B (Array.getElem?_eq_some_iff.1 hh).1).trans hh, hrest⟩
        replace hB := chain hB hb5
        have hown5 := Lib.hid hown5
        clear hown hb5 cI t1 t2
        obtain ⟨N, hN⟩ : ∃ N, C.size = N := ⟨_, rfl⟩
        have hNh := Lib.hid hN
        have hN60 : N ≤ 60 := by rw [← hN, hlen.out]; exact q1
        have hNs : s.size = N := by rw [← hN, hlen.out]
        have hNsh := Lib.hid hNs
        clear hN hNs
        go_wp2
        go_loopw [12, 13, 14] (fun x y v wq => ∃ i e' a' : Nat, i ≤ N ∧ e' ≤ i ∧ a' ≤ i ∧ x = .int .i64 e' ∧ y = .int .i64 a' ∧ v = .int .i64 i ∧ Hid (e' = cnt i (fun j => differ (el s) (el C) j && !Lof zs j)) ∧ Hid (a' = cnt i (differ (el s) (el C))) ∧ Hid (∃ m, wq = w5.drewN m)) (fun _ _ v _ => N - (intOf v).toNat)
        case atStart => exact ⟨0, 0, 0, Nat.zero_le _, Nat.le_refl _, Nat.le_refl _, rfl, rfl, rfl, Lib.hid rfl, Lib.hid rfl, Lib.hid ⟨0, rfl⟩⟩
        case round =>
          obtain ⟨i, e', a', hi, hei, hai, rfl, rfl, rfl, he, ha, hw⟩ := hrel
          by_cases hlt : i < N
          · have hic : i < C.size := by have := hNh.out; omega
            have his : i < s.size := by have := hNsh.out; omega
            obtain ⟨X, hX⟩ : ∃ X, (el C).getD i 0 = X := ⟨_, rfl⟩
            obtain ⟨Y, hY⟩ : ∃ Y, (el s).getD i 0 = Y := ⟨_, rfl⟩
            have hbx := byte_val C i hic X hX
            have hby := byte_val s i his Y hY
            have hdf : differ (el s) (el C) i = !(X == Y) := by
              unfold differ
              rw [hX, hY]
              by_cases e : X = Y
              · rw [e]
              · rw [show (X == Y) = false from beq_eq_false_iff_ne.2 e, show (Y == X) = false from beq_eq_false_iff_ne.2 (Ne.symm e)]
            have i0 : (0 : Int) ≤ (i : Int) := by omega
            have i1 : (i : Int) < (C.size : Int) := by omega
            have i2 : (i : Int) < (s.size : Int) := by omega
            have d1 : decide (i < C.size) = true := decide_eq_true hic
            rcases hxy : X == Y with _ | _
            · have ht : ((X.toNat : Int) != (Y.toNat : Int)) = true := by rw [bne, bv_eq1, hxy]; rfl
              have ha2 := Lib.hid (show a' + 1 = cnt (i + 1) (differ (el s) (el C)) by rw [cnt_succ, ← ha.out, hdf, hxy]; rfl)
              rcases hL : Lof zs i with _ | _
              · have he2 := Lib.hid (show e' + 1 = cnt (i + 1) (fun j => differ (el s) (el C) j && !Lof zs j) by rw [cnt_succ, ← he.out, hdf, hxy, hL]; rfl)
                clear hX hY hdf hxy he ha
                go_wp2
                go_quiet (fail)
                rename_i nq _
                have hown6 : (World.drewN _ nq).ownsMap Try.prog 3 (plainElem Try.prog 4) B n2 (setI zs) := (show (World.drewN wr nq).ownsMap _ _ _ _ _ _ from by obtain ⟨m, e⟩ := hw.out; rw [e]; exact hown5.out)
                have hlk := look_set hown6 (i : Int) ((Lit.wf_int_iff .i64 _).2 ⟨by show (-9223372036854775808 : Int) ≤ _; omega, by show _ ≤ (9223372036854775807 : Int); omega⟩)
                rw [show decide ((i : Int) ∈ zs) = Lof zs i from rfl, hL] at hlk
                have hw2 : Hid (∃ m, World.drewN wr nq = w5.drewN m) := Lib.hid (by obtain ⟨m, e⟩ := hw.out; exact ⟨m + nq, by rw [e]; exact World.drewN_drewN _ _ _⟩)
                obtain ⟨W, hW⟩ : ∃ W, World.drewN wr nq = W := ⟨_, rfl⟩
                rw [hW] at hlk hw2 ⊢
                clear hown6 hw hW hL
                go_wp2
                go_roundw
                case rel => exact ⟨i + 1, e' + 1, a' + 1, by omega, by omega, by omega, by go_num, by go_num, by go_num, he2, ha2, hw2⟩
                case measure => simp [intOf]; omega
              · have he2 := Lib.hid (show e' = cnt (i + 1) (fun j => differ (el s) (el C) j && !Lof zs j) by rw [cnt_succ, ← he.out, hdf, hxy, hL]; rfl)
                clear hX hY hdf hxy he ha
                go_wp2
                go_quiet (fail)
                rename_i nq _
                have hown6 : (World.drewN _ nq).ownsMap Try.prog 3 (plainElem Try.prog 4) B n2 (setI zs) := (show (World.drewN wr nq).ownsMap _ _ _ _ _ _ from by obtain ⟨m, e⟩ := hw.out; rw [e]; exact hown5.out)
                have hlk := look_set hown6 (i : Int) ((Lit.wf_int_iff .i64 _).2 ⟨by show (-9223372036854775808 : Int) ≤ _; omega, by show _ ≤ (9223372036854775807 : Int); omega⟩)
                rw [show decide ((i : Int) ∈ zs) = Lof zs i from rfl, hL] at hlk
                have hw2 : Hid (∃ m, World.drewN wr nq = w5.drewN m) := Lib.hid (by obtain ⟨m, e⟩ := hw.out; exact ⟨m + nq, by rw [e]; exact World.drewN_drewN _ _ _⟩)
                obtain ⟨W, hW⟩ : ∃ W, World.drewN wr nq = W := ⟨_, rfl⟩
                rw [hW] at hlk hw2 ⊢
                clear hown6 hw hW hL
                go_wp2
                go_roundw
                case rel => exact ⟨i + 1, e', a' + 1, by omega, by omega, by omega, rfl, by go_num, by go_num, he2, ha2, hw2⟩
                case measure => simp [intOf]; omega
            · have ht : ((X.toNat : Int) != (Y.toNat : Int)) = false := by rw [bne, bv_eq1, hxy]; rfl
              have ha2 := Lib.hid (show a' = cnt (i + 1) (differ (el s) (el C)) by rw [cnt_succ, ← ha.out, hdf, hxy]; rfl)
              have he2 := Lib.hid (show e' = cnt (i + 1) (fun j => differ (el s) (el C) j && !Lof zs j) by rw [cnt_succ, ← he.out, hdf, hxy]; rfl)
              clear hX hY hdf hxy he ha
              go_wp2
              go_quiet (fail)
              rename_i nq _
              have hw2 : Hid (∃ m, World.drewN wr nq = w5.drewN m) := Lib.hid (by obtain ⟨m, e⟩ := hw.out; exact ⟨m + nq, by rw [e]; exact World.drewN_drewN _ _ _⟩)
              go_wp2
              go_roundw
              case rel => exact ⟨i + 1, e', a', by omega, by omega, by omega, rfl, rfl, by go_num, he2, ha2, hw2⟩
              case measure => simp [intOf]; omega
          · have hie : i = (el s).length := by rw [el_len, hNsh.out]; omega
            have ha3 : a' = dif (el s) (el C) := by rw [ha.out, hie]; rfl
            have he3 : e' = errs (el s) (el C) (Lof zs) := by rw [he.out, hie]; rfl
            obtain ⟨m, rfl⟩ := hw.out
            have hml := fun ty => World.ownsMap.len (P := Try.prog) (w := w5.drewN m) (b := B) (show (w5.drewN m).ownsMap Try.prog 3 (plainElem Try.prog 4) B n2 (setI zs) from hown5.out) Try.underlying35 ty
            rw [hsz.out] at hml
            have hr := hrad.out
            rw [← he3] at hr
            obtain ⟨Ln, hLn⟩ : ∃ Ln, losts (el s).length (Lof zs) = Ln := ⟨_, rfl⟩
            rw [hLn] at hml hr
            have hLb : Ln ≤ 16 := by omega
            have d1 : decide (i < C.size) = false := decide_eq_false (by have := hNh.out; omega)
            have i1 : ¬ (i : Int) < (C.size : Int) := by have := hNh.out; omega
            have d2 : decide (2 * (e' : Int) + (Ln : Int) ≤ (P : Int)) = true := decide_eq_true (by omega)
            rw [← ha3]
            clear ha3 he3 hie hLn he ha hw
            go_wp2
            go_ret
            exact ⟨rfl, chainN hB m⟩
end Go.Proofs.Ytkobcffkgaodbaa.G8
