/- ParserLayout, walked (layer 20). -/
import Derived.Test.YtpbcncfbfbghcaaGreatDoorP20T
import Derived.Test.YtpbcncfbfbghcaaGreatDoorP20R
namespace Go.Proofs.YtpbcncfbfbghcaaGreatDoor.L20
set_option maxRecDepth 100000
open Go.RowKit Mem L19
open M17 (Laid Laid.below)
set_option linter.unusedVariables false
set_option linter.unusedSimpArgs false

theorem infoSt : (Tryz.prog.info? 9).map (fun i => (i.zero, i.size, i.bytes)) = some (some (.string ⟨#[]⟩), 1, 16) := by kernel_rfl
theorem parse_nil {src : Str} {p : Prog} {n e : Nat} (h : parse src = (p, n, e)) (he : e ≠ 0) : p = Prog.nil := by
  unfold parse parseT at h
  split at h
  · split at h
    · injection h with _ h; injection h with _ h; exact absurd h.symm he
    · injection h with h; exact h.symm
    · injection h with h; exact h.symm
  · injection h with h; exact h.symm
theorem wfp_nil : Wfp Prog.nil := ⟨by simp [Prog.nil], by simp [Prog.nil], by simp [Prog.nil]⟩
/-- Whatever Parse hands back is well formed. -/
theorem parse_wf {src : Str} {p : Prog} {n e : Nat} (h : parse src = (p, n, e)) : Wfp p := by
  by_cases he : e = 0
  · exact (parse_ok h he).2.1
  · rw [parse_nil h he]; exact wfp_nil
theorem strs_take {l : List L19.Tok} {k : Nat} {t : L19.Tok} (h : l[k]? = some t) : strVs ((l.map (·.2.1)).take k) ++ [strV t.2.1] = strVs ((l.map (·.2.1)).take (k + 1)) := by
  rw [List.take_add_one, List.getElem?_map, h]
  simp [strVs]
theorem texts_join (l : List L19.Tok) : (pairs l).map (·.2) = l.map (·.2.1) := by unfold pairs; rw [List.map_map]; rfl
theorem joined_len {src : Str} (hs : src.length ≤ 1500) : (joinL ((ans src).1.map (·.2.1))).length ≤ 1000000000 := by
  have h1 := joinL_len (pairs (ans src).1)
  rw [texts_join] at h1
  have hb := (ans_bound src).2.2.2.2
  have h2 := rt_sum (ans src).1
  have h3 : ((pairs (ans src).1).map fun t => t.2.length + 1) = (ans src).1.map fun t => t.2.1.length + 1 := by unfold pairs; rw [List.map_map]; rfl
  rw [h3] at h1
  omega
set_option maxHeartbeats 16000000 in
theorem walk_layout (s : ByteArray) (w : World) (hL : Laid w) (hs : s.size ≤ 140737488351232) :
    Calls Tryz.prog 6 #[.string s] w fun e w' => e = .returned (.bool true) ∧ Below w.heap.size w w' := by
  have c0 := Lib.hid (alive_any w hL)
  have hL := Lib.hid hL
  by_cases h6 : 1500 < s.size
  · have d6 : decide ((1500 : Int) < (s.size : Int)) = true := decide_eq_true (by omega)
    clear h6
    go_enter Tryz.func6, Tryz.ntmps6
    go_wp2_with fail
    refine (c0.out).mono ?_
    rintro e w1 ⟨rfl, hb1⟩
    go_wp2
    first | go_ret | skip
    exact ⟨rfl, hb1⟩
  have d6 : decide ((1500 : Int) < (s.size : Int)) = false := decide_eq_false (by omega)
  have hls : s.data.toList.length = s.size := by simp
  obtain ⟨⟨l, n, e0⟩, han⟩ : ∃ q, ans s.data.toList = q := ⟨_, rfl⟩
  obtain ⟨N, hN⟩ : ∃ m, l.length = m := ⟨_, rfl⟩
  obtain ⟨ni, hni⟩ : ∃ x : Int, (n : Int) = x := ⟨_, rfl⟩
  obtain ⟨ei, hei⟩ : ∃ x : Int, (e0 : Int) = x := ⟨_, rfl⟩
  have c1 := Lib.hid (fun W h => tokens_use s han hN hni hei W h)
  have hbd := ans_bound s.data.toList
  have hjl := joined_len (src := s.data.toList) (by omega)
  rw [han] at hbd hjl
  dsimp only at hbd hjl
  have N1 : N ≤ 1500 := by omega
  by_cases he0 : e0 = 0
  rotate_left
  · have t1 : (ei != 0) = true := bne_iff_ne.2 (by omega)
    go_enter Tryz.func6, Tryz.ntmps6
    go_wp2_with fail
    refine (c0.out).mono ?_
    rintro e w1 ⟨rfl, hb1⟩
    have c1 := Lib.hid (c1.out w1 (hL.out.below hb1))
    go_wp2_with fail
    refine (c1.out).mono ?_
    rintro e w2 ⟨A, cap, rfl, hI, hb2⟩
    go_wp2
    first | go_ret | go_ret2 | skip
    exact ⟨rfl, chain hb1 hb2⟩
  subst he0
  obtain rfl : (0 : Int) = ei := hei
  have hlp := layout_parse (src := s.data.toList) (by omega) (by rw [han])
  rw [han] at hlp
  dsimp only at hlp
  rw [texts_join] at hlp
  obtain ⟨⟨p, n1, e1⟩, hp1⟩ : ∃ q, parse s.data.toList = q := ⟨_, rfl⟩
  obtain ⟨⟨p2, n2, e2⟩, hp2⟩ : ∃ q, parse (joinL (l.map (·.2.1))) = q := ⟨_, rfl⟩
  rw [hp1, hp2] at hlp
  obtain ⟨k1, k2, k3⟩ := hlp
  dsimp only at k1 k2 k3
  subst k1 k2
  rw [hN] at k3
  obtain ⟨lv, hlv⟩ : ∃ n, p2.vars.length = n := ⟨_, rfl⟩
  obtain ⟨la, hla⟩ : ∃ n, p2.arrays.length = n := ⟨_, rfl⟩
  obtain ⟨lq, hlq⟩ : ∃ n, p2.funcs.length = n := ⟨_, rfl⟩
  obtain ⟨n1i, hn1i⟩ : ∃ x : Int, (n1 : Int) = x := ⟨_, rfl⟩
  obtain ⟨e2i, he2i⟩ : ∃ x : Int, (e2 : Int) = x := ⟨_, rfl⟩
  have hwf := Lib.hid (parse_wf hp1)
  have cP1 := Lib.hid (fun W h => Parse_use s hp1 hlv hla hlq hn1i he2i W h)
  have cP2 := Lib.hid (fun (S : ByteArray) (W : World) (h : S.data.toList = joinL (l.map (·.2.1))) (hl : Laid W) => Parse_use S (by rw [h]; exact hp2) hlv hla hlq (ni := (n2 : Int)) rfl he2i W hl)
  have hjl2 : (Lib.join (l.map (·.2.1)) (⟨#[10]⟩ : ByteArray).data.toList).length ≤ 1000000000 := by show (Lib.join _ [10]).length ≤ _; rw [join_lines]; exact hjl
  have hjl := Lib.hid hjl2
  have n20 : (0 : Int) ≤ (n2 : Int) := by omega
  have n21 : (n2 : Int) ≤ (N : Int) := by omega
  have dn0 : decide ((0 : Int) ≤ (n2 : Int)) = true := decide_eq_true n20
  have dn1 : decide ((n2 : Int) ≤ (N : Int)) = true := decide_eq_true n21
  have te : (e2i == e2i) = true := beq_self_eq_true _
  have hmapl : (l.map (·.2.1)).length = N := by rw [List.length_map]; exact hN
  obtain ⟨i0, hi, hz0, hz1, hz2⟩ := info_parts infoSt
  clear h6 han hbd hp1 hp2 hn1i he2i hjl2 k3
  go_enter Tryz.func6, Tryz.ntmps6
  go_wp2_with fail
  refine (c0.out).mono ?_
  rintro e w1 ⟨rfl, hb1⟩
  have c1 := Lib.hid (c1.out w1 (hL.out.below hb1))
  have hb1 := Lib.hid hb1
  clear c0
  go_wp2_with fail
  refine (c1.out).mono ?_
  rintro e w2 ⟨A, cap, rfl, hI, hb2⟩
  have hb2 := Lib.hid (chain hb1.out hb2)
  clear hb1 c1
  have o1 := Lib.hid (World.ownsRow_nil w2 w2.heap.size 9 1)
  have o2 := Lib.hid (Below.refl w2.heap.size w2)
  have hI := Lib.hid hI
  go_wp2
  go_loopw [6, 7] (fun tv iv wr => ∃ (k : Nat) (v : Value), v = tv ∧ iv = .int .i64 (k : Int) ∧ k ≤ N ∧ Hid (wr.ownsRow w2.heap.size 9 1 v k (strVs ((l.map (·.2.1)).take k))) ∧ Hid (Below w2.heap.size w2 wr)) (fun _ iv _ => N - (intOf iv).toNat)
  case atStart => exact ⟨0, _, rfl, rfl, Nat.zero_le _, o1, o2⟩
  case round =>
    clear o1 o2
    obtain ⟨k, v, rfl, rfl, hk, hrow, hb⟩ := hrel
    by_cases hlt : k < N
    · have dk : decide ((k : Int) < (N : Int)) = true := decide_eq_true (by omega)
      have k0 : (0 : Int) ≤ (k : Int) := by omega
      have k1 : (k : Int) < (N : Int) := by omega
      have k2 : (k : Int) ≤ 1500 := by omega
      obtain ⟨kd, T, ln, b, o, hT, rfl, hbl, g0, g1, g2⟩ := (hI.out.below hb.out).at hlt
      obtain ⟨S, hS⟩ : ∃ S : ByteArray, strV T = .string S := ⟨_, rfl⟩
      have ht := strs_take hT
      dsimp only at ht
      rw [hS] at g1 ht
      have hro := hrow.out
      have hbo := hb.out
      have hbs := hbo.size
      replace ht := Lib.hid ht
      clear hT hS hrow hb hbl g0 g2 cP1 cP2 hwf
      go_wp2_with (at_builtin; refine wpList_append_own _ rfl _ _ 23 rfl w2.heap.size 9 i0 (.string ⟨#[]⟩) 1 16 Tryz.underlying23 hi hz0 hz1 hz2 rfl (by decide) _ _ _ rfl (hro.alloc _) ⟨wr.heap.size, 0, none⟩ 1 1 [.string S] rfl rfl (one_new _ _ _) (one_str _) (by unfold maxLen; omega) (by omega) (by simp; omega) ?_; intro v' w6 hown' hgrow _)
      have hb6 := Lib.hid ((hbo.alloc hbs _).grown hgrow (by simp; omega) (fun j hj => (hro.lt j hj).1))
      rw [ht.out] at hown'
      replace hown' := Lib.hid hown'
      clear hgrow hro hbo
      go_wp2
      go_roundw
      case rel => exact ⟨k + 1, _, rfl, by go_num, by omega, hown', hb6⟩
      case measure => simp [intOf]; omega
    · obtain rfl : k = N := by omega
      have dk : decide ((k : Int) < (k : Int)) = false := decide_eq_false (by omega)
      have hro := hrow.out
      rw [List.take_of_length_le (by omega)] at hro
      obtain ⟨A2, cap2, rfl, hSt⟩ := StrsF.of_own hro hmapl
      have hbr := Lib.hid (chain hb2.out hb.out)
      have c2 := Lib.hid (cP1.out wr (hL.out.below hbr.out))
      have hSt := Lib.hid hSt
      clear hrow hb hI hro cP1 hN hb2
      go_wp2_with fail
      refine (c2.out).mono ?_
      rintro e w5 ⟨Va, Aa, Ea, cv, ca, ce, rfl, hP5, hb5⟩
      obtain ⟨W6, g6, W7, hW6, hg6, hW7, hb6, hb7, hP7, hl7⟩ := pg_store hP5 lv la lq
      obtain ⟨u0, u1, u2, f0, f1, f2⟩ := pg_box hb6
      have k7 := chain hb5 hl7
      have hbx := Lib.hid (chain hbr.out k7)
      replace hb7 := Lib.hid hb7
      replace hP7 := Lib.hid hP7
      have cJ := Lib.hid (join_any (hSt.out.keep (Kept.of_below k7)) hmapl ⟨#[10]⟩ hjl.out (by omega))
      clear hb5 hP5 hb6 hl7 c2 k7 hbr hSt
      go_wp2_with fail
      refine (cJ.out).mono ?_
      rintro e w8 ⟨⟨S, hS, rfl⟩, hb8⟩
      have hbx := Lib.hid (chain hbx.out hb8)
      have c3 := Lib.hid (cP2.out S w8 (by rw [hS]; exact join_lines _) (hL.out.below hbx.out))
      have hb7 := Lib.hid (hb7.out.below hb8)
      have hP7 := Lib.hid (hP7.out.keep (Kept.of_below hb8))
      clear hb8 hS cJ cP2 u0 u1 u2 f0 f1 f2 hW6 hg6 hW7
      go_wp2_with fail
      refine (c3.out).mono ?_
      rintro e w12 ⟨Vb, Ab, Eb, dv, da, de, rfl, hP12, hb12⟩
      obtain ⟨W13, g13, W14, hW13, hg13, hW14, hb13, hb14, hP14, hl14⟩ := pg_store hP12 lv la lq
      obtain ⟨u0, u1, u2, f0, f1, f2⟩ := pg_box hb13
      have k14 := chain hb12 hl14
      obtain ⟨x0, x1, x2, _, _, _⟩ := pg_box (hb7.out.below k14)
      obtain ⟨y0, y1, y2, _, _, _⟩ := pg_box hb14
      have cE := Lib.hid (Equal_use (hP7.out.keep (Kept.of_below k14)) hP14 hwf.out hlv hla hlq)
      have hbx := Lib.hid (chain hbx.out k14)
      clear hP12 hb12 hb13 hb14 hP14 hl14 k14 hb7 hP7 c3
      go_wp2_with fail
      refine (cE.out).mono ?_
      rintro e w15 ⟨rfl, hb15⟩
      have hfin := Lib.hid (chain hbx.out hb15)
      clear hb15 hbx cE
      go_wp2
      first | go_ret | go_ret2 | skip
      exact ⟨rfl, hfin.out⟩
/-- The same at what the reading says. -/
theorem row_layout (s : ByteArray) (w : World) (hL : Laid w) (hs : s.size ≤ 140737488351232) : Calls Tryz.prog 6 #[.string s] w fun e w' => e = .returned (.bool true) ∧ Below w.heap.size w w' := walk_layout s w hL hs
end Go.Proofs.YtpbcncfbfbghcaaGreatDoor.L20
