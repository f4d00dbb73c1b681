/- ParserRoundTrip and ParserTokens, walked (layer 20). -/
import Derived.Test.YtpbcncfbfbghcaaGreatDoorP20T
import Derived.Test.YtpbcncfbfbghcaaGreatDoorP20L20Fo9
namespace Go.Proofs.YtpbcncfbfbghcaaGreatDoor.L20
set_option maxRecDepth 100000
open Go.RowKit Mem L19
open M17 (Laid Laid.below)
set_option linter.unusedVariables false
set_option linter.unusedSimpArgs false

theorem bytes_ext {a b : ByteArray} (h : a.data.toList = b.data.toList) : a = b := by
  have : a.data = b.data := Array.toList_inj.1 h
  cases a; cases b
  exact congrArg _ this
/-- A call of Format, with plain letters. -/
theorem Format_use {p : Prog} {F : Nat → Prop} {V A E : Option Addr} {cv ca ce : Nat} {w : World} (hp : PgM w F p V A E cv ca ce) (wp : Wfp p) {lv la lf : Nat} (h1 : p.vars.length = lv) (h2 : p.arrays.length = la) (h3 : p.funcs.length = lf) (hlen : (txt (fmt p)).length ≤ 900000) (hL : Laid w) {X : ByteArray} (hX : X.data.toList = txt (fmt p)) :
    Calls Tryz.prog 16 #[.agg #[.slice V lv cv, .slice A la ca, .slice E lf ce]] w fun e w' => e = .returned (.string X) ∧ Below w.heap.size w w' := by
  refine (Format_any hp wp h1 h2 h3 hlen hL).mono ?_
  rintro e w' ⟨⟨S, hS, rfl⟩, hb⟩
  rw [bytes_ext (hS.trans hX.symm)]
  exact ⟨rfl, hb⟩
theorem fmt_small {src : Str} {p : Prog} {n e : Nat} (h : parse src = (p, n, e)) (he : e = 0) (hs : src.length ≤ 1500) : (txt (fmt p)).length ≤ 900000 := by
  obtain ⟨_, hw, _, hl, _⟩ := parse_ok h he
  have h1 := fmt_len hw
  have h2 := (ans_bound src).2.2.1
  omega
set_option maxHeartbeats 16000000 in
theorem walk_round (s : ByteArray) (w : World) (hL : Laid w) (hs : s.size ≤ 140737488351232) :
    Calls Tryz.prog 5 #[.string s] w fun e w' => e = .returned (.bool true) ∧ Below w.heap.size w w' := by
  have c0 := Lib.hid (alive_any w hL)
  have hL := Lib.hid hL
  by_cases h6 : 1500 < s.size
  · have d6 : decide ((1500 : Int) < (s.size : Int)) = true := decide_eq_true (by omega)
    clear h6
    go_enter Tryz.func5, Tryz.ntmps5
    go_wp2_with fail
    refine (c0.out).mono ?_
    rintro e w1 ⟨rfl, hb1⟩
    go_wp2
    first | go_ret | skip
    exact ⟨rfl, hb1⟩
  have d6 : decide ((1500 : Int) < (s.size : Int)) = false := decide_eq_false (by omega)
  have hls : s.data.toList.length = s.size := by simp
  obtain ⟨⟨p, n, e0⟩, hpq⟩ : ∃ q, parse s.data.toList = q := ⟨_, rfl⟩
  obtain ⟨lv, hlv⟩ : ∃ n, p.vars.length = n := ⟨_, rfl⟩
  obtain ⟨la, hla⟩ : ∃ n, p.arrays.length = n := ⟨_, rfl⟩
  obtain ⟨lq, hlq⟩ : ∃ n, p.funcs.length = n := ⟨_, rfl⟩
  obtain ⟨ni, hni⟩ : ∃ x : Int, (n : Int) = x := ⟨_, rfl⟩
  obtain ⟨ei, hei⟩ : ∃ x : Int, (e0 : Int) = x := ⟨_, rfl⟩
  have cP := Lib.hid (fun (W : World) (hl : Laid W) => Parse_use s hpq hlv hla hlq hni hei W hl)
  by_cases he : e0 = 0
  rotate_left
  · have t1 : (ei != 0) = true := bne_iff_ne.2 (by omega)
    clear h6 hpq
    go_enter Tryz.func5, Tryz.ntmps5
    go_wp2_with fail
    refine (c0.out).mono ?_
    rintro e w1 ⟨rfl, hb1⟩
    have c1 := Lib.hid (cP.out w1 (hL.out.below hb1))
    go_wp2_with fail
    refine (c1.out).mono ?_
    rintro e w5 ⟨Va, Aa, Ea, cv, ca, ce, rfl, hP5, hb5⟩
    obtain ⟨W6, g6, W7, hW6, hg6, hW7, hb6, hb7, hP7, hl7⟩ := pg_store hP5 lv la lq
    obtain ⟨u0, u1, u2, f0, f1, f2⟩ := pg_box hb6
    go_wp2
    first | go_ret | go_ret2 | skip
    exact ⟨rfl, chain hb1 (chain hb5 hl7)⟩
  have t1 : (ei != 0) = false := by rw [← hei, he]; rfl
  have hsm := fmt_small hpq he (by omega)
  have hwp := (parse_ok hpq he).2.1
  obtain ⟨X, hX⟩ : ∃ X : ByteArray, X.data.toList = txt (fmt p) := ⟨⟨(txt (fmt p)).toArray⟩, rfl⟩
  have hXs : X.size ≤ 900000 := by rw [str_len hX]; exact hsm
  have hrt := fun (h : (txt (fmt p)).length ≤ 60000) => (parse_fmt hwp h).2
  rw [← hX] at hrt
  have hXl : X.data.toList.length = X.size := by simp
  have cF := Lib.hid (fun (V A E : Option Addr) (cv ca ce : Nat) (W : World) (hp : PgM W Any_ p V A E cv ca ce) (hl : Laid W) => Format_use hp hwp hlv hla hlq hsm hl hX)
  have hwp := Lib.hid hwp
  have tX : (X.toList == X.toList) = true := beq_self_eq_true _
  clear h6 hpq hX
  go_enter Tryz.func5, Tryz.ntmps5
  go_wp2_with fail
  refine (c0.out).mono ?_
  rintro e w1 ⟨rfl, hb1⟩
  have c1 := Lib.hid (cP.out w1 (hL.out.below hb1))
  have hb1 := Lib.hid hb1
  clear c0
  go_wp2_with fail
  refine (c1.out).mono ?_
  rintro e w5 ⟨Va, Aa, Ea, cv, ca, ce, rfl, hP5, hb5⟩
  obtain ⟨W6, g6, W7, hW6, hg6, hW7, hb6, hb7, hP7, hl7⟩ := pg_store hP5 lv la lq
  obtain ⟨u0, u1, u2, f0, f1, f2⟩ := pg_box hb6
  obtain ⟨x0, x1, x2, _, _, _⟩ := pg_box hb7
  have hbx := Lib.hid (chain hb1.out (chain hb5 hl7))
  have c2 := Lib.hid (cF.out Va Aa Ea cv ca ce W7 hP7 (hL.out.below hbx.out))
  replace hb7 := Lib.hid hb7
  replace hP7 := Lib.hid hP7
  clear hb5 hP5 hb6 hl7 c1 hb1
  go_wp2_with fail
  refine (c2.out).mono ?_
  rintro e w8 ⟨rfl, hb8⟩
  have hbx := Lib.hid (chain hbx.out hb8)
  have hb7 := Lib.hid (hb7.out.below hb8)
  have hP7 := Lib.hid (hP7.out.keep (Kept.of_below hb8))
  clear hb8 c2 x0 x1 x2 u0 u1 u2 f0 f1 f2 hW6 hg6 hW7
  by_cases hbig : 60000 < X.size
  · have d7 : decide ((60000 : Int) < (X.size : Int)) = true := decide_eq_true (by omega)
    go_wp2
    first | go_ret | go_ret2 | skip
    exact ⟨rfl, hbx.out⟩
  have d7 : decide ((60000 : Int) < (X.size : Int)) = false := decide_eq_false (by omega)
  have c3 := Lib.hid (Parse_use X (hrt (by rw [hXl]; omega)) hlv hla hlq (ni := 0) (ei := 0) rfl rfl _ (hL.out.below hbx.out))
  clear hrt hbig
  go_wp2_with fail
  refine (c3.out).mono ?_
  rintro e w12 ⟨Vb, Ab, Eb, dv, da, de, rfl, hP12, hb12⟩
  obtain ⟨W13, g13, W14, hW13, hg13, hW14, hb13, hb14, hP14, hl14⟩ := pg_store hP12 lv la lq
  obtain ⟨u0, u1, u2, f0, f1, f2⟩ := pg_box hb13
  have k14 := chain hb12 hl14
  obtain ⟨x0, x1, x2, _, _, _⟩ := pg_box (hb7.out.below k14)
  obtain ⟨y0, y1, y2, _, _, _⟩ := pg_box hb14
  have cE := Lib.hid (Equal_use (hP7.out.keep (Kept.of_below k14)) hP14 hwp.out hlv hla hlq)
  have hbx := Lib.hid (chain hbx.out k14)
  replace hb14 := Lib.hid hb14
  replace hP14 := Lib.hid hP14
  clear hP12 hb12 hb13 hl14 k14 hb7 hP7 c3
  go_wp2_with fail
  refine (cE.out).mono ?_
  rintro e w15 ⟨rfl, hb15⟩
  have hbx := Lib.hid (chain hbx.out hb15)
  obtain ⟨v0, v1, v2, _, _, _⟩ := pg_box (hb14.out.below hb15)
  have c5 := Lib.hid (cF.out Vb Ab Eb dv da de w15 (hP14.out.keep (Kept.of_below hb15)) (hL.out.below hbx.out))
  clear hb15 cE hb14 hP14 cF x0 x1 x2 y0 y1 y2 u0 u1 u2 f0 f1 f2 hW13 hg13 hW14
  go_wp2_with fail
  refine (c5.out).mono ?_
  rintro e w16 ⟨rfl, hb16⟩
  have hfin := Lib.hid (chain hbx.out hb16)
  clear hb16 hbx c5
  go_wp2
  first | go_ret | go_ret2 | skip
  exact ⟨rfl, hfin.out⟩
theorem row_round (s : ByteArray) (w : World) (hL : Laid w) (hs : s.size ≤ 140737488351232) : Calls Tryz.prog 5 #[.string s] w fun e w' => e = .returned (.bool true) ∧ Below w.heap.size w w' := walk_round s w hL hs
set_option maxHeartbeats 16000000 in
theorem walk_tokens (s : ByteArray) (w : World) (hL : Laid w) (hs : s.size ≤ 140737488351232) :
    Calls Tryz.prog 11 #[.string s] w fun e w' => e = .returned (.bool true) ∧ Below w.heap.size w w' := by
  have c0 := Lib.hid (alive_any w hL)
  have hL := Lib.hid hL
  by_cases h6 : 1500 < s.size
  · have d6 : decide ((1500 : Int) < (s.size : Int)) = true := decide_eq_true (by omega)
    clear h6
    go_enter Tryz.func11, Tryz.ntmps11
    go_wp2_with fail
    refine (c0.out).mono ?_
    rintro e w1 ⟨rfl, hb1⟩
    go_wp2
    first | go_ret | skip
    exact ⟨rfl, hb1⟩
  have d6 : decide ((1500 : Int) < (s.size : Int)) = false := decide_eq_false (by omega)
  have hls : s.data.toList.length = s.size := by simp
  obtain ⟨⟨p, n, e0⟩, hpq⟩ : ∃ q, parse s.data.toList = q := ⟨_, rfl⟩
  obtain ⟨⟨l, m, a0⟩, han⟩ : ∃ q, ans s.data.toList = q := ⟨_, rfl⟩
  obtain ⟨lv, hlv⟩ : ∃ n, p.vars.length = n := ⟨_, rfl⟩
  obtain ⟨la, hla⟩ : ∃ n, p.arrays.length = n := ⟨_, rfl⟩
  obtain ⟨lq, hlq⟩ : ∃ n, p.funcs.length = n := ⟨_, rfl⟩
  obtain ⟨ni, hni⟩ : ∃ x : Int, (n : Int) = x := ⟨_, rfl⟩
  obtain ⟨ei, hei⟩ : ∃ x : Int, (e0 : Int) = x := ⟨_, rfl⟩
  obtain ⟨mi, hmi⟩ : ∃ x : Int, (m : Int) = x := ⟨_, rfl⟩
  obtain ⟨ai, hai⟩ : ∃ x : Int, (a0 : Int) = x := ⟨_, rfl⟩
  obtain ⟨K, hK⟩ : ∃ k, l.length = k := ⟨_, rfl⟩
  have cP := Lib.hid (fun (W : World) (hl : Laid W) => Parse_use s hpq hlv hla hlq hni hei W hl)
  have cT := Lib.hid (fun (W : World) (hl : Laid W) => tokens_use s han hK hmi hai W hl)
  by_cases he : e0 = 0
  rotate_left
  · have t1 : (ei != 0) = true := bne_iff_ne.2 (by omega)
    clear h6 hpq han
    go_enter Tryz.func11, Tryz.ntmps11
    go_wp2_with fail
    refine (c0.out).mono ?_
    rintro e w1 ⟨rfl, hb1⟩
    have c1 := Lib.hid (cP.out w1 (hL.out.below hb1))
    go_wp2_with fail
    refine (c1.out).mono ?_
    rintro e w5 ⟨Va, Aa, Ea, cv, ca, ce, rfl, hP5, hb5⟩
    obtain ⟨W6, g6, W7, hW6, hg6, hW7, hb6, hb7, hP7, hl7⟩ := pg_store hP5 lv la lq
    obtain ⟨u0, u1, u2, f0, f1, f2⟩ := pg_box hb6
    have hbx := chain hb1 (chain hb5 hl7)
    have c2 := Lib.hid (cT.out W7 (hL.out.below hbx))
    go_wp2_with fail
    refine (c2.out).mono ?_
    rintro e w8 ⟨A2, cap2, rfl, hI, hb8⟩
    go_wp2
    first | go_ret | go_ret2 | skip
    exact ⟨rfl, chain hbx hb8⟩
  have t1 : (ei != 0) = false := by rw [← hei, he]; rfl
  have hsm := fmt_small hpq he (by omega)
  have hok := parse_ok hpq he
  have hwp := hok.2.1
  have ha0 : a0 = 0 := by have := hok.1; rw [han] at this; exact this
  subst ha0
  obtain rfl : (0 : Int) = ai := hai
  obtain ⟨X, hX⟩ : ∃ X : ByteArray, X.data.toList = txt (fmt p) := ⟨⟨(txt (fmt p)).toArray⟩, rfl⟩
  have hXs : X.size ≤ 900000 := by rw [str_len hX]; exact hsm
  have hrt := fun (h : (txt (fmt p)).length ≤ 60000) => tokens_fmt hpq he h
  rw [← hX, han] at hrt
  dsimp only at hrt
  rw [hK] at hrt
  have hXl : X.data.toList.length = X.size := by simp
  have cF := Lib.hid (fun (V A E : Option Addr) (cv ca ce : Nat) (W : World) (hp : PgM W Any_ p V A E cv ca ce) (hl : Laid W) => Format_use hp hwp hlv hla hlq hsm hl hX)
  clear h6 hpq hX hwp hok
  go_enter Tryz.func11, Tryz.ntmps11
  go_wp2_with fail
  refine (c0.out).mono ?_
  rintro e w1 ⟨rfl, hb1⟩
  have c1 := Lib.hid (cP.out w1 (hL.out.below hb1))
  have hb1 := Lib.hid hb1
  clear c0
  go_wp2_with fail
  refine (c1.out).mono ?_
  rintro e w5 ⟨Va, Aa, Ea, cv, ca, ce, rfl, hP5, hb5⟩
  obtain ⟨W6, g6, W7, hW6, hg6, hW7, hb6, hb7, hP7, hl7⟩ := pg_store hP5 lv la lq
  obtain ⟨u0, u1, u2, f0, f1, f2⟩ := pg_box hb6
  have hbx := Lib.hid (chain hb1.out (chain hb5 hl7))
  have c2 := Lib.hid (cT.out W7 (hL.out.below hbx.out))
  replace hb7 := Lib.hid hb7
  replace hP7 := Lib.hid hP7
  clear hb5 hP5 hb6 hl7 c1 hb1
  go_wp2_with fail
  refine (c2.out).mono ?_
  rintro e w8 ⟨A2, cap2, rfl, hI, hb8⟩
  have hbx := Lib.hid (chain hbx.out hb8)
  obtain ⟨x0, x1, x2, _, _, _⟩ := pg_box (hb7.out.below hb8)
  have c3 := Lib.hid (cF.out Va Aa Ea cv ca ce w8 (hP7.out.keep (Kept.of_below hb8)) (hL.out.below hbx.out))
  clear hb8 c2 u0 u1 u2 f0 f1 f2 hW6 hg6 hW7 hI hP7 hb7 cF
  go_wp2_with fail
  refine (c3.out).mono ?_
  rintro e w9 ⟨rfl, hb9⟩
  have hbx := Lib.hid (chain hbx.out hb9)
  clear hb9 c3 x0 x1 x2
  by_cases hbig : 60000 < X.size
  · have d7 : decide ((60000 : Int) < (X.size : Int)) = true := decide_eq_true (by omega)
    go_wp2
    first | go_ret | go_ret2 | skip
    exact ⟨rfl, hbx.out⟩
  have d7 : decide ((60000 : Int) < (X.size : Int)) = false := decide_eq_false (by omega)
  obtain ⟨q1, q2⟩ := hrt (by rw [hXl]; omega)
  obtain ⟨⟨l2, m2, b0⟩, han2⟩ : ∃ q, ans X.data.toList = q := ⟨_, rfl⟩
  rw [han2] at q1 q2
  dsimp only at q1 q2
  subst q1
  obtain ⟨K2, hK2⟩ : ∃ k, l2.length = k := ⟨_, rfl⟩
  rw [hK2] at q2
  have dq : decide ((K2 : Int) ≤ (K : Int)) = true := decide_eq_true (by omega)
  have c4 := Lib.hid (tokens_use X han2 hK2 (ni := (m2 : Int)) (ei := 0) rfl rfl _ (hL.out.below hbx.out))
  clear hrt hbig han2 han
  go_wp2_with fail
  refine (c4.out).mono ?_
  rintro e w10 ⟨A3, cap3, rfl, hI3, hb10⟩
  have hfin := Lib.hid (chain hbx.out hb10)
  clear hb10 hbx c4 hI3
  go_wp2
  first | go_ret | go_ret2 | skip
  exact ⟨rfl, hfin.out⟩
theorem row_tokens (s : ByteArray) (w : World) (hL : Laid w) (hs : s.size ≤ 140737488351232) : Calls Tryz.prog 11 #[.string s] w fun e w' => e = .returned (.bool true) ∧ Below w.heap.size w w' := walk_tokens s w hL hs
end Go.Proofs.YtpbcncfbfbghcaaGreatDoor.L20
