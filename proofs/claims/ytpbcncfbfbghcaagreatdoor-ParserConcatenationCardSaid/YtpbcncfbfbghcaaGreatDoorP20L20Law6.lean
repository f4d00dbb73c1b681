/- ParserConcatenation, walked (layer 20). -/
import Derived.Test.YtpbcncfbfbghcaaGreatDoorP20T
import Derived.Test.YtpbcncfbfbghcaaGreatDoorP20C
import Derived.Test.YtpbcncfbfbghcaaGreatDoorP20V
import Derived.Test.YtpbcncfbfbghcaaGreatDoorP20L20Law5
import Derived.Test.YtpbcncfbfbghcaaGreatDoorP20L20Law4
namespace Go.Proofs.YtpbcncfbfbghcaaGreatDoor.L20
set_option maxRecDepth 100000
open Go.RowKit Mem L19
open M17 (Laid Laid.below)
set_option linter.unusedVariables false
set_option linter.unusedSimpArgs false

theorem wfp_app {p q : Prog} (hp : Wfp p) (hq : Wfp q) : Wfp (p.app q) := by
  obtain ⟨a1, a2, a3⟩ := hp
  obtain ⟨b1, b2, b3⟩ := hq
  refine ⟨fun s hs => ?_, fun s hs => ?_, fun s hs => ?_⟩
  · rcases List.mem_append.1 hs with h | h
    · exact a1 s h
    · exact b1 s h
  · rcases List.mem_append.1 hs with h | h
    · exact a2 s h
    · exact b2 s h
  · rcases List.mem_append.1 hs with h | h
    · exact a3 s h
    · exact b3 s h
theorem cons_of {α : Type} {l : List α} {n : Nat} (h : l.length = n + 1) : ∃ x r, l = x :: r ∧ r.length = n := by
  cases l with
  | nil => cases h
  | cons x r => exact ⟨x, r, rfl, by simpa using h⟩
theorem arr85 (t : Array Value) (h : t.size = 85) : ∃ x0 x1 x2 x3 x4 x5 x6 x7 x8 x9 x10 x11 x12 x13 x14 x15 x16 x17 x18 x19 x20 x21 x22 x23 x24 x25 x26 x27 x28 x29 x30 x31 x32 x33 x34 x35 x36 x37 x38 x39 x40 x41 x42 x43 x44 x45 x46 x47 x48 x49 x50 x51 x52 x53 x54 x55 x56 x57 x58 x59 x60 x61 x62 x63 x64 x65 x66 x67 x68 x69 x70 x71 x72 x73 x74 x75 x76 x77 x78 x79 x80 x81 x82 x83 x84 : Value, t = #[x0, x1, x2, x3, x4, x5, x6, x7, x8, x9, x10, x11, x12, x13, x14, x15, x16, x17, x18, x19, x20, x21, x22, x23, x24, x25, x26, x27, x28, x29, x30, x31, x32, x33, x34, x35, x36, x37, x38, x39, x40, x41, x42, x43, x44, x45, x46, x47, x48, x49, x50, x51, x52, x53, x54, x55, x56, x57, x58, x59, x60, x61, x62, x63, x64, x65, x66, x67, x68, x69, x70, x71, x72, x73, x74, x75, x76, x77, x78, x79, x80, x81, x82, x83, x84] := by
  obtain ⟨l⟩ := t
  replace h : l.length = 85 := h
  obtain ⟨x0, l0, e0, h⟩ := cons_of h
  obtain ⟨x1, l1, e1, h⟩ := cons_of h
  obtain ⟨x2, l2, e2, h⟩ := cons_of h
  obtain ⟨x3, l3, e3, h⟩ := cons_of h
  obtain ⟨x4, l4, e4, h⟩ := cons_of h
  obtain ⟨x5, l5, e5, h⟩ := cons_of h
  obtain ⟨x6, l6, e6, h⟩ := cons_of h
  obtain ⟨x7, l7, e7, h⟩ := cons_of h
  obtain ⟨x8, l8, e8, h⟩ := cons_of h
  obtain ⟨x9, l9, e9, h⟩ := cons_of h
  obtain ⟨x10, l10, e10, h⟩ := cons_of h
  obtain ⟨x11, l11, e11, h⟩ := cons_of h
  obtain ⟨x12, l12, e12, h⟩ := cons_of h
  obtain ⟨x13, l13, e13, h⟩ := cons_of h
  obtain ⟨x14, l14, e14, h⟩ := cons_of h
  obtain ⟨x15, l15, e15, h⟩ := cons_of h
  obtain ⟨x16, l16, e16, h⟩ := cons_of h
  obtain ⟨x17, l17, e17, h⟩ := cons_of h
  obtain ⟨x18, l18, e18, h⟩ := cons_of h
  obtain ⟨x19, l19, e19, h⟩ := cons_of h
  obtain ⟨x20, l20, e20, h⟩ := cons_of h
  obtain ⟨x21, l21, e21, h⟩ := cons_of h
  obtain ⟨x22, l22, e22, h⟩ := cons_of h
  obtain ⟨x23, l23, e23, h⟩ := cons_of h
  obtain ⟨x24, l24, e24, h⟩ := cons_of h
  obtain ⟨x25, l25, e25, h⟩ := cons_of h
  obtain ⟨x26, l26, e26, h⟩ := cons_of h
  obtain ⟨x27, l27, e27, h⟩ := cons_of h
  obtain ⟨x28, l28, e28, h⟩ := cons_of h
  obtain ⟨x29, l29, e29, h⟩ := cons_of h
  obtain ⟨x30, l30, e30, h⟩ := cons_of h
  obtain ⟨x31, l31, e31, h⟩ := cons_of h
  obtain ⟨x32, l32, e32, h⟩ := cons_of h
  obtain ⟨x33, l33, e33, h⟩ := cons_of h
  obtain ⟨x34, l34, e34, h⟩ := cons_of h
  obtain ⟨x35, l35, e35, h⟩ := cons_of h
  obtain ⟨x36, l36, e36, h⟩ := cons_of h
  obtain ⟨x37, l37, e37, h⟩ := cons_of h
  obtain ⟨x38, l38, e38, h⟩ := cons_of h
  obtain ⟨x39, l39, e39, h⟩ := cons_of h
  obtain ⟨x40, l40, e40, h⟩ := cons_of h
  obtain ⟨x41, l41, e41, h⟩ := cons_of h
  obtain ⟨x42, l42, e42, h⟩ := cons_of h
  obtain ⟨x43, l43, e43, h⟩ := cons_of h
  obtain ⟨x44, l44, e44, h⟩ := cons_of h
  obtain ⟨x45, l45, e45, h⟩ := cons_of h
  obtain ⟨x46, l46, e46, h⟩ := cons_of h
  obtain ⟨x47, l47, e47, h⟩ := cons_of h
  obtain ⟨x48, l48, e48, h⟩ := cons_of h
  obtain ⟨x49, l49, e49, h⟩ := cons_of h
  obtain ⟨x50, l50, e50, h⟩ := cons_of h
  obtain ⟨x51, l51, e51, h⟩ := cons_of h
  obtain ⟨x52, l52, e52, h⟩ := cons_of h
  obtain ⟨x53, l53, e53, h⟩ := cons_of h
  obtain ⟨x54, l54, e54, h⟩ := cons_of h
  obtain ⟨x55, l55, e55, h⟩ := cons_of h
  obtain ⟨x56, l56, e56, h⟩ := cons_of h
  obtain ⟨x57, l57, e57, h⟩ := cons_of h
  obtain ⟨x58, l58, e58, h⟩ := cons_of h
  obtain ⟨x59, l59, e59, h⟩ := cons_of h
  obtain ⟨x60, l60, e60, h⟩ := cons_of h
  obtain ⟨x61, l61, e61, h⟩ := cons_of h
  obtain ⟨x62, l62, e62, h⟩ := cons_of h
  obtain ⟨x63, l63, e63, h⟩ := cons_of h
  obtain ⟨x64, l64, e64, h⟩ := cons_of h
  obtain ⟨x65, l65, e65, h⟩ := cons_of h
  obtain ⟨x66, l66, e66, h⟩ := cons_of h
  obtain ⟨x67, l67, e67, h⟩ := cons_of h
  obtain ⟨x68, l68, e68, h⟩ := cons_of h
  obtain ⟨x69, l69, e69, h⟩ := cons_of h
  obtain ⟨x70, l70, e70, h⟩ := cons_of h
  obtain ⟨x71, l71, e71, h⟩ := cons_of h
  obtain ⟨x72, l72, e72, h⟩ := cons_of h
  obtain ⟨x73, l73, e73, h⟩ := cons_of h
  obtain ⟨x74, l74, e74, h⟩ := cons_of h
  obtain ⟨x75, l75, e75, h⟩ := cons_of h
  obtain ⟨x76, l76, e76, h⟩ := cons_of h
  obtain ⟨x77, l77, e77, h⟩ := cons_of h
  obtain ⟨x78, l78, e78, h⟩ := cons_of h
  obtain ⟨x79, l79, e79, h⟩ := cons_of h
  obtain ⟨x80, l80, e80, h⟩ := cons_of h
  obtain ⟨x81, l81, e81, h⟩ := cons_of h
  obtain ⟨x82, l82, e82, h⟩ := cons_of h
  obtain ⟨x83, l83, e83, h⟩ := cons_of h
  obtain ⟨x84, l84, e84, h⟩ := cons_of h
  obtain rfl := List.eq_nil_of_length_eq_zero h
  exact ⟨x0, x1, x2, x3, x4, x5, x6, x7, x8, x9, x10, x11, x12, x13, x14, x15, x16, x17, x18, x19, x20, x21, x22, x23, x24, x25, x26, x27, x28, x29, x30, x31, x32, x33, x34, x35, x36, x37, x38, x39, x40, x41, x42, x43, x44, x45, x46, x47, x48, x49, x50, x51, x52, x53, x54, x55, x56, x57, x58, x59, x60, x61, x62, x63, x64, x65, x66, x67, x68, x69, x70, x71, x72, x73, x74, x75, x76, x77, x78, x79, x80, x81, x82, x83, x84, by rw [e0, e1, e2, e3, e4, e5, e6, e7, e8, e9, e10, e11, e12, e13, e14, e15, e16, e17, e18, e19, e20, e21, e22, e23, e24, e25, e26, e27, e28, e29, e30, e31, e32, e33, e34, e35, e36, e37, e38, e39, e40, e41, e42, e43, e44, e45, e46, e47, e48, e49, e50, e51, e52, e53, e54, e55, e56, e57, e58, e59, e60, e61, e62, e63, e64, e65, e66, e67, e68, e69, e70, e71, e72, e73, e74, e75, e76, e77, e78, e79, e80, e81, e82, e83, e84]⟩
theorem counts {p : Prog} {m : Nat} (h : (txt (fmt p)).length ≤ m) : p.vars.length ≤ m + 1 ∧ p.arrays.length ≤ m ∧ p.funcs.length ≤ m := by
  rw [txt_fmt] at h
  simp only [List.length_append] at h
  have hA : ∀ l : List (Str × Nat), l.length ≤ (l.flatMap farrT).length := fun l => by
    induction l with
    | nil => simp
    | cons a r ih =>
      have : 0 < (farrT a).length := List.length_pos_iff.2 (farr_ne a)
      rw [List.flatMap_cons, List.length_append, List.length_cons]; omega
  have hF : ∀ l : List Go.Proofs.YtpbcncfbfbghcaaGreatDoor.L20.Fn, l.length ≤ (l.flatMap ffnT).length := fun l => by
    induction l with
    | nil => simp
    | cons a r ih =>
      have : 0 < (ffnT a).length := List.length_pos_iff.2 (ffn_ne a)
      rw [List.flatMap_cons, List.length_append, List.length_cons]; omega
  have h1 := hA p.arrays
  have h2 := hF p.funcs
  refine ⟨?_, by omega, by omega⟩
  by_cases hv : p.vars = []
  · rw [hv]; simp
  · have h3 := jc_count p.vars
    have : (fvT 0 p.vars).length = (ind2 0 ++ kVar ++ [32] ++ jc p.vars ++ [59, 10]).length := by unfold fvT; rw [if_neg (by rw [List.isEmpty_iff]; exact hv)]
    simp only [List.length_append, List.length_cons, List.length_nil] at this
    omega
theorem jc_start {c : Cf} {w0 : World} {a : Act} {n g5 g8 : Nat} {v11 v12 v13 : Value} (e5 : c.g5 = g5) (e8 : c.g8 = g8) (e11 : c.v11 = v11) (e12 : c.v12 = v12) (e13 : c.v13 = v13) (h1 : a.tmps.size = 85) (h2 : a.defers = []) (h5 : a.tmps[5]?.getD undef = .pointer (some ⟨g5, 0, none⟩)) (h8 : a.tmps[8]?.getD undef = .pointer (some ⟨g8, 0, none⟩)) (h11 : a.tmps[11]?.getD undef = v11) (h12 : a.tmps[12]?.getD undef = v12) (h13 : a.tmps[13]?.getD undef = v13) :
    JC c w0 (Array.replicate n false) a { w0 with drawn := w0.drawn + 1 } := by
  subst e5 e8 e11 e12 e13
  have hz : ∀ j, (Array.replicate n false).getD j false = false := fun j => by
    rw [Array.getD_eq_getD_getElem?, Array.getElem?_replicate]
    split <;> rfl
  refine ⟨h1, h2, h5, h8, h11, h12, h13, (Below.refl _ w0).drew, fun i _ hi => ?_, fun hi => ?_⟩
  · rw [hz] at hi; cases hi
  · rw [hz] at hi; cases hi
theorem one_strs (l : List Str) : ∀ u ∈ (l.map fun s => [strV s]).flatten, u.oneCell' = true := by
  rw [flat_strs]
  exact strVs_one l
theorem one_arrs (l : List (Str × Nat)) : ∀ u ∈ (l.map fun a => [strV a.1, .int .i64 (a.2 : Int)]).flatten, u.oneCell' = true := by
  intro u hu
  obtain ⟨c, hc, hu⟩ := List.mem_flatten.1 hu
  obtain ⟨a, _, rfl⟩ := List.mem_map.1 hc
  simp only [List.mem_cons, List.not_mem_nil, or_false] at hu
  rcases hu with rfl | rfl <;> rfl
theorem one_fns {w : World} {F : Nat → Prop} {l : List Go.Proofs.YtpbcncfbfbghcaaGreatDoor.L20.Fn} {css : List (List Value)} (hl : css.length = l.length) (h : ∀ (i : Nat) (f : Go.Proofs.YtpbcncfbfbghcaaGreatDoor.L20.Fn) (c : List Value), l[i]? = some f → css[i]? = some c → FnC w F f c) : ∀ u ∈ css.flatten, u.oneCell' = true := by
  intro u hu
  obtain ⟨c, hc, hu⟩ := List.mem_flatten.1 hu
  obtain ⟨i, hi, rfl⟩ := List.mem_iff_getElem.1 hc
  obtain ⟨P, L, B, cp, cl, cb, e, _⟩ := h i (l[i]'(by omega)) css[i] (List.getElem?_eq_getElem _) (List.getElem?_eq_getElem hi)
  rw [e] at hu
  unfold fCells at hu
  simp only [List.mem_cons, List.not_mem_nil, or_false] at hu
  rcases hu with rfl | rfl | rfl | rfl <;> rfl
set_option maxHeartbeats 16000000 in
theorem walk_cat (a b : ByteArray) (w : World) (hL : Laid w) (ha : a.size ≤ 140737488351232) (hb : b.size ≤ 140737488351232) :
    Calls Tryz.prog 9 #[.string a, .string b] w fun e w' => e = .returned (.bool true) ∧ Below w.heap.size w w' := by
  have c0 := Lib.hid (alive_any w hL)
  have hL := Lib.hid hL
  by_cases h6 : 1500 < a.size
  · have d6 : decide ((1500 : Int) < (a.size : Int)) = true := decide_eq_true (by omega)
    clear h6
    go_enter Tryz.func9, Tryz.ntmps9
    go_wp2_with fail
    refine (c0.out).mono ?_
    rintro e w1 ⟨rfl, hb1⟩
    go_wp2
    first | go_ret | skip
    exact ⟨rfl, hb1⟩
  have d6 : decide ((1500 : Int) < (a.size : Int)) = false := decide_eq_false (by omega)
  by_cases h7 : 1500 < b.size
  · have d7 : decide ((1500 : Int) < (b.size : Int)) = true := decide_eq_true (by omega)
    clear h6 h7
    go_enter Tryz.func9, Tryz.ntmps9
    go_wp2_with fail
    refine (c0.out).mono ?_
    rintro e w1 ⟨rfl, hb1⟩
    go_wp2
    first | go_ret | skip
    exact ⟨rfl, hb1⟩
  have d7 : decide ((1500 : Int) < (b.size : Int)) = false := decide_eq_false (by omega)
  have a6 : (a.size : Int) ≤ 1500 := by omega
  have b6 : (b.size : Int) ≤ 1500 := by omega
  have hla : a.data.toList.length = a.size := by simp
  have hlb : b.data.toList.length = b.size := by simp
  obtain ⟨⟨p, n, e0⟩, hpq⟩ : ∃ q, parse a.data.toList = q := ⟨_, rfl⟩
  obtain ⟨⟨q, m, f0⟩, hqq⟩ : ∃ q, parse b.data.toList = q := ⟨_, rfl⟩
  obtain ⟨lv, hlv⟩ : ∃ n, p.vars.length = n := ⟨_, rfl⟩
  obtain ⟨la, hla'⟩ : ∃ n, p.arrays.length = n := ⟨_, rfl⟩
  obtain ⟨lf, hlf⟩ : ∃ n, p.funcs.length = n := ⟨_, rfl⟩
  obtain ⟨mv, hmv⟩ : ∃ n, q.vars.length = n := ⟨_, rfl⟩
  obtain ⟨ma, hma⟩ : ∃ n, q.arrays.length = n := ⟨_, rfl⟩
  obtain ⟨mf, hmf⟩ : ∃ n, q.funcs.length = n := ⟨_, rfl⟩
  obtain ⟨ni, hni⟩ : ∃ x : Int, (n : Int) = x := ⟨_, rfl⟩
  obtain ⟨ei, hei⟩ : ∃ x : Int, (e0 : Int) = x := ⟨_, rfl⟩
  obtain ⟨mi, hmi⟩ : ∃ x : Int, (m : Int) = x := ⟨_, rfl⟩
  obtain ⟨fi, hfi⟩ : ∃ x : Int, (f0 : Int) = x := ⟨_, rfl⟩
  have cP := Lib.hid (fun (W : World) (hl : Laid W) => Parse_use a hpq hlv hla' hlf hni hei W hl)
  have cQ := Lib.hid (fun (W : World) (hl : Laid W) => Parse_use b hqq hmv hma hmf hmi hfi W hl)
  have hcat := Lib.hid (fun (h1 : e0 = 0) (h2 : f0 = 0) => parse_cat (by omega) (by omega) hpq hqq h1 h2)
  have hwp := Lib.hid (wfp_app (parse_wf hpq) (parse_wf hqq))
  have hJl : (a ++ ⟨#[10]⟩ ++ b).data.toList = a.data.toList ++ 10 :: b.data.toList := by rw [three_bytes]; simp
  obtain ⟨J, hJ⟩ : ∃ J, a ++ ⟨#[10]⟩ ++ b = J := ⟨_, rfl⟩
  rw [hJ] at hJl
  replace hJl := Lib.hid hJl
  have hcp := Lib.hid (fun (he : e0 = 0) => counts (m := 360000) (p := p) (by have h1 := fmt_len (parse_ok hpq he).2.1; have h2 := (parse_ok hpq he).2.2.2.1; have h3 := (ans_bound a.data.toList).2.2.1; omega))
  have hcq := Lib.hid (fun (he : f0 = 0) => counts (m := 360000) (p := q) (by have h1 := fmt_len (parse_ok hqq he).2.1; have h2 := (parse_ok hqq he).2.2.2.1; have h3 := (ans_bound b.data.toList).2.2.1; omega))
  clear h6 h7 hpq hqq hla hlb
  go_enter Tryz.func9, Tryz.ntmps9
  go_wp2_with fail
  refine (c0.out).mono ?_
  rintro e w1 ⟨rfl, hb1⟩
  have c1 := Lib.hid (cP.out w1 (hL.out.below hb1))
  have hb1 := Lib.hid hb1
  clear c0 cP
  go_wp2_with fail
  refine (c1.out).mono ?_
  rintro e w5 ⟨Va, Aa, Ea, cv, ca, ce, rfl, hP5, hb5⟩
  obtain ⟨W6, g6, W7, hW6, hg6, hW7, hb6, hb7, hP7, hl7⟩ := pg_store hP5 lv la lf
  obtain ⟨u0, u1, u2, f0', f1, f2⟩ := pg_box hb6
  have hbx := Lib.hid (chain hb1.out (chain hb5 hl7))
  have c2 := Lib.hid (cQ.out W7 (hL.out.below hbx.out))
  replace hb7 := Lib.hid hb7
  replace hP7 := Lib.hid hP7
  clear hb5 hP5 hb6 hl7 c1 hb1 cQ
  go_wp2_with fail
  refine (c2.out).mono ?_
  rintro e w8 ⟨Vb, Ab, Eb, dv, da, de, rfl, hP8, hb8⟩
  obtain ⟨W9, g9, W10, hW9, hg9, hW10, hb9, hb10, hP10, hl10⟩ := pg_store hP8 mv ma mf
  obtain ⟨v0, v1, v2, q0', q1, q2⟩ := pg_box hb9
  have k10 := chain hb8 hl10
  have hb7 := Lib.hid (hb7.out.below k10)
  have hP7 := Lib.hid (hP7.out.keep (Kept.of_below k10))
  have hbx := Lib.hid (chain hbx.out k10)
  replace hb10 := Lib.hid hb10
  replace hP10 := Lib.hid hP10
  clear hb8 hP8 hb9 hl10 c2 k10 u0 u1 u2 f0' f1 f2 hW6 hg6 hW7
  by_cases he : e0 = 0
  rotate_left
  · have t1 : (ei != 0) = true := bne_iff_ne.2 (by omega)
    go_wp2
    first | go_ret | go_ret2 | skip
    exact ⟨rfl, hbx.out⟩
  have t1 : (ei != 0) = false := by rw [← hei, he]; rfl
  by_cases hf : f0 = 0
  rotate_left
  · have t2 : (fi != 0) = true := bne_iff_ne.2 (by omega)
    go_wp2
    first | go_ret | go_ret2 | skip
    exact ⟨rfl, hbx.out⟩
  have t2 : (fi != 0) = false := by rw [← hfi, hf]; rfl
  have hpc := hcat.out he hf
  rw [← hJl.out] at hpc
  obtain ⟨xv, hxv⟩ : ∃ n, (p.app q).vars.length = n := ⟨_, rfl⟩
  obtain ⟨xa, hxa⟩ : ∃ n, (p.app q).arrays.length = n := ⟨_, rfl⟩
  obtain ⟨xf, hxf⟩ : ∃ n, (p.app q).funcs.length = n := ⟨_, rfl⟩
  have c3 := Lib.hid (Parse_use J hpc hxv hxa hxf (ni := 0) (ei := 0) rfl rfl _ (hL.out.below hbx.out))
  clear hpc hcat hJl
  go_wp2_with fail
  refine (c3.out).mono ?_
  rintro e w11 ⟨Vc, Ac, Ec, gv, ga, ge, rfl, hP11, hb11⟩
  obtain ⟨W12, g12, W13, hW12, hg12, hW13, hb12, hb13, hP13, hl13⟩ := pg_store hP11 xv xa xf
  obtain ⟨u0, u1, u2, f0', f1, f2⟩ := pg_box hb12
  have k13 := chain hb11 hl13
  have hb7 := Lib.hid (hb7.out.below k13)
  have hP7 := Lib.hid (hP7.out.keep (Kept.of_below k13))
  have hb10 := Lib.hid (hb10.out.below k13)
  have hP10 := Lib.hid (hP10.out.keep (Kept.of_below k13))
  have hbx := Lib.hid (chain hbx.out k13)
  replace hb13 := Lib.hid hb13
  replace hP13 := Lib.hid hP13
  clear hb11 hP11 hb12 hl13 c3 k13 v0 v1 v2 q0' q1 q2 hW9 hg9 hW10
  -- the region of the appends
  go_wp2_with fail
  obtain ⟨c1, c2, c3⟩ := hcp.out he
  obtain ⟨c4, c5, c6⟩ := hcq.out hf
  obtain ⟨x0, x1, x2, _, _, _⟩ := pg_box hb7.out
  obtain ⟨y0, y1, y2, _, _, _⟩ := pg_box hb10.out
  have l7 := hb7.out.lt
  have l10 := hb10.out.lt
  obtain ⟨sF, hsF, hsF2⟩ := hP7.out.funcs
  obtain ⟨tF, htF, htF2⟩ := hP10.out.funcs
  have hsV := hP7.out.vars
  have hsA := hP7.out.arrays
  have htV := hP10.out.vars
  have htA := hP10.out.arrays
  unfold StrsF at hsV htV
  unfold ArrsF at hsA htA
  rw [hlv] at hsV
  rw [hla'] at hsA
  rw [hlf] at hsF
  rw [hmv] at htV
  rw [hma] at htA
  rw [hmf] at htF
  have hofs := one_fns (by rw [hsF.len, hlf]) hsF2
  have hoft := one_fns (by rw [htF.len, hmf]) htF2
  obtain ⟨cc, hcc⟩ : ∃ cc : Cf, (⟨g6, g9, .pointer (some ⟨g12, 0, none⟩), .int .i64 0, .int .i64 0, Va, Vb, Aa, Ab, Ea, Eb, lv, mv, la, ma, lf, mf, cv, dv, ca, da, ce, de, p.vars.map fun s => [strV s], q.vars.map fun s => [strV s], p.arrays.map fun a => [strV a.1, .int .i64 (a.2 : Int)], q.arrays.map fun a => [strV a.1, .int .i64 (a.2 : Int)], sF, tF⟩ : Cf) = cc := ⟨_, rfl⟩
  have hG : Gv cc W13 := by
    rw [← hcc]
    exact ⟨fun W h => (h.cell (p := ⟨g6, 0, none⟩) l7).trans x0, fun W h => (h.cell (p := ⟨g6, 1, none⟩) l7).trans x1, fun W h => (h.cell (p := ⟨g6, 2, none⟩) l7).trans x2, fun W h => (h.cell (p := ⟨g9, 0, none⟩) l10).trans y0, fun W h => (h.cell (p := ⟨g9, 1, none⟩) l10).trans y1, fun W h => (h.cell (p := ⟨g9, 2, none⟩) l10).trans y2,
      hsV, hsA, hsF, htV, htA, htF, one_strs _, one_arrs _, hofs, one_strs _, one_arrs _, hoft, by show lv + mv ≤ _; omega, by show la + ma ≤ _; omega, by show lf + mf ≤ _; omega⟩
  have hfin := Lib.hid (fun (W : World) (hB : Below W13.heap.size W13 W) (A D E : Option Addr) (x y z : Nat) (r1 : RSt cc W13.heap.size W (.slice A (cc.n1 + cc.n2) x)) (r2 : RAr cc W13.heap.size W (.slice D (cc.a1 + cc.a2) y)) (r3 : RFn cc W13.heap.size W (.slice E (cc.f1 + cc.f2) z)) => show PgM W Any_ (p.app q) A D E x y z by
    rw [← hcc] at r1 r2 r3
    have hk : Kept Any_ W13 W := Kept.of_below hB
    refine ⟨?_, ?_, ?_⟩
    · have r1' : Own0 W13.heap.size 9 1 W (.slice A (lv + mv) x) (lv + mv) ((p.vars.map fun s => [strV s]) ++ (q.vars.map fun s => [strV s])).flatten := by rw [List.flatten_append]; exact r1
      obtain ⟨A', x', e, h⟩ := r1'.row (by decide) (by rw [List.length_append, List.length_map, List.length_map, hlv, hmv]) (fun c hc => by
        rcases List.mem_append.1 hc with h | h <;> (obtain ⟨s, _, rfl⟩ := List.mem_map.1 h; rfl))
      injection e with e1 _ e2
      subst e1 e2
      show RowA W Any_ 1 (p.vars ++ q.vars).length A x ((p.vars ++ q.vars).map fun s => [strV s])
      rw [List.map_append, List.length_append, hlv, hmv]
      exact h.mono fun _ _ _ => trivial
    · have r2' : Own0 W13.heap.size 72 2 W (.slice D (la + ma) y) (la + ma) ((p.arrays.map fun a => [strV a.1, .int .i64 (a.2 : Int)]) ++ (q.arrays.map fun a => [strV a.1, .int .i64 (a.2 : Int)])).flatten := by rw [List.flatten_append]; exact r2
      obtain ⟨A', x', e, h⟩ := r2'.row (by decide) (by rw [List.length_append, List.length_map, List.length_map, hla', hma]) (fun c hc => by
        rcases List.mem_append.1 hc with h | h <;> (obtain ⟨s, _, rfl⟩ := List.mem_map.1 h; rfl))
      injection e with e1 _ e2
      subst e1 e2
      show RowA W Any_ 2 (p.arrays ++ q.arrays).length D y ((p.arrays ++ q.arrays).map fun a => [strV a.1, .int .i64 (a.2 : Int)])
      rw [List.map_append, List.length_append, hla', hma]
      exact h.mono fun _ _ _ => trivial
    · have r3' : Own0 W13.heap.size 44 4 W (.slice E (lf + mf) z) (lf + mf) (sF ++ tF).flatten := by rw [List.flatten_append]; exact r3
      obtain ⟨A', x', e, h⟩ := r3'.row (by decide) (by rw [List.length_append, hsF.len, htF.len]) (fun c hc => by
        rcases List.mem_append.1 hc with h | h
        · exact hsF.each c h
        · exact htF.each c h)
      injection e with e1 _ e2
      subst e1 e2
      refine ⟨sF ++ tF, ?_, fun i f c hf' hc' => ?_⟩
      · show RowA W Any_ 4 (p.funcs ++ q.funcs).length E z (sF ++ tF)
        rw [List.length_append, hlf, hmf]
        exact h.mono fun _ _ _ => trivial
      · have hf2 : (p.funcs ++ q.funcs)[i]? = some f := hf'
        by_cases hi : i < lf
        · rw [List.getElem?_append_left (by rw [hlf]; exact hi)] at hf2
          rw [List.getElem?_append_left (by rw [hsF.len]; exact hi)] at hc'
          exact (hsF2 i f c hf2 hc').keep hk
        · rw [List.getElem?_append_right (by rw [hlf]; omega), hlf] at hf2
          rw [List.getElem?_append_right (by rw [hsF.len]; omega), hsF.len] at hc'
          exact (htF2 _ f c hf2 hc').keep hk)
  have e11 : cc.v11 = .pointer (some ⟨g12, 0, none⟩) := by rw [← hcc]
  have e12 : cc.v12 = .int .i64 0 := by rw [← hcc]
  have e13 : cc.v13 = .int .i64 0 := by rw [← hcc]
  have e5 : cc.g5 = g6 := by rw [← hcc]
  have e8 : cc.g8 = g9 := by rw [← hcc]
  have n1 : cc.n1 + cc.n2 = xv := by rw [← hcc, ← hxv]; show lv + mv = (p.vars ++ q.vars).length; rw [List.length_append, hlv, hmv]
  have n2 : cc.a1 + cc.a2 = xa := by rw [← hcc, ← hxa]; show la + ma = (p.arrays ++ q.arrays).length; rw [List.length_append, hla', hma]
  have n3 : cc.f1 + cc.f2 = xf := by rw [← hcc, ← hxf]; show lf + mf = (p.funcs ++ q.funcs).length; rw [List.length_append, hlf, hmf]
  clear hcc hsV hsA hsF hsF2 htV htA htF htF2 hofs hoft x0 x1 x2 y0 y1 y2 hP7 hP10 hb7 hb10 hcp hcq c1 c2 c3 c4 c5 c6 u0 u1 u2 f0' f1 f2 hW12 hg12 hW13
  refine wp_region_inv (JC cc W13) (by kernel_rfl) (by kernel_rfl) ?hz ?hstep ?hend
  case hz => exact jc_start e5 e8 e11 e12 e13 rfl rfl rfl rfl rfl rfl rfl
  case hstep =>
    intro listed ac wx i hls hcl hJ hi hf hd
    replace hls : listed.size = 24 := hls
    replace hi : i < 24 := hi
    have k6 : listed.getD 6 false = true → listed.getD 3 false = true := fun h => hcl 6 _ rfl h ⟨3, .data⟩ (by simp) rfl
    have k13 : listed.getD 13 false = true → listed.getD 10 false = true := fun h => hcl 13 _ rfl h ⟨10, .data⟩ (by simp) rfl
    have k20 : listed.getD 20 false = true → listed.getD 17 false = true := fun h => hcl 20 _ rfl h ⟨17, .data⟩ (by simp) rfl
    have k21 : listed.getD 21 false = true → listed.getD 6 false = true ∧ listed.getD 13 false = true ∧ listed.getD 20 false = true := fun h => ⟨hcl 21 _ rfl h ⟨6, .data⟩ (by simp) rfl, hcl 21 _ rfl h ⟨13, .data⟩ (by simp) rfl, hcl 21 _ rfl h ⟨20, .data⟩ (by simp) rfl⟩
    have k23 : listed.getD 23 false = true → ∀ e ∈ ((List.range 23).map fun j => (⟨j, .phase⟩ : Edge)), listed.getD e.on false = true := fun h e he => by
      obtain ⟨j, hj, rfl⟩ := List.mem_map.1 he
      have hj2 := List.mem_range.1 hj
      have h3 : j = 0 ∨ j = 1 ∨ j = 2 ∨ j = 3 ∨ j = 4 ∨ j = 5 ∨ j = 6 ∨ j = 7 ∨ j = 8 ∨ j = 9 ∨ j = 10 ∨ j = 11 ∨ j = 12 ∨ j = 13 ∨ j = 14 ∨ j = 15 ∨ j = 16 ∨ j = 17 ∨ j = 18 ∨ j = 19 ∨ j = 20 ∨ j = 21 ∨ j = 22 := by omega
      refine hcl 23 _ rfl h ⟨j, .phase⟩ ?_ rfl
      rcases h3 with rfl | rfl | rfl | rfl | rfl | rfl | rfl | rfl | rfl | rfl | rfl | rfl | rfl | rfl | rfl | rfl | rfl | rfl | rfl | rfl | rfl | rfl | rfl <;> simp
    have h23 : i < 23 → listed.getD 23 false = false := fun hi23 => by
      cases h : listed.getD 23 false with
      | false => rfl
      | true =>
        have := k23 h ⟨i, .phase⟩ (List.mem_map.2 ⟨i, List.mem_range.2 hi23, rfl⟩)
        rw [false_of hf] at this
        cases this
    have hCm : i < 23 → Cm listed := fun hi23 => ⟨hls, h23 hi23, k6, k13, k20, k21⟩
    have h4 : i = 0 ∨ i = 1 ∨ i = 2 ∨ i = 3 ∨ i = 4 ∨ i = 5 ∨ i = 6 ∨ i = 7 ∨ i = 8 ∨ i = 9 ∨ i = 10 ∨ i = 11 ∨ i = 12 ∨ i = 13 ∨ i = 14 ∨ i = 15 ∨ i = 16 ∨ i = 17 ∨ i = 18 ∨ i = 19 ∨ i = 20 ∨ i = 21 ∨ i = 22 ∨ i = 23 := by omega
    clear hi hcl k23 h23
    rcases h4 with rfl | rfl | rfl | rfl | rfl | rfl | rfl | rfl | rfl | rfl | rfl | rfl | rfl | rfl | rfl | rfl | rfl | rfl | rfl | rfl | rfl | rfl | rfl | rfl
    · exact wpOp_of rfl rfl (cop_0 hG hJ (hCm (by decide)) hf)
    · exact wpOp_of rfl rfl (cop_1 hG hJ (hCm (by decide)) hf)
    · exact wpOp_of rfl rfl (cop_2 hG hJ (hCm (by decide)) hf (hd _ rfl ⟨1, .data⟩ (by simp) rfl))
    · exact wpOp_of rfl rfl (cop_3 hG hJ (hCm (by decide)) hf (hd _ rfl ⟨0, .data⟩ (by simp) rfl) (hd _ rfl ⟨2, .data⟩ (by simp) rfl))
    · exact wpOp_of rfl rfl (cop_4 hG hJ (hCm (by decide)) hf)
    · exact wpOp_of rfl rfl (cop_5 hG hJ (hCm (by decide)) hf (hd _ rfl ⟨4, .data⟩ (by simp) rfl))
    · exact wpOp_of rfl rfl (cop_6 hG hJ (hCm (by decide)) hf (hd _ rfl ⟨3, .data⟩ (by simp) rfl) (hd _ rfl ⟨5, .data⟩ (by simp) rfl))
    · exact wpOp_of rfl rfl (cop_7 hG hJ (hCm (by decide)) hf)
    · exact wpOp_of rfl rfl (cop_8 hG hJ (hCm (by decide)) hf)
    · exact wpOp_of rfl rfl (cop_9 hG hJ (hCm (by decide)) hf (hd _ rfl ⟨8, .data⟩ (by simp) rfl))
    · exact wpOp_of rfl rfl (cop_10 hG hJ (hCm (by decide)) hf (hd _ rfl ⟨7, .data⟩ (by simp) rfl) (hd _ rfl ⟨9, .data⟩ (by simp) rfl))
    · exact wpOp_of rfl rfl (cop_11 hG hJ (hCm (by decide)) hf)
    · exact wpOp_of rfl rfl (cop_12 hG hJ (hCm (by decide)) hf (hd _ rfl ⟨11, .data⟩ (by simp) rfl))
    · exact wpOp_of rfl rfl (cop_13 hG hJ (hCm (by decide)) hf (hd _ rfl ⟨10, .data⟩ (by simp) rfl) (hd _ rfl ⟨12, .data⟩ (by simp) rfl))
    · exact wpOp_of rfl rfl (cop_14 hG hJ (hCm (by decide)) hf)
    · exact wpOp_of rfl rfl (cop_15 hG hJ (hCm (by decide)) hf)
    · exact wpOp_of rfl rfl (cop_16 hG hJ (hCm (by decide)) hf (hd _ rfl ⟨15, .data⟩ (by simp) rfl))
    · exact wpOp_of rfl rfl (cop_17 hG hJ (hCm (by decide)) hf (hd _ rfl ⟨14, .data⟩ (by simp) rfl) (hd _ rfl ⟨16, .data⟩ (by simp) rfl))
    · exact wpOp_of rfl rfl (cop_18 hG hJ (hCm (by decide)) hf)
    · exact wpOp_of rfl rfl (cop_19 hG hJ (hCm (by decide)) hf (hd _ rfl ⟨18, .data⟩ (by simp) rfl))
    · exact wpOp_of rfl rfl (cop_20 hG hJ (hCm (by decide)) hf (hd _ rfl ⟨17, .data⟩ (by simp) rfl) (hd _ rfl ⟨19, .data⟩ (by simp) rfl))
    · exact wpOp_of rfl rfl (cop_21 hG hJ (hCm (by decide)) hf (hd _ rfl ⟨6, .data⟩ (by simp) rfl) (hd _ rfl ⟨13, .data⟩ (by simp) rfl) (hd _ rfl ⟨20, .data⟩ (by simp) rfl))
    · exact wpOp_of rfl rfl (cop_22 hG hJ (hCm (by decide)) hf)
    · exact wpOp_of rfl rfl (cop_23 hG hJ hls hf (hd _ rfl ⟨21, .data⟩ (by simp) rfl) (hd _ rfl ⟨22, .data⟩ (by simp) rfl) (hd _ rfl ⟨6, .phase⟩ (by simp) rfl) (hd _ rfl ⟨13, .phase⟩ (by simp) rfl) (hd _ rfl ⟨20, .phase⟩ (by simp) rfl))
  case hend =>
    intro listed ac wx hJ hall
    obtain ⟨g, A, D, E, x, y, z, s14, hg, hblk, r1, r2, r3⟩ := hJ.fin (hall 23 (by decide))
    obtain ⟨t, d⟩ := ac
    have hdf := hJ.dfr
    have hts := hJ.tsz
    have s11 := hJ.s11
    have s12 := hJ.s12
    have s13 := hJ.s13
    have hB := hJ.below
    dsimp only at hdf hts s11 s12 s13 s14
    subst hdf
    obtain ⟨x0, x1, x2, x3, x4, x5, x6, x7, x8, x9, x10, x11, x12, x13, x14, x15, x16, x17, x18, x19, x20, x21, x22, x23, x24, x25, x26, x27, x28, x29, x30, x31, x32, x33, x34, x35, x36, x37, x38, x39, x40, x41, x42, x43, x44, x45, x46, x47, x48, x49, x50, x51, x52, x53, x54, x55, x56, x57, x58, x59, x60, x61, x62, x63, x64, x65, x66, x67, x68, x69, x70, x71, x72, x73, x74, x75, x76, x77, x78, x79, x80, x81, x82, x83, x84, rfl⟩ := arr85 t hts
    replace s11 : x11 = _ := s11
    replace s12 : x12 = _ := s12
    replace s13 : x13 = _ := s13
    replace s14 : x14 = _ := s14
    rw [e11] at s11
    rw [e12] at s12
    rw [e13] at s13
    subst s11 s12 s13 s14
    have hPw := hfin.out wx hB A D E x y z r1 r2 r3
    rw [n1, n2, n3] at hblk
    obtain ⟨p0, p1, p2, _, _, _⟩ := pg_box (hb13.out.below hB)
    obtain ⟨q0, q1, q2, _, _, _⟩ := pg_box hblk
    have cE := Lib.hid (Equal_use (hP13.out.keep (Kept.of_below hB)) hPw hwp.out hxv hxa hxf)
    have hbx := Lib.hid (chain hbx.out hB)
    clear hJ hall hts hg hblk r1 r2 r3 hPw hB hfin hG hP13 hb13
    go_wp2_with fail
    refine (cE.out).mono ?_
    rintro e w15 ⟨rfl, hb15⟩
    have hf15 := Lib.hid (chain hbx.out hb15)
    clear hb15 hbx cE
    go_wp2
    first | go_ret | go_ret2 | skip
    exact ⟨rfl, hf15.out⟩
theorem row_cat (a b : ByteArray) (w : World) (hL : Laid w) (ha : a.size ≤ 140737488351232) (hb : b.size ≤ 140737488351232) : Calls Tryz.prog 9 #[.string a, .string b] w fun e w' => e = .returned (.bool true) ∧ Below w.heap.size w w' := walk_cat a b w hL ha hb
end Go.Proofs.YtpbcncfbfbghcaaGreatDoor.L20
