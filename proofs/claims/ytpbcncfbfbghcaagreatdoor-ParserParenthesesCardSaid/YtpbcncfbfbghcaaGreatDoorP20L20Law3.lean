/- ParserParentheses, walked (layer 20). -/
import Derived.Test.YtpbcncfbfbghcaaGreatDoorP20T
import Derived.Test.YtpbcncfbfbghcaaGreatDoorP20C
import Derived.Test.YtpbcncfbfbghcaaGreatDoorP20R
namespace Go.Proofs.YtpbcncfbfbghcaaGreatDoor.L20
set_option maxRecDepth 100000
open Go.RowKit Mem L19
open M17 (Laid Laid.below)
set_option linter.unusedVariables false
set_option linter.unusedSimpArgs false

/-- What makes a text broken at a place. -/
def badAt (l : Str) (j : Nat) : Prop := l[j]? = some 59 ∨ l[j]? = some 123 ∨ l[j]? = some 125 ∨ (0 < j ∧ l[j]? = some 47 ∧ l[j - 1]? = some 47)
theorem not_bad {l : Str} (h : ∀ j, j < l.length → ¬ badAt l j) : NoSl l ∧ (59 : UInt8) ∉ l ∧ (125 : UInt8) ∉ l := by
  refine ⟨fun a b e => ?_, fun hm => ?_, fun hm => ?_⟩
  · have hl : a.length + 1 < l.length := by rw [← e]; simp
    refine h (a.length + 1) hl (.inr (.inr (.inr ⟨by omega, ?_, ?_⟩)))
    · rw [← e]; simp
    · rw [← e]; simp
  · obtain ⟨j, hj, e⟩ := List.mem_iff_getElem.1 hm
    exact h j hj (.inl (by rw [List.getElem?_eq_getElem hj, e]))
  · obtain ⟨j, hj, e⟩ := List.mem_iff_getElem.1 hm
    exact h j hj (.inr (.inr (.inl (by rw [List.getElem?_eq_getElem hj, e]))))
theorem byte_at {s : ByteArray} {k : Nat} (h : k < s.size) : s.data.toList[k]? = some (s[k]'h) := by
  rw [Array.getElem?_toList]
  exact Array.getElem?_eq_getElem h
theorem u8_eq (a : UInt8) (n : Nat) (hn : n < 256) : ((a.toNat : Int) == (n : Int)) = decide (a = UInt8.ofNat n) := by
  rw [Bool.eq_iff_iff, beq_iff_eq, decide_eq_true_iff]
  constructor
  · intro h
    apply UInt8.toNat_inj.1
    rw [UInt8.toNat_ofNat_of_lt' (by show n < 256; exact hn)]
    omega
  · rintro rfl
    rw [UInt8.toNat_ofNat_of_lt' (by show n < 256; exact hn)]
set_option maxHeartbeats 8000000 in
theorem broken_any (s : ByteArray) (w : World) (hs : s.size ≤ 1000) : Calls Tryz.prog 22 #[.string s] w fun e w' => (∃ b : Bool, e = .returned (.bool b) ∧ (b = false → NoSl s.data.toList ∧ (59 : UInt8) ∉ s.data.toList ∧ (125 : UInt8) ∉ s.data.toList)) ∧ w' = w := by
  have hls : s.data.toList.length = s.size := by simp
  obtain ⟨n, hn⟩ : ∃ n, s.size = n := ⟨_, rfl⟩
  have hn1 : (n : Int) ≤ 1000 := by omega
  go_enter Tryz.func22, Tryz.ntmps22
  go_wp2
  go_loopw [3] (fun iv wr => ∃ k : Nat, iv = .int .i64 (k : Int) ∧ k ≤ n ∧ (∀ j, j < k → ¬ badAt s.data.toList j) ∧ wr = w) (fun iv _ => n - (intOf iv).toNat)
  case atStart => exact ⟨0, rfl, Nat.zero_le _, fun j hj => absurd hj (Nat.not_lt_zero j), rfl⟩
  case round =>
    obtain ⟨k, rfl, hk, hbad, rfl⟩ := hrel
    by_cases hlt : k < n
    · have hks : k < s.size := by omega
      have hby := byte_at hks
      have dk : decide ((k : Int) < (n : Int)) = true := decide_eq_true (by omega)
      have k0 : (0 : Int) ≤ (k : Int) := by omega
      have k1 : (k : Int) < (n : Int) := by omega
      obtain ⟨y, hy⟩ : ∃ y, s[k]'hks = y := ⟨_, rfl⟩
      have hnext : ¬ badAt s.data.toList k → ∀ j, j < k + 1 → ¬ badAt s.data.toList j := fun h j hj => by
        rcases Nat.lt_or_ge j k with h1 | h1
        · exact hbad j h1
        · obtain rfl : j = k := by omega
          exact h
      have hby2 : s.data.toList[k]? = some y := by rw [hby, hy]
      have e1 : ((y.toNat : Int) == 59) = decide (y = 59) := u8_eq y 59 (by decide)
      have e2 : ((y.toNat : Int) == 123) = decide (y = 123) := u8_eq y 123 (by decide)
      have e3 : ((y.toNat : Int) == 125) = decide (y = 125) := u8_eq y 125 (by decide)
      have e4 : ((y.toNat : Int) == 47) = decide (y = 47) := u8_eq y 47 (by decide)
      replace hnext := Lib.hid hnext
      replace hby2 := Lib.hid hby2
      clear hby hbad
      by_cases h1 : y = 59
      · rw [decide_eq_true h1] at e1
        go_wp2
        first | go_ret | go_ret2 | skip
        exact ⟨⟨true, rfl, fun h => by cases h⟩, rfl⟩
      rw [decide_eq_false h1] at e1
      by_cases h2 : y = 123
      · rw [decide_eq_true h2] at e2
        go_wp2
        first | go_ret | go_ret2 | skip
        exact ⟨⟨true, rfl, fun h => by cases h⟩, rfl⟩
      rw [decide_eq_false h2] at e2
      by_cases h3 : y = 125
      · rw [decide_eq_true h3] at e3
        go_wp2
        first | go_ret | go_ret2 | skip
        exact ⟨⟨true, rfl, fun h => by cases h⟩, rfl⟩
      rw [decide_eq_false h3] at e3
      by_cases hk0 : k = 0
      · subst hk0
        have hnb := Lib.hid (hnext.out (by
          have hb := hby2.out
          unfold badAt
          rw [hb]
          rintro (h | h | h | ⟨h0, h, h'⟩)
          · exact h1 (Option.some.inj h)
          · exact h2 (Option.some.inj h)
          · exact h3 (Option.some.inj h)
          · exact absurd h0 (Nat.lt_irrefl 0)))
        clear hnext hby2
        go_wp2
        go_roundw
        case rel => exact ⟨1, by go_num, by omega, hnb.out, trivial⟩
        case measure => simp [intOf]; omega
      have d0 : decide ((0 : Int) < (k : Int)) = true := decide_eq_true (by omega)
      by_cases h4 : y = 47
      rotate_left
      · rw [decide_eq_false h4] at e4
        have hnb := Lib.hid (hnext.out (by
          have hb := hby2.out
          unfold badAt
          rw [hb]
          rintro (h | h | h | ⟨h0, h, h'⟩)
          · exact h1 (Option.some.inj h)
          · exact h2 (Option.some.inj h)
          · exact h3 (Option.some.inj h)
          · exact h4 (Option.some.inj h)))
        clear hnext hby2
        go_wp2
        go_roundw
        case rel => exact ⟨k + 1, by go_num, by omega, hnb.out, trivial⟩
        case measure => simp [intOf]; omega
      rw [decide_eq_true h4] at e4
      obtain ⟨m, hm⟩ : ∃ m, k - 1 = m := ⟨_, rfl⟩
      have hms : m < s.size := by omega
      have hkk : (k : Int) - 1 = (m : Int) := by omega
      have hby3 := byte_at hms
      obtain ⟨z, hz⟩ : ∃ z, s[m]'hms = z := ⟨_, rfl⟩
      rw [hz] at hby3
      have e5 : ((z.toNat : Int) == 47) = decide (z = 47) := u8_eq z 47 (by decide)
      have m0 : (0 : Int) ≤ (m : Int) := by omega
      have m1 : (m : Int) < (n : Int) := by omega
      by_cases h5 : z = 47
      · rw [decide_eq_true h5] at e5
        clear hby3
        go_wp2
        first | go_ret | go_ret2 | skip
        exact ⟨⟨true, rfl, fun h => by cases h⟩, rfl⟩
      rw [decide_eq_false h5] at e5
      replace hby3 := Lib.hid hby3
      have hnb := Lib.hid (hnext.out (by
        have hb := hby2.out
        unfold badAt
        rw [hb]
        rintro (h | h | h | ⟨h0, h, h'⟩)
        · exact h1 (Option.some.inj h)
        · exact h2 (Option.some.inj h)
        · exact h3 (Option.some.inj h)
        · rw [hm, hby3.out] at h'; exact h5 (Option.some.inj h')))
      clear hnext hby2
      go_wp2
      go_roundw
      case rel => exact ⟨k + 1, by go_num, by omega, hnb.out, trivial⟩
      case measure => simp [intOf]; omega
    · obtain rfl : k = n := by omega
      have dk : decide ((k : Int) < (k : Int)) = false := decide_eq_false (by omega)
      have hfin := Lib.hid (not_bad fun j hj => hbad j (by omega))
      clear hbad
      go_wp2
      first | go_ret | go_ret2 | skip
      exact ⟨⟨false, rfl, fun _ => hfin.out⟩, rfl⟩
theorem rep_one (c : UInt8) : ∀ k, Lib.repeatL [c] k = List.replicate k c
  | 0 => rfl
  | k + 1 => by rw [Lib.repeatL, rep_one c k, List.replicate_succ]; rfl
set_option maxHeartbeats 16000000 in
theorem walk_parens (s : ByteArray) (b : Nat) (hb256 : b < 256) (w : World) (hL : Laid w) (hs : s.size ≤ 140737488351232) :
    Calls Tryz.prog 7 #[.string s, .int .u8 (b : Int)] w fun e w' => e = .returned (.bool true) ∧ Below w.heap.size w w' := by
  have c0 := Lib.hid (alive_any w hL)
  have hL := Lib.hid hL
  by_cases h6 : 60 < s.size
  · have d6 : decide ((60 : Int) < (s.size : Int)) = true := decide_eq_true (by omega)
    clear h6
    go_enter Tryz.func7, Tryz.ntmps7
    go_wp2_with fail
    refine (c0.out).mono ?_
    rintro e w1 ⟨rfl, hb1⟩
    go_wp2
    first | go_ret | skip
    exact ⟨rfl, hb1⟩
  have d6 : decide ((60 : Int) < (s.size : Int)) = false := decide_eq_false (by omega)
  have a6 : (s.size : Int) ≤ 60 := by omega
  have hls : s.data.toList.length = s.size := by simp
  obtain ⟨r, hr⟩ : ∃ r, b % 30 = r := ⟨_, rfl⟩
  have r1 : r < 30 := by omega
  have b1 : IntKind.i64.wrap (b : Int) = (b : Int) := by rw [IntKind.wrap_i64]; omega
  have b2 : Int.tmod (b : Int) 30 = (r : Int) := by rw [← hr]; rfl
  have r0 : (0 : Int) ≤ (r : Int) := by omega
  have r2 : (r : Int) < 30 := by omega
  have b3 : (1 : Int) + (r : Int) = ((r + 1 : Nat) : Int) := by omega
  obtain ⟨k, hk⟩ : ∃ k, r + 1 = k := ⟨_, rfl⟩
  rw [hk] at b3
  have k1 : (k : Int) ≤ 30 := by omega
  obtain ⟨⟨p, n, e0⟩, hpq⟩ : ∃ q, parse (bod s.data.toList) = q := ⟨_, rfl⟩
  obtain ⟨lv, hlv⟩ : ∃ n, p.vars.length = n := ⟨_, rfl⟩
  obtain ⟨la, hla⟩ : ∃ n, p.arrays.length = n := ⟨_, rfl⟩
  obtain ⟨lq, hlq⟩ : ∃ n, p.funcs.length = n := ⟨_, rfl⟩
  obtain ⟨ni, hni⟩ : ∃ x : Int, (n : Int) = x := ⟨_, rfl⟩
  obtain ⟨ei, hei⟩ : ∃ x : Int, (e0 : Int) = x := ⟨_, rfl⟩
  have cB := Lib.hid (fun W => body_any s W (by omega))
  have cP := Lib.hid (fun (S : ByteArray) (W : World) (h : S.data.toList = bod s.data.toList) (hl : Laid W) => Parse_use S (by rw [h]; exact hpq) hlv hla hlq hni hei W hl)
  have hpr := Lib.hid (fun (h1 : NoSl s.data.toList) (h2 : (59 : UInt8) ∉ s.data.toList) (h3 : (125 : UInt8) ∉ s.data.toList) (he : e0 = 0) => parens (by omega) h1 h2 h3 hpq he (k := r) (by omega))
  have hwf := Lib.hid (fun (he : e0 = 0) => (parse_ok hpq he).2.1)
  rw [hk] at hpr
  have cK := Lib.hid (broken_any s · (by omega))
  have cR1 := Lib.hid (fun W => Tryz.strings_Repeat ⟨#[40]⟩ k W (by omega) (by rw [show (ByteArray.mk #[40]).size = 1 from rfl]; omega))
  have cR2 := Lib.hid (fun W => Tryz.strings_Repeat ⟨#[41]⟩ k W (by omega) (by rw [show (ByteArray.mk #[41]).size = 1 from rfl]; omega))
  clear hpq hr hk h6
  go_enter Tryz.func7, Tryz.ntmps7
  go_wp2_with fail
  refine (c0.out).mono ?_
  rintro e w1 ⟨rfl, hb1⟩
  have hb1 := Lib.hid hb1
  go_wp2_with fail
  refine (cB.out _).mono ?_
  rintro e w2 ⟨⟨S, hS, rfl⟩, rfl⟩
  have c1 := Lib.hid (cP.out S w2 hS (hL.out.below hb1.out))
  clear hS cB c0
  go_wp2_with fail
  refine (c1.out).mono ?_
  rintro e w5 ⟨Va, Aa, Ea, cv, ca, ce, rfl, hP5, hb5⟩
  obtain ⟨W6, g6, W7, hW6, hg6, hW7, hb6, hb7, hP7, hl7⟩ := pg_store hP5 lv la lq
  obtain ⟨u0, u1, u2, f0, f1, f2⟩ := pg_box hb6
  obtain ⟨x0, x1, x2, _, _, _⟩ := pg_box hb7
  have hbx := Lib.hid (chain hb1.out (chain hb5 hl7))
  replace hb7 := Lib.hid hb7
  replace hP7 := Lib.hid hP7
  have hlqc := hP5.funcs.elim fun css h => h.1.le
  clear hb5 hP5 hb6 hl7 c1 hb1
  have q0 : (0 : Int) ≤ (lq : Int) := by omega
  by_cases he : e0 = 0
  rotate_left
  · have t1 : (ei != 0) = true := bne_iff_ne.2 (by omega)
    go_wp2
    first | go_ret | go_ret2 | skip
    exact ⟨rfl, hbx.out⟩
  have t1 : (ei != 0) = false := by rw [← hei, he]; rfl
  by_cases hf : lq = 1
  rotate_left
  · have t2 : ((lq : Int) != 1) = true := bne_iff_ne.2 (by omega)
    go_wp2
    first | go_ret | go_ret2 | skip
    exact ⟨rfl, hbx.out⟩
  subst hf
  have hfl : p.funcs.length = 1 := hlq
  obtain ⟨f, hf⟩ : ∃ f, p.funcs[0]? = some f := ⟨_, List.getElem?_eq_getElem (by omega)⟩
  obtain ⟨b0, o0, P0, L0, B0, cp0, cl0, cb0, rfl, _, hb0l, hp0, hlo0, hbo0, hcell⟩ := hP7.out.funcs.at hf
  have y3 := hcell 3 _ rfl
  simp only [Nat.zero_mul, Nat.zero_add, Nat.add_zero] at y3
  obtain ⟨m, hm⟩ : ∃ m, f.body.length = m := ⟨_, rfl⟩
  rw [hm] at y3
  clear hcell hp0 hlo0 hbo0 hf
  by_cases hm1 : m = 1
  rotate_left
  · have t3 : ((m : Int) != 1) = true := bne_iff_ne.2 (by omega)
    go_wp2
    first | go_ret | go_ret2 | skip
    exact ⟨rfl, hbx.out⟩
  subst hm1
  go_wp2_with fail
  refine (cK.out _).mono ?_
  rintro e w8 ⟨⟨q, rfl, hq⟩, rfl⟩
  cases q with
  | true =>
    go_wp2
    first | go_ret | go_ret2 | skip
    exact ⟨rfl, hbx.out⟩
  | false =>
    obtain ⟨n1, n2, n3⟩ := hq rfl
    have hres := hpr.out n1 n2 n3 he
    have hwp := Lib.hid (hwf.out he)
    clear hpr hwf hq n1 n2 n3 cK y3 hm
    go_wp2_with fail
    refine (cR1.out _).mono ?_
    rintro e w9 ⟨rfl, hb9⟩
    have z9 := hb9
    obtain ⟨R1, hR1⟩ : ∃ R1 : ByteArray, ⟨(Lib.repeatL (⟨#[40]⟩ : ByteArray).data.toList k).toArray⟩ = R1 := ⟨_, rfl⟩
    have l1 : R1.data.toList = List.replicate k 40 := by rw [← hR1]; exact rep_one 40 k
    rw [hR1]
    have s1 : R1.size ≤ 30 := by rw [str_len l1, List.length_replicate]; omega
    clear hR1 cR1
    go_wp2_with fail
    refine (cR2.out _).mono ?_
    rintro e w10 ⟨rfl, hb10⟩
    obtain ⟨R2, hR2⟩ : ∃ R2 : ByteArray, ⟨(Lib.repeatL (⟨#[41]⟩ : ByteArray).data.toList k).toArray⟩ = R2 := ⟨_, rfl⟩
    have l2 : R2.data.toList = List.replicate k 41 := by rw [← hR2]; exact rep_one 41 k
    rw [hR2]
    have s2 : R2.size ≤ 30 := by rw [str_len l2, List.length_replicate]; omega
    clear hR2 cR2
    have hPl : (R1 ++ s ++ R2).data.toList = List.replicate k 40 ++ s.data.toList ++ List.replicate k 41 := by rw [three_bytes, l1, l2]
    obtain ⟨PP, hPP⟩ : ∃ P, R1 ++ s ++ R2 = P := ⟨_, rfl⟩
    rw [hPP] at hPl
    rw [← hPl] at hres
    have cB2 := Lib.hid (body_any PP w10 (by rw [str_len hPl]; simp only [List.length_append, List.length_replicate]; omega))
    have k10 := chain hb9 hb10
    have hbx := Lib.hid (chain hbx.out k10)
    have hb7 := Lib.hid (hb7.out.below k10)
    have hP7 := Lib.hid (hP7.out.keep (Kept.of_below k10))
    clear hb9 hb10 z9 hPl l1 l2 k10 u0 u1 u2 f0 f1 f2 hW6 hg6 hW7 x0 x1 x2
    go_wp2_with fail
    refine (cB2.out).mono ?_
    rintro e w11 ⟨⟨S2, hS2, rfl⟩, rfl⟩
    rw [← hS2] at hres
    have c2 := Lib.hid (Parse_use S2 hres hlv hla hlq (ni := 0) (ei := 0) rfl rfl _ (hL.out.below hbx.out))
    clear hres hS2 cB2
    go_wp2_with fail
    refine (c2.out).mono ?_
    rintro e w12 ⟨Vb, Ab, Eb, dv, da, de, rfl, hP12, hb12⟩
    obtain ⟨W13, g13, W14, hW13, hg13, hW14, hb13, hb14, hP14, hl14⟩ := pg_store hP12 lv la 1
    obtain ⟨u0, u1, u2, f0, f1, f2⟩ := pg_box hb13
    have k14 := chain hb12 hl14
    obtain ⟨x0, x1, x2, _, _, _⟩ := pg_box (hb7.out.below k14)
    obtain ⟨y0, y1, y2, _, _, _⟩ := pg_box hb14
    have cE := Lib.hid (Equal_use (hP7.out.keep (Kept.of_below k14)) hP14 hwp.out hlv hla hlq)
    have hbx := Lib.hid (chain hbx.out k14)
    clear hP12 hb12 hb13 hb14 hP14 hl14 k14 hb7 hP7 c2
    go_wp2_with fail
    refine (cE.out).mono ?_
    rintro e w15 ⟨rfl, hb15⟩
    have hfin := Lib.hid (chain hbx.out hb15)
    clear hb15 hbx cE
    go_wp2
    first | go_ret | go_ret2 | skip
    exact ⟨rfl, hfin.out⟩
/-- The same at what the reading says. -/
theorem row_parens (s : ByteArray) (z : Int) (w : World) (hL : Laid w) (hs : s.size ≤ 140737488351232) (q1 : (Lit.int .u8 z).wf = true) : Calls Tryz.prog 7 #[.string s, .int .u8 z] w fun e w' => e = .returned (.bool true) ∧ Below w.heap.size w w' := by
  have h1 : 0 ≤ z ∧ z ≤ 255 := (Lit.wf_int_iff .u8 _).1 q1
  obtain ⟨b, rfl⟩ : ∃ b : Nat, z = (b : Int) := ⟨z.toNat, by omega⟩
  exact walk_parens s b (by omega) w hL hs
end Go.Proofs.YtpbcncfbfbghcaaGreatDoor.L20
