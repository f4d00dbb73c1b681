/- The contract of the reference's Stripes of layer 16. -/
import Derived.Test.YtcfoclmkhippoaaL16Ref1
import Derived.Test.YtcfoclmkhippoaaL16Ref2
import Derived.Test.YtcfoclmkhippoaaL16Own3
import Derived.Test.YtcfoclmkhippoaaE15Ref4
namespace Go.Proofs.Ytcfoclmkhippoaa.L16
set_option maxRecDepth 100000
open Go.RowKit Mem
open Go.Proofs.Ytcfoclmkhippoaa.G5 Go.Proofs.Ytcfoclmkhippoaa.G7 Go.Proofs.Ytcfoclmkhippoaa.E15
set_option linter.unusedVariables false
set_option linter.unusedSimpArgs false

theorem SoV.below {w w1 : World} {vs : List Value} {L : List (List (List R))} (h : SoV w vs L) (k : Below w.heap.size w w1) : SoV w1 vs L := ⟨h.len, fun i h1 h2 => own_below (h.get i h1 h2) k⟩
/-- A row of slices grows: the stripes lie as they lay. -/
theorem SoV.grows {W w1 : World} {o : Obj} {base k : Nat} {v : Value} {xs vs : List Value} {L : List (List (List R))} (hs : SoV W vs L) (hr : W.ownsRow base 39 1 v k xs) (hg : (W.alloc o).grownBy w1 v.ownBlock) : SoV w1 vs L := by
  have h1 : SoV (W.alloc o) vs L := hs.kept (World.grownBy_alloc W o none) (fun r e => by cases e)
  refine h1.kept hg fun r e => ?_
  rcases (hr.alloc o).2 with ⟨rfl, _⟩ | ⟨g, cap, cur, rfl, _, hgb, _⟩
  · cases e
  · injection e with e
    subst e
    exact ⟨_, hgb, fun cs fz e => by injection e with _ e _; cases e⟩
theorem dat_snoc (x : List R) (a k : Nat) : dat (k + 1) x a = dat k x a ++ [bk x (a + 28 * k) 28] := by simp [dat, List.range_succ]
theorem bs_one_snoc (l : List (List R)) (b : List R) (S : ByteArray) (h : str b = S) : bs (l ++ [b]) = bs l ++ [.string S] := by rw [bs_snoc, h]
theorem bk_byte (c : ByteArray) (a i K : Nat) (hK : a + i = K) (h : K < c.size) : str (bk (el c) a i) ++ c.extract K (K + 1) = str (bk (el c) a (i + 1)) := by
  have e : c.extract K (K + 1) = str [(el c).getD K 0] := by
    rw [← str_el (c.extract K (K + 1)), el_ext c (by omega)]
    congr 1
    rw [List.take_add_one, List.getElem?_eq_getElem (by rw [el_len]; exact h)]
    have hl : K ≤ ((el c).take K).length := by rw [List.length_take, el_len]; omega
    have hl2 : ((el c).take K).length = K := by rw [List.length_take, el_len]; omega
    rw [List.drop_append_of_le_length hl, List.drop_of_length_le (by omega), List.nil_append]
    rw [List.getD_eq_getElem?_getD, List.getElem?_eq_getElem (by rw [el_len]; exact h)]
    rfl
  rw [e, str_app, bk_snoc, hK]
theorem bk_zero (c : ByteArray) (a i K : Nat) (hK : a + i = K) (h : c.size ≤ K) : str (bk (el c) a i) ++ ⟨#[0]⟩ = str (bk (el c) a (i + 1)) := by
  have e : (⟨#[0]⟩ : ByteArray) = str [0#8] := rfl
  rw [e, str_app, bk_snoc, hK]
  congr 2
  rw [List.getD_eq_getElem?_getD, List.getElem?_eq_none (by rw [el_len]; exact h)]
  rfl
set_option maxHeartbeats 4000000 in
theorem rsts_good (n S : Nat) (h1 : 1 ≤ n) (h8 : n ≤ 8) (hS : S ≤ 7) (c : ByteArray) (hc : c.size ≤ 100000) (w : World) : Calls Try.prog 18 #[.agg #[.int .i64 (n : Int), .int .i64 (S : Int)], .string c] w (StsP (n : Int) (S : Int) (el c) w) := by
  have hL : Lok (n : Int) (S : Int) := ⟨by omega, by omega, by omega, by omega⟩
  have cC := fun W => rchk_any (n : Int) (S : Int) W
  unfold lyV at cC
  obtain ⟨z, hz⟩ : ∃ z, 28 * n = z := ⟨_, rfl⟩
  have hfin : ∀ (W : World) (k : Nat) (v : Value) (vs : List Value), W.ownsRow w.heap.size 39 1 v k vs → SsV W vs (sts n S (el c)) → Below w.heap.size w W → StsP (n : Int) (S : Int) (el c) w (.returned (.tuple #[v, .int .i64 0])) W := fun W k v vs h h' h'' => StsP.good hL h h' h''
  obtain ⟨P, hP⟩ : ∃ P, StsP (n : Int) (S : Int) (el c) w = P := ⟨_, rfl⟩
  rw [hP] at hfin ⊢
  have hb0 := boxed w (.cells #[.int .i64 (n : Int), .int .i64 (S : Int)] 23)
  have hs0 : (w.alloc (.cells #[.int .i64 (n : Int), .int .i64 (S : Int)] 23)).heap.size = w.heap.size + 1 := by simp
  have hl0 := vat_alloc w 23 [.int .i64 (n : Int), .int .i64 (S : Int)]
  obtain ⟨W0, hW0⟩ : ∃ W0, w.alloc (.cells #[.int .i64 (n : Int), .int .i64 (S : Int)] 23) = W0 := ⟨_, rfl⟩
  rw [show w.alloc (.cells [.int .i64 (n : Int), .int .i64 (S : Int)].toArray 23) = W0 from hW0] at hl0
  rw [hW0] at hb0 hs0
  obtain ⟨a0, a1⟩ := Cells2.of hl0
  obtain ⟨N, hN⟩ : ∃ N, cnt n (el c).length = N := ⟨_, rfl⟩
  have hcl := fun t => cnt_lt (D := n) (n := (el c).length) (t := t) h1
  rw [hN, hz, el_len] at hcl
  have hN1 : N ≤ 100000 := by rw [← hN]; exact Nat.le_trans (cnt_le h1) (by rw [el_len]; exact hc)
  have hsz : (c.size : Int) ≤ 100000 := by omega
  have z28 : 28 ≤ z := by omega
  have z224 : z ≤ 224 := by omega
  have zi28 : (28 : Int) ≤ (z : Int) := by omega
  have zi224 : (z : Int) ≤ 224 := by omega
  have ez : 28 * (n : Int) = (z : Int) := by omega
  obtain ⟨p, hp⟩ : ∃ p, c.size + z = p := ⟨_, rfl⟩
  have ep : (c.size : Int) + (z : Int) = (p : Int) := by omega
  obtain ⟨q, hq⟩ : ∃ q, p - 1 = q := ⟨_, rfl⟩
  have eq : (p : Int) - 1 = (q : Int) := by omega
  have p1 : (p : Int) ≤ 100224 := by omega
  have q0 : (0 : Int) ≤ (q : Int) := by omega
  have q1 : (q : Int) ≤ 100224 := by omega
  obtain ⟨Q, hQ⟩ : ∃ Q, q / z = Q := ⟨_, rfl⟩
  have hQ1 : Q ≤ 100224 := by rw [← hQ]; exact Nat.le_trans (Nat.div_le_self _ _) (by omega)
  have hQ2 : Q ≤ 65536 := by
    have : q / z ≤ q / 28 := Nat.div_le_div_left z28 (by omega)
    omega
  have eQ : (q : Int) / (z : Int) = (Q : Int) := by rw [← hQ]; rfl
  have eQt : (q : Int).tdiv (z : Int) = (Q : Int) := by rw [← eQ]; exact Int.tdiv_eq_ediv_of_nonneg q0
  have nz1 : ¬ (z : Int) = 0 := by omega
  have nz2 : ((z : Int) == 0) = false := beq_eq_false_iff_ne.2 nz1
  have nz3 : ¬ z = 0 := by omega
  have Q1 : (Q : Int) ≤ 65536 := by omega
  have tQ : decide ((65536 : Int) < (Q : Int)) = false := decide_eq_false (by omega)
  have tQ2 : decide (65536 < Q) = false := decide_eq_false (by omega)
  obtain ⟨i0, hi, hi0, hi1, hi2⟩ := info_parts info_strs
  obtain ⟨j0, hj0, hy0, hy1, hy2⟩ := info_parts info_str
  replace cC := Lib.hid cC
  replace hfin := Lib.hid hfin
  replace hb0 := Lib.hid hb0
  replace hs0 := Lib.hid hs0
  replace hl0 := Lib.hid hl0
  replace hL := Lib.hid hL
  replace hN1 := Lib.hid hN1
  replace hN := Lib.hid hN
  replace hz := Lib.hid hz
  replace hcl := Lib.hid hcl
  replace h1 := Lib.hid h1
  replace h8 := Lib.hid h8
  replace hS := Lib.hid hS
  clear hP hp hq hQ hQ1 hQ2
  show Calls _ _ _ _ (fun e w' => P e w')
  go_enter Try.func18, Try.ntmps18
  go_wp2_with fail
  refine (cC.out _).mono ?_
  rintro e w1 ⟨k, hk, rfl, hb1⟩
  obtain rfl : k = 0 := by
    rcases hk with h | h
    · exact h.1
    · exact absurd hL.out h.2
  have hb2 := hb0.out.trans (hb1.mono (by have := hs0.out; omega))
  have hl1 := hl0.out.below hb1 (by have := hs0.out; omega)
  have hws : w.heap.size < w1.heap.size := by have := hb1.size; have := hs0.out; omega
  obtain ⟨x0, x1⟩ := Cells2.of hl1
  have o1 : (w1.alloc (.cells #[] 39)).ownsRow (w.heap.size + 1) 39 1 (.slice (some ⟨w1.heap.size, 0, none⟩) 0 0) 0 [] := empty_at rfl hws
  have o2 := chain hb2 (boxed w1 (.cells #[] 39))
  have o3 := hl1.below (boxed w1 (.cells #[] 39)) hws
  have o4 : w.heap.size < (w1.alloc (.cells #[] 39)).heap.size := by simp; omega
  clear a0 a1 hW0 hb0 hs0 hl0 hb1 cC hk hb2 hl1
  replace o1 := Lib.hid o1
  replace o2 := Lib.hid o2
  replace o3 := Lib.hid o3
  replace o4 := Lib.hid o4
  go_wp2
  clear x0 x1
  go_loopw [7, 8] (fun ov av wr => ∃ (t a : Nat) (v : Value) (vs : List Value), v = ov ∧ av = .int .i64 (a : Int) ∧ Hid (a = t * z) ∧ Hid (t ≤ N) ∧ Hid (wr.ownsRow (w.heap.size + 1) 39 1 v t vs) ∧ Hid (SoV wr vs (fro n S (el c) t)) ∧ Hid (Below w.heap.size w wr) ∧ Hid (VAt wr w.heap.size [.int .i64 (n : Int), .int .i64 (S : Int)]) ∧ Hid (w.heap.size < wr.heap.size)) (fun _ av _ => c.size + 1000 - (intOf av).toNat)
  case atStart => exact ⟨0, 0, _, [], rfl, rfl, Lib.hid (by simp), Lib.hid (Nat.zero_le _), o1, Lib.hid (SoV.nil _), o2, o3, o4⟩
  case round =>
    clear o1 o2 o3 o4 hws
    obtain ⟨t, a, v, vs, rfl, rfl, ha, ht, hrow, hso, hb, hl, hsz'⟩ := hrel
    by_cases hin : a < c.size
    · have t1 : decide ((a : Int) < (c.size : Int)) = true := decide_eq_true (by omega)
      have a1 : (a : Int) ≤ 100000 := by omega
      have htN : t < N := (hcl.out t).2 (by have := ha.out; omega)
      obtain ⟨x0, x1⟩ := Cells2.of hl.out
      replace htN := Lib.hid htN
      have n8 : (n : Int) ≤ 8 := by have := h8.out; omega
      obtain ⟨w0, rfl⟩ : ∃ W, W = wr := ⟨_, rfl⟩
      go_wp2
      clear x0 x1
      have k1 := fun (W : World) (h : Below w0.heap.size w0 W) => (Cells2.of (hl.out.below h hsz'.out)).c0
      have k2 := fun (W : World) (h : Below w0.heap.size w0 W) => (Cells2.of (hl.out.below h hsz'.out)).c1
      replace k1 := Lib.hid k1
      replace k2 := Lib.hid k2
      go_loopw [9, 10] (fun dv bv wi => ∃ (b : Nat) (vd : Value), vd = dv ∧ bv = .int .i64 (b : Int) ∧ b ≤ n ∧ Hid (wi.ownsRow w0.heap.size 9 1 vd b (bs (dat b (el c) a))) ∧ Hid (Below w0.heap.size w0 wi)) (fun _ bv _ => n - (intOf bv).toNat)
      case atStart => exact ⟨0, _, rfl, rfl, Nat.zero_le _, Lib.hid (World.ownsRow_nil _ _ _ _), Lib.hid (Below.refl _ _)⟩
      case round =>
        obtain ⟨b, vd, rfl, rfl, hbn, hrd, hbd⟩ := hrel
        have x0 := k1.out wr hbd.out
        have x1 := k2.out wr hbd.out
        by_cases hbl : b < n
        · have db : decide ((b : Int) < (n : Int)) = true := decide_eq_true (by omega)
          have b8 : (b : Int) ≤ 8 := by have := h8.out; omega
          obtain ⟨u, hu⟩ : ∃ u, 28 * b = u := ⟨_, rfl⟩
          have eu : 28 * (b : Int) = (u : Int) := by omega
          have u224 : (u : Int) ≤ 224 := by omega
          obtain ⟨y, hy⟩ : ∃ y, a + u = y := ⟨_, rfl⟩
          have ey : (a : Int) + (u : Int) = (y : Int) := by omega
          have y1 : (y : Int) ≤ 100300 := by omega
          have hst := fun i K (h : y + i = K) (h' : K < c.size) => bk_byte c y i K h h'
          have hsz2 := fun i K (h : y + i = K) (h' : c.size ≤ K) => bk_zero c y i K h h'
          have hsn := fun (B : ByteArray) (h : str (bk (el c) y 28) = B) => show bs (dat (b + 1) (el c) a) = bs (dat b (el c) a) ++ [.string B] by
            rw [dat_snoc, bs_snoc, hu, hy, h]
          replace hst := Lib.hid hst
          replace hsz2 := Lib.hid hsz2
          replace hsn := Lib.hid hsn
          clear hu hy
          go_wp2
          go_loop [11, 12] (fun sv iv => ∃ (i : Nat), iv = .int .i64 (i : Int) ∧ i ≤ 28 ∧ sv = .string (str (bk (el c) y i))) (fun _ iv => 28 - (intOf iv).toNat)
          case atStart => exact ⟨0, rfl, by omega, rfl⟩
          case round =>
            obtain ⟨i, rfl, hi28, rfl⟩ := hrel
            by_cases hil : i < 28
            · have di : decide ((i : Int) < 28) = true := decide_eq_true (by omega)
              obtain ⟨K, hK⟩ : ∃ K, y + i = K := ⟨_, rfl⟩
              have eK : (y : Int) + (i : Int) = (K : Int) := by omega
              have K1 : (K : Int) ≤ 100400 := by omega
              have i28 : (i : Int) ≤ 28 := by omega
              have hss : (str (bk (el c) y i)).size = i := by rw [size_str, bk_len]
              obtain ⟨T, hT⟩ : ∃ T, str (bk (el c) y i) = T := ⟨_, rfl⟩
              rw [hT] at hss ⊢
              have s0 : (T.size : Int) ≤ 28 := by omega
              by_cases hKc : K < c.size
              · have tK : decide ((K : Int) < (c.size : Int)) = true := decide_eq_true (by omega)
                have tK2 : decide (K < c.size) = true := decide_eq_true hKc
                have eT := hst.out i K hK hKc
                rw [hT] at eT
                have hxs : (c.extract K (K + 1)).size = 1 := by rw [ByteArray.size_extract]; omega
                obtain ⟨K', hK'⟩ : ∃ K', K + 1 = K' := ⟨_, rfl⟩
                rw [hK'] at eT hxs
                have eK' : (K : Int) + 1 = (K' : Int) := by omega
                have K0 : (0 : Int) ≤ (K : Int) := by omega
                have l1 : K ≤ K' := by omega
                have l2 : (K : Int) ≤ (K' : Int) := by omega
                have l3 : K' ≤ c.size := by omega
                have l4 : (K' : Int) ≤ (c.size : Int) := by omega
                obtain ⟨X, hX⟩ : ∃ X, c.extract K K' = X := ⟨_, rfl⟩
                rw [hX] at eT hxs
                have s1 : (X.size : Int) ≤ 1 := by omega
                have s3 : ¬ 9223372036854775807 < T.size + X.size := by omega
                obtain ⟨T', hT'⟩ : ∃ T', str (bk (el c) y (i + 1)) = T' := ⟨_, rfl⟩
                rw [hT'] at eT
                replace hT' := Lib.hid hT'
                clear hK hT hKc hxs hss hK'
                go_wp2
                go_round
                case rel => exact ⟨i + 1, by go_num, by omega, by rw [hT'.out]⟩
                case measure => simp [intOf]; omega
              · have tK : decide ((K : Int) < (c.size : Int)) = false := decide_eq_false (by omega)
                have tK2 : decide (K < c.size) = false := decide_eq_false hKc
                have eT := hsz2.out i K hK (by omega)
                rw [hT] at eT
                have s3 : ¬ 9223372036854775807 < T.size + (⟨#[0]⟩ : ByteArray).size := by show ¬ _ < T.size + 1; omega
                obtain ⟨T', hT'⟩ : ∃ T', str (bk (el c) y (i + 1)) = T' := ⟨_, rfl⟩
                rw [hT'] at eT
                replace hT' := Lib.hid hT'
                clear hK hT hKc hss
                go_wp2
                go_round
                case rel => exact ⟨i + 1, by go_num, by omega, by rw [hT'.out]⟩
                case measure => simp [intOf]; omega
            · obtain rfl : i = 28 := by omega
              have di : decide (((28 : Nat) : Int) < 28) = false := by decide
              have di2 : decide ((28 : Int) < 28) = false := by decide
              obtain ⟨T, hT⟩ : ∃ T, str (bk (el c) y 28) = T := ⟨_, rfl⟩
              rw [hT]
              have hsn2 := Lib.hid (hsn.out T hT)
              have hro := hrd.out
              have hbo := hbd.out
              have e3 := hbo.size
              clear hT hrd hbd hst hsz2 hsn
              go_wp2_with (at_builtin; refine wpList_append_own _ rfl _ _ 39 rfl w0.heap.size 9 j0 (.string ⟨#[]⟩) 1 16 Try.underlying39 hj0 hy0 hy1 hy2 rfl (by decide) _ _ _ rfl (hro.alloc _) ⟨wr.heap.size, 0, none⟩ 1 1 [.string T] rfl rfl (one_new _ _ _) (one_str _) (by unfold maxLen; omega) (by omega) (by simp; omega) ?_; intro v' w6 hown' hgrow _)
              have hb6 := (hbo.alloc e3 _).grown hgrow (by simp; omega) (fun j hj => (hro.lt j hj).1)
              rw [← hsn2.out] at hown'
              clear hgrow hro hbo e3
              go_roundw
              case rel => exact ⟨b + 1, _, rfl, by go_num, by omega, Lib.hid hown', Lib.hid hb6⟩
              case measure => simp [intOf]; omega
        · obtain rfl : b = n := by omega
          have db : decide ((b : Int) < (b : Int)) = false := decide_eq_false (by omega)
          obtain ⟨_, A1, c1, rfl, hB1⟩ := IsBs.of_own hrd.out
          have cE := rencode_any (S : Int) (by have := hS.out; omega) hB1 (by have := h8.out; omega) (fun b hb => by rw [dat_28 b hb]; decide)
          have hsp := Lib.hid (fun k bl (h : EncQ (dat b (el c) a) (S : Int) k bl) => enc_spr (D := b) (S := S) (x := el c) (a := a) h1.out (by have := h8.out; have := hS.out; omega) h)
          have hsl := spr_len b S (el c) a
          have hst : bs (dat b (el c) a) ++ bs (spr b S (el c) a) = bs (stp b S (el c) a) := by unfold stp bs; rw [List.map_append]
          have hstl := stp_len b S (el c) a
          have hae : a = t * (28 * b) := by rw [hz.out]; exact ha.out
          replace cE := Lib.hid cE
          replace hsl := Lib.hid hsl
          replace hst := Lib.hid hst
          replace hstl := Lib.hid hstl
          replace hae := Lib.hid hae
          clear hB1 hbl
          go_wp2_with fail
          refine (cE.out).mono ?_
          rintro e w5 ⟨k, bl, A2, c2, hq, rfl, hB2, hb5⟩
          obtain ⟨rfl, rfl⟩ := hsp.out k bl hq
          rw [hsl.out] at hB2 ⊢
          have hb3 := chain hbd.out hb5
          have hr2 := own_below hrd.out hb5
          have e1 : b + S ≤ maxLen := by have := h8.out; have := hS.out; unfold maxLen; omega
          have e2 : (b + S) * 16 ≤ 140737488355328 := by have := h8.out; have := hS.out; omega
          have e4 : w0.heap.size ≤ w5.heap.size := hb3.size
          have hone := bs_one (spr b S (el c) a)
          have hbl : (bs (spr b S (el c) a)).length = S := by rw [bs_len, hsl.out]
          have hnil := hB2.nil
          have hrd2 := hB2.rd
          have f1 : t + 1 ≤ maxLen := by have := ht.out; have := hN1.out; unfold maxLen; omega
          have f2 : (t + 1) * 24 ≤ 140737488355328 := by have := ht.out; have := hN1.out; omega
          replace hrd2 := Lib.hid hrd2
          replace hbl := Lib.hid hbl
          replace hone := Lib.hid hone
          replace hnil := Lib.hid hnil
          replace hb3 := Lib.hid hb3
          clear x0 x1 cE hq hB2 hsp hb5 hbd hrd
          have hkp : ∀ (W : World) (n' : Nat) (X : Value), W.ownsRow 0 9 1 X n' (bs (stp b S (el c) a)) → X.oneCell' = true := fun W n' X h => by
            obtain ⟨A, cap, rfl, _⟩ := own_slice h
            rfl
          replace hkp := Lib.hid hkp
          go_wp2_with (first
            | (at_builtin; refine wpList_append_rd rfl _ _ 39 rfl w0.heap.size 9 j0 (.string ⟨#[]⟩) 16 Try.underlying39 hj0 hy0 hy1 hy2 rfl _ b _ rfl hr2 A2 S c2 _ rfl hrd2.out hbl.out hnil.out hone.out e1 e2 e4 ?_; intro v' w6 hown' hgrow; rw [hst.out] at hown'; have hb6 := hb3.out.grown hgrow e4 (fun j hj => (hr2.lt j hj).1); obtain ⟨A3, c3, rfl, _, _⟩ := own_slice hown'; have hrow6 := own_below hrow.out hb6; have hso6 := hso.out.below hb6; have hbw6 := hb.out.trans (hb6.mono hb.out.size); have hl6 := hl.out.below hb6 hsz'.out; have hs6 := hb6.size; clear hgrow hr2 hb3 hrow hso hb e4 hb6)
            | (at_builtin; refine wpList_append_own _ rfl _ _ 34 rfl (w.heap.size + 1) 39 i0 (.slice none 0 0) 1 24 Try.underlying34 hi hi0 hi1 hi2 rfl (by decide) _ _ _ rfl (hrow6.alloc _) ⟨w6.heap.size, 0, none⟩ 1 1 [.slice A3 (b + S) c3] rfl rfl (one_new _ _ _) (fun u hu => by rw [List.mem_singleton.1 hu]; rfl) f1 f2 (by have := hsz'.out; rw [World.size_alloc]; omega) ?_; intro v'' w7 hown7 hgrow7 _))
          have hs8 : ∀ o, w.heap.size + 1 ≤ (w6.alloc o).heap.size := fun o => by have := hsz'.out; rw [World.size_alloc]; omega
          have hb8 := (((Below.refl (w.heap.size + 1) w6).alloc (by have := hsz'.out; omega) _).grown hgrow7 (hs8 _) (fun j hj => (hrow6.lt j hj).1))
          have hb7 := hbw6.trans (hb8.mono (Nat.le_succ _))
          have hso7 := (hso6.snoc (v := .slice A3 (b + S) c3) (S := stp b S (el c) a) (by rw [hstl.out]; exact own_mono hown' (Nat.zero_le _))).grows hrow6 hgrow7
          have hl7 := hl6.below hb8 (Nat.lt_succ_self _)
          have hs7 : w.heap.size < w7.heap.size := by have h9 := hgrow7.size; rw [World.size_alloc] at h9; have := hsz'.out; omega
          clear hgrow7 hown' hrow6 hso6 hbw6 hl6 hs6 hs8 hb8
          go_roundw
          case rel => exact ⟨t + 1, a + z, _, _, rfl, by go_num, Lib.hid (by rw [ha.out, Nat.add_mul, Nat.one_mul]), Lib.hid htN.out, Lib.hid hown7, Lib.hid (by rw [fro_snoc, ← hae.out]; exact hso7), Lib.hid hb7, Lib.hid hl7, Lib.hid hs7⟩
          case measure => simp [intOf]; omega
    · have t1 : decide ((a : Int) < (c.size : Int)) = false := decide_eq_false (by omega)
      have t2 : decide (a < c.size) = false := decide_eq_false hin
      have htN : t = N := by
        have h2 := ht.out
        have h3 := (hcl.out t).1
        have h4 := ha.out
        rcases Nat.lt_or_ge t N with h | h
        · have := h3 h
          omega
        · omega
      have hss := hso.out.ss
      rw [htN, ← hN.out] at hss
      have hf := Lib.hid (hfin.out wr _ _ _ (own_mono hrow.out (Nat.le_succ _)) hss hb.out)
      clear hfin hss htN hrow hso hb hl ha ht hcl hin
      go_wp2
      first | go_ret2 | skip
      exact hf.out
set_option maxHeartbeats 4000000 in
theorem rsts_any (D S : Int) (c : ByteArray) (hc : c.size ≤ 100000) (w : World) : Calls Try.prog 18 #[lyV D S, .string c] w (StsP D S (el c) w) := by
  by_cases hL : Lok D S
  · obtain ⟨n, rfl⟩ := Int.eq_ofNat_of_zero_le (show 0 ≤ D by have := hL.1; omega)
    obtain ⟨m, rfl⟩ := Int.eq_ofNat_of_zero_le hL.2.2.1
    exact rsts_good n m (by have := hL.1; omega) (by have := hL.2.1; omega) (by have := hL.2.2.2; omega) c hc w
  · have cC := fun W => rchk_any D S W
    unfold lyV at cC ⊢
    have bad := fun (w' : World) (hb : Below w.heap.size w w') => StsP.bad (x := el c) hL hb
    obtain ⟨P, hP⟩ : ∃ P, StsP D S (el c) w = P := ⟨_, rfl⟩
    rw [hP] at bad ⊢
    have bx := Cells2.of (vat_alloc w 23 [.int .i64 D, .int .i64 S])
    have hb0 := boxed w (.cells #[.int .i64 D, .int .i64 S] 23)
    obtain ⟨W0, hW0⟩ : ∃ W0, w.alloc (.cells #[.int .i64 D, .int .i64 S] 23) = W0 := ⟨_, rfl⟩
    rw [show w.alloc (.cells [.int .i64 D, .int .i64 S].toArray 23) = W0 from hW0] at bx
    rw [hW0] at hb0
    obtain ⟨a0, a1⟩ := bx
    replace cC := Lib.hid cC
    replace bad := Lib.hid bad
    replace hb0 := Lib.hid hb0
    replace hL := Lib.hid hL
    clear hP
    show Calls _ _ _ _ (fun e w' => P e w')
    go_enter Try.func18, Try.ntmps18
    go_wp2_with fail
    refine (cC.out _).mono ?_
    rintro e w1 ⟨k, hk, rfl, hb1⟩
    obtain rfl : k = 2 := by
      rcases hk with h | h
      · exact absurd h.2 hL.out
      · exact h.1
    have fin := Lib.hid (bad.out _ (chain hb0.out hb1))
    clear a0 a1 hW0 cC bad hb0 hb1 hk
    go_wp2
    first | go_ret2 | skip
    exact fin.out
end Go.Proofs.Ytcfoclmkhippoaa.L16
