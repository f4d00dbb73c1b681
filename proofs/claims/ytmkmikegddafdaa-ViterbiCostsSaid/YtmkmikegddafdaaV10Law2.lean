/- The walk of the law ViterbiCorrection, under the package's contracts. -/
import Derived.Test.YtmkmikegddafdaaV10Bits
import Derived.Test.YtmkmikegddafdaaC9Chg
import Derived.Test.YtmkmikegddafdaaC9Own4
import Derived.Test.YtmkmikegddafdaaC1OwnInv
import Derived.Deep.Cut
namespace Go.Proofs.Ytmkmikegddafdaa.V10
open Go.RowKit Mem C9
set_option linter.unusedVariables false
set_option linter.unusedSimpArgs false

/-- A word with n cells inverted. -/
structure Flip (A : List Bool) (X : List UInt8) (n : Nat) : Prop where
  len : X.length = A.length
  mis : misL X A = n
  unr : unrL X = 0
  ok : X.all okC = true
theorem Flip.start (A : List Bool) : Flip A (cs A) 0 := ⟨cs_len A, misL_self A, unrL_cs A, okC_sb A⟩
theorem okC_cell (b : Bool) : okC (cell b) = true := by cases b <;> rfl
theorem inv_cell (b : Bool) : C1.invC (cell b) = cell !b := by cases b <;> rfl
theorem Flip.step {A : List Bool} {X : List UInt8} {n k : Nat} (h : Flip A X n) (hk : k < X.length) (hk' : k < A.length) (hx : X[k] = cell A[k]) : Flip A (X.set k (C1.invC X[k])) (n + 1) := by
  rw [hx, inv_cell]
  refine ⟨by rw [List.length_set]; exact h.len, ?_, ?_, ?_⟩
  · have := misL_set X A k (cell !A[k]) hk hk'
    rw [hx, h.mis, mis_cell, mis_cell] at this
    have e1 : bn (A[k] ^^ A[k]) = 0 := by cases A[k] <;> rfl
    have e2 : bn (!A[k] ^^ A[k]) = 1 := by cases A[k] <;> rfl
    omega
  · have := unrL_set_cell X k (!A[k])
    have := h.unr
    omega
  · rw [List.all_eq_true]
    intro c hc
    rcases List.mem_or_eq_of_mem_set hc with h2 | h2
    · exact List.all_eq_true.1 h.ok c h2
    · rw [h2]; exact okC_cell _
theorem Flip.dec {c : ByteArray} {b : List Bool} {n : Nat} (h : Flip (enc b) c.data.toList n) (hn : n ≤ 2) : eB c = 0 ∧ dS c = sb b ∧ dN c = (n : Int) ∧ dB c = true := by
  have hl := h.len
  rw [size_list, enc_len] at hl
  have he := eB_ok h.ok hl
  obtain ⟨l, hg⟩ := good he hl
  obtain ⟨rfl, h2, h3⟩ := hg.near hl rfl (b := b) (by rw [h.mis, h.unr]; omega)
  exact ⟨he, hg.str, by rw [h2, h.mis], h3⟩
theorem chg_list (c : ByteArray) (i : Nat) (o : UInt8) : (chg c i o).data.toList = c.data.toList.set i o := rfl
theorem chg_other (c Z : ByteArray) (i j : Nat) (o : UInt8) (hZ : chg c i o = Z) (h : i ≠ j) (hj : j < c.size) (hj' : j < Z.size) : Z[j] = c[j] := by
  subst hZ
  have h1 : j < (c.data.toList.set i o).length := by rw [List.length_set, size_list]; exact hj
  have h2 : j < c.data.toList.length := by rw [size_list]; exact hj
  have e : (c.data.toList.set i o)[j]'h1 = c.data.toList[j]'h2 := List.getElem_set_ne h h1
  exact e
theorem invert_one (x : UInt8) (w : World) : Calls Try.prog 20 #[.string ⟨#[x]⟩] w fun e w' => e = .returned (.string ⟨#[C1.invC x]⟩) ∧ Below w.heap.size w w' := C1.invert_any ⟨#[x]⟩ w (by show 1 ≤ 1000000; decide)
set_option maxRecDepth 100000 in
set_option maxHeartbeats 8000000 in
theorem walk_correction (D : Dev) (A : Option Addr) (n cap : Nat) (z0 : List Int) (i1 i2 : Int) (w : World) (hrow : IsRow .u8 w A n cap z0) (h1 : (Lit.int .u16 i1).wf = true) (h2 : (Lit.int .u16 i2).wf = true) :
    Calls Try.prog 6 #[.slice A n cap, .int .u16 i1, .int .u16 i2] w fun e w' => e = .returned (.bool true) ∧ Below w.heap.size w w' := by
  obtain ⟨g1, g2⟩ : 0 ≤ i1 ∧ i1 ≤ 65535 := (Lit.wf_int_iff .u16 _).1 h1
  obtain ⟨g3, g4⟩ : 0 ≤ i2 ∧ i2 ≤ 65535 := (Lit.wf_int_iff .u16 _).1 h2
  obtain ⟨q1, rfl⟩ : ∃ q : Nat, i1 = (q : Int) := ⟨i1.toNat, by omega⟩
  obtain ⟨q2, rfl⟩ : ∃ q : Nat, i2 = (q : Int) := ⟨i2.toNat, by omega⟩
  have hq1 : q1 ≤ 65535 := by omega
  have hq2 : q2 ≤ 65535 := by omega
  obtain ⟨zs, hby⟩ := IsBy.of_row hrow
  have cA := Lib.hid (fun W => awake_any D W)
  clear h1 h2 g1 g2 g3 g4 hrow
  by_cases hn : n ≤ 100
  · have d1 : decide (100 < n) = false := decide_eq_false (by omega)
    have d1' : decide ((100 : Int) < (n : Int)) = false := decide_eq_false (by omega)
    have cB := Lib.hid (bits_any A n cap zs w hby (by omega))
    have hbl : (bitL zs).length = n := by rw [bitL_len, hby.len]
    obtain ⟨b, hb⟩ : ∃ b, bitL zs = b := ⟨_, rfl⟩
    rw [hb] at cB hbl
    have cE := fun W => encode_good b W (by omega)
    have hel := enc_len b
    rw [hbl] at hel
    have hF0 := Flip.start (enc b)
    have hWs : (sb (enc b)).size = 2 * n + 4 := by rw [sb_size, hel]
    have hbyte : ∀ (k : Nat) (h : k < (sb (enc b)).size) (h' : k < (enc b).length), (sb (enc b))[k] = cell (enc b)[k] := fun k h h' => by
      show (cs (enc b)).toArray[k]'_ = _
      simp [cs]
    obtain ⟨V, hV⟩ : ∃ V, sb (enc b) = V := ⟨_, rfl⟩
    obtain ⟨S, hS⟩ : ∃ S, sb b = S := ⟨_, rfl⟩
    have hVl : V.data.toList = cs (enc b) := by rw [← hV]; rfl
    rw [← hVl] at hF0
    rw [hV, hS] at cE
    rw [hS] at cB
    simp only [hV] at hbyte
    rw [hV] at hWs
    obtain ⟨N, hN⟩ : ∃ N, 2 * n + 4 = N := ⟨_, rfl⟩
    rw [hN] at hWs hel
    have hNI : ¬ (N : Int) = 0 := by omega
    have hN3 : N ≤ 204 := by omega
    have hN4 : 4 ≤ N := by omega
    obtain ⟨i, hi⟩ : ∃ i, q1 % N = i := ⟨_, rfl⟩
    obtain ⟨j, hj⟩ : ∃ i, q2 % N = i := ⟨_, rfl⟩
    have hiN : i < N := by rw [← hi]; exact Nat.mod_lt _ (by omega)
    have hjN : j < N := by rw [← hj]; exact Nat.mod_lt _ (by omega)
    have hiI : (q1 : Int) % (N : Int) = (i : Int) := by omega
    have hjI : (q2 : Int) % (N : Int) = (j : Int) := by omega
    obtain ⟨I, hI1⟩ : ∃ I, i + 1 = I := ⟨_, rfl⟩
    have hPs1 : V.size = N := hWs
    have hiV : i < V.size := by omega
    have hsl1 := one_slice V i I hI1 hiV
    have hiA : i < (enc b).length := by rw [hel]; exact hiN
    have hjA : j < (enc b).length := by rw [hel]; exact hjN
    have hx1 := hbyte i hiV hiA
    obtain ⟨x1, hxx1⟩ : ∃ x, V[i] = x := ⟨_, rfl⟩
    have hX1 : V.data.toList[i]'(by rw [size_list]; exact hiV) = x1 := hxx1
    rw [hxx1] at hsl1 hx1
    have hF1 := hF0.step (k := i) (by rw [size_list]; exact hiV) hiA (by rw [hX1]; exact hx1)
    rw [hX1, ← chg_list] at hF1
    obtain ⟨SL1, hSL1⟩ : ∃ s : ByteArray, (⟨#[x1]⟩ : ByteArray) = s := ⟨_, rfl⟩
    rw [hSL1] at hsl1
    have cI1 := fun W => invert_one x1 W
    obtain ⟨y1, hy1⟩ : ∃ y, C1.invC x1 = y := ⟨_, rfl⟩
    rw [hy1] at hF1 cI1
    obtain ⟨P11, hP11⟩ : ∃ s, V.extract 0 i = s := ⟨_, rfl⟩
    obtain ⟨P21, hP21⟩ : ∃ s, V.extract I N = s := ⟨_, rfl⟩
    have hsp1 := split_chg V i I hI1 y1 (by omega)
    rw [hPs1, hP11, hP21] at hsp1
    obtain ⟨Y1, hY1⟩ : ∃ s : ByteArray, (⟨#[y1]⟩ : ByteArray) = s := ⟨_, rfl⟩
    obtain ⟨P31, hP31⟩ : ∃ s, P11 ++ Y1 = s := ⟨_, rfl⟩
    obtain ⟨Z1, hZ1⟩ : ∃ s, chg V i y1 = s := ⟨_, rfl⟩
    rw [hY1, hP31, hZ1] at hsp1
    have hYs1 : Y1.size = 1 := by rw [← hY1]; rfl
    have hP1s1 : P11.size ≤ 3000 := by rw [← hP11, ByteArray.size_extract]; omega
    have hP2s1 : P21.size ≤ 3000 := by rw [← hP21, ByteArray.size_extract]; omega
    have hP3s1 : P31.size ≤ 3001 := by rw [← hP31, ByteArray.size_append]; omega
    have ra1 : ∀ W, (Op.stringOp .add P11 Y1).run Try.prog W = .ok (.string P31) W := fun W => by rw [Go.run_string_add_sum _ _ _ (by omega), hP31]
    have rb1 : ∀ W, (Op.stringOp .add P31 P21).run Try.prog W = .ok (.string Z1) W := fun W => by rw [Go.run_string_add_sum _ _ _ (by omega), hsp1]
    have u11 : IntKind.i64.wrap ((i : Int) + 1) = (I : Int) := by rw [IntWalk.i64_in _ (by omega)]; omega
    have u21 : (i : Int) + 1 = (I : Int) := by omega
    have u31 : IntKind.i64.wrap (I : Int) = (I : Int) := IntWalk.i64_in _ (by omega)
    have v11 : (0 : Int) ≤ (i : Int) := by omega
    have v21 : (i : Int) ≤ (I : Int) := by omega
    have v31 : (I : Int) ≤ (N : Int) := by omega
    have v41 : (i : Int) ≤ (N : Int) := by omega
    have v51 : (0 : Int) ≤ (I : Int) := by omega
    have v61 : i ≤ I := by omega
    have v71 : I ≤ N := by omega
    have v81 : i ≤ N := by omega
    rw [hSL1, hY1] at cI1
    rw [hZ1] at hF1
    have hZ1s : Z1.size = N := by rw [← hZ1, chg_size, hPs1]
    have hVe : V ≠ ⟨#[]⟩ := fun e => by
      have := congrArg ByteArray.size e
      rw [hPs1] at this
      have h0 : (⟨#[]⟩ : ByteArray).size = 0 := rfl
      omega
    have hVb : V.toList.isEmpty = false := by
      rw [str_toList]
      cases hq : V.data.toList
      · exact absurd (ByteArray.ext (Array.toList_inj.1 hq)) hVe
      · rfl
    replace hVb := Lib.hid hVb
    replace cE := Lib.hid cE
    replace cI1 := Lib.hid cI1
    by_cases hij : i = j
    · have e1 : ((i : Int) != (j : Int)) = false := by rw [hij]; exact bne_self_eq_false _
      have e2 : (i != j) = false := by rw [hij]; exact bne_self_eq_false _
      have e3 : ((i : Int) == (j : Int)) = true := by rw [hij]; exact beq_self_eq_true _
      have hd := hF1.dec (by omega)
      obtain ⟨k1, k2, k3, k4⟩ := hd
      have cD := Lib.hid (fun W => D.decode_as (c := Z1) (by omega) k2 k3 k4 k1 W)
      rw [hS] at cD
      replace hij := Lib.hid hij
      clear hF1 hF0 k1 k2 k3 k4 hbyte hS hV hx1 hX1 hY1 hZ1 hSL1 hy1 hsp1 hb hby hi hj hN hVl hWs hVe hbl hxx1
      go_enter Try.func6, Try.ntmps6
      go_wp2_with fail
      refine cB.out.mono ?_
      rintro e w1 ⟨rfl, hB⟩
      go_wp2_with fail
      refine (cE.out _).mono ?_
      rintro e w2 ⟨rfl, hb⟩
      replace hB := chain hB hb
      clear hb cB cE
      have hVb := hVb.out
      go_wp2_with fail
      go_quiet (fail)
      replace hB := chainN hB nq
      obtain ⟨w3, hw3⟩ : ∃ W, w2.drewN nq = W := ⟨_, rfl⟩
      rw [hw3] at hB ⊢
      rw [hiI, hjI]
      clear hw3 hiI hjI
      go_wp2_with fail
      go_region_held3 (fun _ => True) (trivial) (first | (go_at_call 20; (with_reducible refine (cI1.out _).mono ?_); rintro e w5 ⟨rfl, hb5⟩))
      replace hB := chain (chainN hB 1) hb5
      clear hb5 cI1 ra1 rb1
      go_wp2_with fail
      refine (cD.out _).mono ?_
      rintro e w7 ⟨rfl, hb⟩
      replace hB := chain hB hb
      clear hb
      go_wp2_with (go_at_call 11; refine (cA.out _).mono ?_; rintro e w8 ⟨rfl, hb⟩)
      go_ret
      exact ⟨rfl, chain hB hb⟩
    · have e1 : ((i : Int) != (j : Int)) = true := bne_iff_ne.2 (by omega)
      have e2 : (i != j) = true := bne_iff_ne.2 hij
      have e3 : ((i : Int) == (j : Int)) = false := beq_eq_false_iff_ne.2 (by omega)
      obtain ⟨J, hI2⟩ : ∃ I, j + 1 = I := ⟨_, rfl⟩
      have hPs2 : Z1.size = N := hZ1s
      have hjV : j < Z1.size := by omega
      have hsl2 := one_slice Z1 j J hI2 hjV
      have hjV2 : j < V.size := by omega
      have hx2 : Z1[j] = cell (enc b)[j] := by
        rw [← hbyte j hjV2 hjA]
        exact chg_other V Z1 i j y1 hZ1 hij hjV2 hjV
      obtain ⟨x2, hxx2⟩ : ∃ x, Z1[j] = x := ⟨_, rfl⟩
      have hX2 : Z1.data.toList[j]'(by rw [size_list]; exact hjV) = x2 := hxx2
      rw [hxx2] at hsl2 hx2
      have hF2 := hF1.step (k := j) (by rw [size_list]; exact hjV) hjA (by rw [hX2]; exact hx2)
      rw [hX2, ← chg_list] at hF2
      obtain ⟨SL2, hSL2⟩ : ∃ s : ByteArray, (⟨#[x2]⟩ : ByteArray) = s := ⟨_, rfl⟩
      rw [hSL2] at hsl2
      have cI2 := fun W => invert_one x2 W
      obtain ⟨y2, hy2⟩ : ∃ y, C1.invC x2 = y := ⟨_, rfl⟩
      rw [hy2] at hF2 cI2
      obtain ⟨P12, hP12⟩ : ∃ s, Z1.extract 0 j = s := ⟨_, rfl⟩
      obtain ⟨P22, hP22⟩ : ∃ s, Z1.extract J N = s := ⟨_, rfl⟩
      have hsp2 := split_chg Z1 j J hI2 y2 (by omega)
      rw [hPs2, hP12, hP22] at hsp2
      obtain ⟨Y2, hY2⟩ : ∃ s : ByteArray, (⟨#[y2]⟩ : ByteArray) = s := ⟨_, rfl⟩
      obtain ⟨P32, hP32⟩ : ∃ s, P12 ++ Y2 = s := ⟨_, rfl⟩
      obtain ⟨Z2, hZ2⟩ : ∃ s, chg Z1 j y2 = s := ⟨_, rfl⟩
      rw [hY2, hP32, hZ2] at hsp2
      have hYs2 : Y2.size = 1 := by rw [← hY2]; rfl
      have hP1s2 : P12.size ≤ 3000 := by rw [← hP12, ByteArray.size_extract]; omega
      have hP2s2 : P22.size ≤ 3000 := by rw [← hP22, ByteArray.size_extract]; omega
      have hP3s2 : P32.size ≤ 3001 := by rw [← hP32, ByteArray.size_append]; omega
      have ra2 : ∀ W, (Op.stringOp .add P12 Y2).run Try.prog W = .ok (.string P32) W := fun W => by rw [Go.run_string_add_sum _ _ _ (by omega), hP32]
      have rb2 : ∀ W, (Op.stringOp .add P32 P22).run Try.prog W = .ok (.string Z2) W := fun W => by rw [Go.run_string_add_sum _ _ _ (by omega), hsp2]
      have u12 : IntKind.i64.wrap ((j : Int) + 1) = (J : Int) := by rw [IntWalk.i64_in _ (by omega)]; omega
      have u22 : (j : Int) + 1 = (J : Int) := by omega
      have u32 : IntKind.i64.wrap (J : Int) = (J : Int) := IntWalk.i64_in _ (by omega)
      have v12 : (0 : Int) ≤ (j : Int) := by omega
      have v22 : (j : Int) ≤ (J : Int) := by omega
      have v32 : (J : Int) ≤ (N : Int) := by omega
      have v42 : (j : Int) ≤ (N : Int) := by omega
      have v52 : (0 : Int) ≤ (J : Int) := by omega
      have v62 : j ≤ J := by omega
      have v72 : J ≤ N := by omega
      have v82 : j ≤ N := by omega
      rw [hSL2, hY2] at cI2
      rw [hZ2] at hF2
      have hZ2s : Z2.size = N := by rw [← hZ2, chg_size, hPs2]
      have hd := hF2.dec (by omega)
      obtain ⟨k1, k2, k3, k4⟩ := hd
      have cD := Lib.hid (fun W => D.decode_as (c := Z2) (by omega) k2 k3 k4 k1 W)
      rw [hS] at cD
      replace cI2 := Lib.hid cI2
      replace hij := Lib.hid hij
      clear hF1 hF0 k1 k2 k3 k4 hbyte hS hV hx1 hX1 hY1 hZ1 hSL1 hy1 hsp1 hb hby hi hj hN hVl hWs hVe hbl hxx1 hF2 hx2 hX2 hY2 hZ2 hSL2 hy2 hsp2 hxx2
      go_enter Try.func6, Try.ntmps6
      go_wp2_with fail
      refine cB.out.mono ?_
      rintro e w1 ⟨rfl, hB⟩
      go_wp2_with fail
      refine (cE.out _).mono ?_
      rintro e w2 ⟨rfl, hb⟩
      replace hB := chain hB hb
      clear hb cB cE
      have hVb := hVb.out
      go_wp2_with fail
      go_quiet (fail)
      replace hB := chainN hB nq
      obtain ⟨w3, hw3⟩ : ∃ W, w2.drewN nq = W := ⟨_, rfl⟩
      rw [hw3] at hB ⊢
      rw [hiI, hjI]
      clear hw3 hiI hjI
      go_wp2_with fail
      go_region_held3 (fun _ => True) (trivial) (first | (go_at_call 20; (with_reducible refine (cI1.out _).mono ?_); rintro e w5 ⟨rfl, hb5⟩))
      replace hB := chain (chainN hB 1) hb5
      clear hb5 cI1 ra1 rb1
      go_wp2_with fail
      go_region_held3 (fun _ => True) (trivial) (first | (go_at_call 20; (with_reducible refine (cI2.out _).mono ?_); rintro e w6 ⟨rfl, hb5⟩))
      replace hB := chain (chainN hB 1) hb5
      clear hb5 cI2 ra2 rb2
      go_wp2_with fail
      refine (cD.out _).mono ?_
      rintro e w7 ⟨rfl, hb⟩
      replace hB := chain hB hb
      clear hb
      go_wp2_with (go_at_call 11; refine (cA.out _).mono ?_; rintro e w8 ⟨rfl, hb⟩)
      go_ret
      exact ⟨rfl, chain hB hb⟩
  · have d1 : decide (100 < n) = true := decide_eq_true (by omega)
    have d1' : decide ((100 : Int) < (n : Int)) = true := decide_eq_true (by omega)
    clear hn hby
    go_enter Try.func6, Try.ntmps6
    go_wp2_with fail
    refine (cA.out _).mono ?_
    rintro e w1 ⟨rfl, hB⟩
    go_wp2
    go_ret
    exact ⟨rfl, hB⟩
end Go.Proofs.Ytmkmikegddafdaa.V10
