/- The walk of the law ConvcodeRoundTrip, under the package's contracts. -/
import Derived.Test.YthbhjbbgghpiaaaC9Xor
import Derived.Deep.QuietTactic
import Derived.BigQuiet
import Derived.Deep.Cut
import Derived.Deep.RegionHeld3
namespace Go.Proofs.Ythbhjbbgghpiaaa.C9
open Go.RowKit Mem
set_option linter.unusedVariables false
set_option linter.unusedSimpArgs false

/-- A string with one byte replaced. -/
def chg (c : ByteArray) (i : Nat) (o : UInt8) : ByteArray := ⟨(c.data.toList.set i o).toArray⟩
theorem chg_size (c : ByteArray) (i : Nat) (o : UInt8) : (chg c i o).size = c.size := by
  show (c.data.toList.set i o).toArray.size = c.data.size
  simp
theorem wgt_one : ∀ (l : List Bool) (i : Nat), (∀ j, j ≠ i → l.getD j false = false) → wgt l ≤ 1
  | [], _, _ => by decide
  | a :: l, 0, h => by
    have hl : ∀ b ∈ l, b = false := fun b hb => by
      obtain ⟨j, hj, rfl⟩ := List.getElem_of_mem hb
      have := h (j + 1) (by omega)
      simpa [List.getD_eq_getElem?_getD, List.getElem?_eq_getElem hj] using this
    have : wgt l = 0 := by
      unfold wgt
      rw [List.filter_eq_nil_iff.2 fun b hb => by rw [hl b hb]; decide]
      rfl
    rw [show a :: l = [a] ++ l from rfl, wgt_app, this]
    cases a <;> decide
  | a :: l, i + 1, h => by
    have h0 : a = false := h 0 (by omega)
    have := wgt_one l i fun j hj => h (j + 1) (by omega)
    rw [h0, show false :: l = [false] ++ l from rfl, wgt_app]
    have e : wgt [false] = 0 := rfl
    omega
theorem chg_no {l m : List Bool} {i : Nat} {o : UInt8} (hi : i < (enc l).length) (ho : (cs (enc l))[i]'(by rw [cs_len]; exact hi) ≠ o) : chg (sb (enc l)) i o ≠ sb (enc m) := by
  intro h
  have hs := congrArg ByteArray.size h
  rw [chg_size, sb_size, sb_size, enc_len, enc_len] at hs
  have hd : (cs (enc l)).set i o = cs (enc m) := by
    have := congrArg (fun b : ByteArray => b.data.toList) h
    simpa [chg, sb] using this
  have hlen : (enc l).length = (enc m).length := by rw [enc_len, enc_len]; omega
  by_cases e : l = m
  · subst e
    have h1 : ((cs (enc l)).set i o)[i]'(by rw [List.length_set, cs_len]; exact hi) = (cs (enc l))[i]'(by rw [cs_len]; exact hi) := by simp only [hd]
    rw [List.getElem_set_self] at h1
    exact ho h1.symm
  · have h5 := distance (l := l) (m := m) (by omega) e
    have h1 := wgt_one (xo (enc l) (enc m)) i fun j hj => by
      by_cases hjl : j < (enc l).length
      · rw [xo_get _ _ _ hjl (by omega)]
        have h2 : ((cs (enc l)).set i o)[j]'(by rw [List.length_set, cs_len]; exact hjl) = (cs (enc m))[j]'(by rw [cs_len]; omega) := by simp only [hd]
        rw [List.getElem_set_ne (fun x => hj x.symm), cs_get _ _ hjl, cs_get _ _ (by omega)] at h2
        rw [cell_inj h2]
        simp
      · have : (xo (enc l) (enc m)).length ≤ j := by rw [xo_len _ _ hlen]; omega
        simp [List.getD_eq_getElem?_getD, List.getElem?_eq_none this]
    omega
theorem chg_ext {l : List Bool} {i : Nat} {o : UInt8} {S : ByteArray} {k : Int} (hi : i < (enc l).length) (ho : (cs (enc l))[i]'(by rw [cs_len]; exact hi) ≠ o) (hok : okC o = true) (h : ExtQ (chg (sb (enc l)) i o) S k) : S = ⟨#[]⟩ ∧ k = 11 := by
  have hall : (chg (sb (enc l)) i o).data.toList.all okC = true := by
    have h1 := okC_sb (enc l)
    rw [List.all_eq_true] at h1 ⊢
    intro c hc
    have hc : c ∈ (sb (enc l)).data.toList.set i o := by simpa [chg] using hc
    rcases List.mem_or_eq_of_mem_set hc with h2 | h2
    · exact h1 c h2
    · rw [h2]; exact hok
  have hs : (chg (sb (enc l)) i o).size = 2 * l.length + 4 := by rw [chg_size, sb_size, enc_len]
  exact ((h.2 hall).2 (by omega)).2 fun m hm => chg_no hi ho hm.eq
theorem list_split {α : Type} (l : List α) (i : Nat) (o : α) (h : i < l.length) : l.take i ++ [o] ++ l.drop (i + 1) = l.set i o := by
  rw [List.set_eq_take_append_cons_drop, if_pos h]
  simp
theorem split_chg (c : ByteArray) (i I : Nat) (hI : i + 1 = I) (o : UInt8) (h : i < c.size) : c.extract 0 i ++ ⟨#[o]⟩ ++ c.extract I c.size = chg c i o := by
  subst hI
  apply ByteArray.ext
  apply Array.toList_inj.1
  show _ = (c.data.toList.set i o).toArray.toList
  have h' : i < c.data.toList.length := by simpa using h
  simp only [ByteArray.data_append, ByteArray.data_extract, Array.toList_append, Array.toList_extract]
  rw [← list_split _ _ _ h']
  have hsz : c.size = c.data.toList.length := by rw [Array.length_toList]; rfl
  rw [hsz]
  have e2 : (c.data.toList.drop (i + 1)).take (c.data.toList.length - (i + 1)) = c.data.toList.drop (i + 1) := List.take_of_length_le (by rw [List.length_drop]; exact Nat.le_refl _)
  rw [List.extract_eq_take_drop, List.extract_eq_take_drop, e2, List.drop_zero, Nat.sub_zero]
theorem nat_of {k : IntKind} {a : Int} (h0 : 0 ≤ a) : ∃ q : Nat, a = (q : Int) := ⟨a.toNat, by omega⟩
theorem one_slice (c : ByteArray) (i I : Nat) (hI : i + 1 = I) (h : i < c.size) : c.extract i I = ⟨#[c[i]]⟩ := by
  subst hI
  apply ByteArray.ext
  apply Array.toList_inj.1
  have h' : i < c.data.toList.length := by simpa using h
  simp only [ByteArray.data_extract, Array.toList_extract]
  rw [List.extract_eq_take_drop, Nat.add_sub_cancel_left, List.drop_eq_getElem_cons h']
  rfl
set_option maxRecDepth 100000 in
set_option maxHeartbeats 8000000 in
theorem walk_roundtrip (D : Dev) (a : ByteArray) (i2 i3 : Int) (w : World) (ha : a.size ≤ 140737488351232) (h2 : (Lit.int .u16 i2).wf = true) (h3 : (Lit.int .u8 i3).wf = true) :
    Calls Try.prog 6 #[.string a, .int .u16 i2, .int .u8 i3] w fun e w' => e = .returned (.bool true) ∧ Below w.heap.size w w' := by
  obtain ⟨g1, g2⟩ : 0 ≤ i2 ∧ i2 ≤ 65535 := (Lit.wf_int_iff .u16 _).1 h2
  obtain ⟨g3, g4⟩ : 0 ≤ i3 ∧ i3 ≤ 255 := (Lit.wf_int_iff .u8 _).1 h3
  obtain ⟨K, rfl⟩ : ∃ K : Nat, i2 = (K : Int) := ⟨i2.toNat, by omega⟩
  obtain ⟨q, rfl⟩ : ∃ q : Nat, i3 = (q : Int) := ⟨i3.toNat, by omega⟩
  have hK : K ≤ 65535 := by omega
  have hq : q ≤ 255 := by omega
  have cA := Lib.hid (alive_any D w)
  have c1 := Lib.hid (fun W => D.encode a W (by omega))
  clear h2 h3 g1 g2 g3 g4
  go_enter Try.func6, Try.ntmps6
  go_wp2_with fail
  refine cA.out.mono ?_
  rintro e w1 ⟨rfl, hB⟩
  go_wp2_with fail
  refine (c1.out _).mono ?_
  rintro e w2 ⟨X, k1, hq1, rfl, hb⟩
  replace hB := chain hB hb
  clear hb cA c1
  replace hq1 := Lib.hid hq1
  by_cases h1 : a.size ≤ 1000
  · have d1 : decide (1000 < a.size) = false := decide_eq_false (by omega)
    have d1' : decide ((1000 : Int) < (a.size : Int)) = false := decide_eq_false (by omega)
    by_cases h3 : k1 = 0
    · have d3 : (k1 != 0) = false := by rw [h3]; rfl
      obtain ⟨s1, b1, e1⟩ := hq1.out.ok h3
      obtain ⟨l, hl⟩ : ∃ l, tb a = l := ⟨_, rfl⟩
      have hal : sb l = a := by rw [← hl]; exact sb_tb b1
      have hll : l.length = a.size := by rw [← hl, tb_len]
      rw [hl] at e1
      have hXs : X.size = 2 * a.size + 4 := by rw [e1, sb_size, enc_len, hll]
      have cX := Lib.hid (fun W => D.extract X W (by omega))
      have hfin : ∀ S k, ExtQ X S k → S = a ∧ k = 0 := fun S k h => by
        rw [e1] at h
        rw [← hal]
        exact h.code (by omega)
      obtain ⟨N, hN⟩ : ∃ N, X.size = N := ⟨_, rfl⟩
      obtain ⟨i, hi⟩ : ∃ i, K % N = i := ⟨_, rfl⟩
      have hiN : i < N := by rw [← hi]; exact Nat.mod_lt _ (by omega)
      have hiI : (K : Int) % (N : Int) = (i : Int) := by omega
      obtain ⟨I, hI⟩ : ∃ I, i + 1 = I := ⟨_, rfl⟩
      have hiE : i < (enc l).length := by rw [← sb_size, ← e1, hN]; exact hiN
      have hsl := one_slice X i I hI (by rw [hN]; exact hiN)
      have hbyte : X[i]'(by rw [hN]; exact hiN) = (cs (enc l))[i]'(by rw [cs_len]; exact hiE) := by subst e1; rfl
      rw [hbyte] at hsl
      have hcg := cs_get (enc l) i hiE
      have hsp := fun o => split_chg X i I hI o (by rw [hN]; exact hiN)
      have hext := fun o S k (ho : (cs (enc l))[i]'(by rw [cs_len]; exact hiE) ≠ o) hok h => chg_ext (l := l) (i := i) (o := o) (S := S) (k := k) hiE ho hok h
      rw [← e1] at hext
      have cY := fun o W => D.extract (chg X i o) W (by rw [chg_size]; omega)
      rw [hN] at hsp hXs
      have hNa : (N : Int) = 2 * (a.size : Int) + 4 := by omega
      have hN3 : N ≤ 2004 := by omega
      have n0 : ¬ (N : Int) = 0 := by omega
      replace hfin := Lib.hid hfin
      replace hext := Lib.hid hext
      replace cY := Lib.hid cY
      replace hsp := Lib.hid hsp
      have hNh := Lib.hid hN
      have hIh := Lib.hid hI
      replace hsl := Lib.hid hsl
      replace hcg := Lib.hid hcg
      have hXN : (X.size : Int) = (N : Int) := by omega
      have i0 : (0 : Int) ≤ (i : Int) := by omega
      have i1 : (i : Int) < (N : Int) := by omega
      have e5 : (i : Int) + 1 = (I : Int) := by omega
      clear h3 s1 b1 hl hal hll e1 hi hbyte hI hXs
      go_wp2_with fail
      refine (cX.out _).mono ?_
      rintro e w4 ⟨S, k, hqx, rfl, hb⟩
      obtain ⟨rfl, rfl⟩ := hfin.out S k hqx
      replace hB := chain hB hb
      clear hb hqx cX hfin hq1
      have t5 : (N != 2 * S.size + 4) = false := by rw [bne_eq_false_iff_eq]; omega
      have t6 : ((N : Int) != 2 * (S.size : Int) + 4) = false := by rw [bne_eq_false_iff_eq]; omega
      replace hNa := Lib.hid hNa
      go_upto_region 10 with (fail)
      rw [hiI]
      clear hiI t5 t6
      obtain ⟨P1, hP1⟩ : ∃ P1, X.extract 0 i = P1 := ⟨_, rfl⟩
      obtain ⟨P2, hP2⟩ : ∃ P2, X.extract I N = P2 := ⟨_, rfl⟩
      have hP1s : P1.size ≤ 3000 := by rw [← hP1, ByteArray.size_extract]; omega
      have hP2s : P2.size ≤ 3000 := by rw [← hP2, ByteArray.size_extract]; omega
      rw [hP1, hP2] at hsp
      have hsl1 := hsl.out
      have hcg1 := hcg.out
      have hI2 : (I : Int) ≤ (N : Int) := by omega
      have hI3 : I ≤ 2004 := by omega
      have hI4 : (i : Int) ≤ (I : Int) := by omega
      have hI5 : (0 : Int) ≤ (I : Int) := by omega
      have hI6 : i ≤ I := by omega
      have hI7 : I ≤ N := by omega
      have hI8 : (i : Int) ≤ (N : Int) := by omega
      obtain ⟨x, hx⟩ : ∃ x, (enc l).getD i false = x := ⟨_, rfl⟩
      rw [hx] at hcg1
      rw [hcg1] at hsl1
      have hext2 : ∀ (o : UInt8) S k, cell x ≠ o → okC o = true → ExtQ (chg X i o) S k → S = ⟨#[]⟩ ∧ k = 11 := fun o S k ho => hext.out o S k (by rw [hcg1]; exact ho)
      replace hext2 := Lib.hid hext2
      obtain ⟨r, hr⟩ : ∃ r, q % 3 = r := ⟨_, rfl⟩
      have hr3 : r < 3 := by omega
      clear hx hcg1 hcg hsl hext
      have hE0 : (⟨#[48, 49, 63]⟩ : ByteArray).extract 0 1 = ⟨#[48]⟩ := rfl
      have hE1 : (⟨#[48, 49, 63]⟩ : ByteArray).extract 1 2 = ⟨#[49]⟩ := rfl
      have hE2 : (⟨#[48, 49, 63]⟩ : ByteArray).extract 2 3 = ⟨#[63]⟩ := rfl
      rcases r with _ | _ | _ | r
      · have q3 : (q : Int) % 3 = 0 := by omega
        have q3' : q % 3 = 0 := by omega
        rcases x with _ | _
        · replace hsl1 : X.extract i I = ⟨#[48]⟩ := hsl1
          go_wp2
          go_ret
          exact ⟨rfl, hB⟩
        · replace hsl1 : X.extract i I = ⟨#[49]⟩ := hsl1
          go_wp2_with fail
          obtain ⟨P3, hP3⟩ : ∃ P3, P1 ++ ⟨#[48]⟩ = P3 := ⟨_, rfl⟩
          obtain ⟨Z, hZ⟩ : ∃ Z, chg X i 48 = Z := ⟨_, rfl⟩
          have e7 := hsp.out 48
          rw [hP3, hZ] at e7
          have hP3s : P3.size ≤ 3001 := by rw [← hP3, ByteArray.size_append]; show P1.size + 1 ≤ 3001; omega
          have hext3 := Lib.hid (fun S k => hext2.out 48 S k (by decide) (by decide))
          have cY' := cY.out 48
          rw [hZ] at hext3 cY'
          replace cY' := Lib.hid cY'
          have hE := hE0
          have u1 : ¬ (9223372036854775807 < (P1.size : Int) + 1) := by omega
          have u2 : ¬ (9223372036854775807 < (P1.size : Int) + ((⟨#[48]⟩ : ByteArray).size : Int)) := by show ¬ (9223372036854775807 < (P1.size : Int) + ((1 : Nat) : Int)); omega
          have u3 : IntKind.i64.wrap ((i : Int) + 1) = (I : Int) := by rw [IntWalk.i64_in _ (by omega)]; omega
          have u4 : IntKind.i64.wrap (I : Int) = (I : Int) := IntWalk.i64_in _ (by omega)
          have u5 : ¬ (9223372036854775807 < (P3.size : Int) + (P2.size : Int)) := by omega
          have u6 : I ≤ X.size := by omega
          have u7 : (I : Int) ≤ (X.size : Int) := by omega
          have u8 : ((I : Int) ≤ (X.size : Int)) = True := eq_true u7
          have hs7 : X.extract I X.size = P2 := by rw [hN]; exact hP2
          have r1 : ∀ W, (Op.stringOp .add P1 ⟨#[48]⟩).run Try.prog W = .ok (.string P3) W := fun W => by rw [Go.run_string_add_sum _ _ _ (by show P1.size + 1 ≤ _; omega), hP3]
          have r2 : ∀ W, (Op.stringOp .add P3 P2).run Try.prog W = .ok (.string Z) W := fun W => by rw [Go.run_string_add_sum _ _ _ (by omega), e7]
          clear hZ hsp cY hext2
          go_region_held3 (fun _ => True) (trivial) (first | (go_at_call 16; (with_reducible refine (cY'.out _).mono ?_); rintro e3 w5 ⟨S5, k5, hq5, rfl, hb5⟩))
          obtain ⟨rfl, rfl⟩ := hext3.out S5 k5 hq5
          go_wp2
          go_ret
          exact ⟨rfl, chain (chainN hB 1) hb5⟩
      · have q3 : (q : Int) % 3 = 1 := by omega
        have q3' : q % 3 = 1 := by omega
        rcases x with _ | _
        · replace hsl1 : X.extract i I = ⟨#[48]⟩ := hsl1
          go_wp2_with fail
          obtain ⟨P3, hP3⟩ : ∃ P3, P1 ++ ⟨#[49]⟩ = P3 := ⟨_, rfl⟩
          obtain ⟨Z, hZ⟩ : ∃ Z, chg X i 49 = Z := ⟨_, rfl⟩
          have e7 := hsp.out 49
          rw [hP3, hZ] at e7
          have hP3s : P3.size ≤ 3001 := by rw [← hP3, ByteArray.size_append]; show P1.size + 1 ≤ 3001; omega
          have hext3 := Lib.hid (fun S k => hext2.out 49 S k (by decide) (by decide))
          have cY' := cY.out 49
          rw [hZ] at hext3 cY'
          replace cY' := Lib.hid cY'
          have hE := hE1
          have u1 : ¬ (9223372036854775807 < (P1.size : Int) + 1) := by omega
          have u2 : ¬ (9223372036854775807 < (P1.size : Int) + ((⟨#[49]⟩ : ByteArray).size : Int)) := by show ¬ (9223372036854775807 < (P1.size : Int) + ((1 : Nat) : Int)); omega
          have u3 : IntKind.i64.wrap ((i : Int) + 1) = (I : Int) := by rw [IntWalk.i64_in _ (by omega)]; omega
          have u4 : IntKind.i64.wrap (I : Int) = (I : Int) := IntWalk.i64_in _ (by omega)
          have u5 : ¬ (9223372036854775807 < (P3.size : Int) + (P2.size : Int)) := by omega
          have u6 : I ≤ X.size := by omega
          have u7 : (I : Int) ≤ (X.size : Int) := by omega
          have u8 : ((I : Int) ≤ (X.size : Int)) = True := eq_true u7
          have hs7 : X.extract I X.size = P2 := by rw [hN]; exact hP2
          have r1 : ∀ W, (Op.stringOp .add P1 ⟨#[49]⟩).run Try.prog W = .ok (.string P3) W := fun W => by rw [Go.run_string_add_sum _ _ _ (by show P1.size + 1 ≤ _; omega), hP3]
          have r2 : ∀ W, (Op.stringOp .add P3 P2).run Try.prog W = .ok (.string Z) W := fun W => by rw [Go.run_string_add_sum _ _ _ (by omega), e7]
          clear hZ hsp cY hext2
          go_region_held3 (fun _ => True) (trivial) (first | (go_at_call 16; (with_reducible refine (cY'.out _).mono ?_); rintro e3 w5 ⟨S5, k5, hq5, rfl, hb5⟩))
          obtain ⟨rfl, rfl⟩ := hext3.out S5 k5 hq5
          go_wp2
          go_ret
          exact ⟨rfl, chain (chainN hB 1) hb5⟩
        · replace hsl1 : X.extract i I = ⟨#[49]⟩ := hsl1
          go_wp2
          go_ret
          exact ⟨rfl, hB⟩
      · have q3 : (q : Int) % 3 = 2 := by omega
        have q3' : q % 3 = 2 := by omega
        rcases x with _ | _
        · replace hsl1 : X.extract i I = ⟨#[48]⟩ := hsl1
          go_wp2_with fail
          obtain ⟨P3, hP3⟩ : ∃ P3, P1 ++ ⟨#[63]⟩ = P3 := ⟨_, rfl⟩
          obtain ⟨Z, hZ⟩ : ∃ Z, chg X i 63 = Z := ⟨_, rfl⟩
          have e7 := hsp.out 63
          rw [hP3, hZ] at e7
          have hP3s : P3.size ≤ 3001 := by rw [← hP3, ByteArray.size_append]; show P1.size + 1 ≤ 3001; omega
          have hext3 := Lib.hid (fun S k => hext2.out 63 S k (by decide) (by decide))
          have cY' := cY.out 63
          rw [hZ] at hext3 cY'
          replace cY' := Lib.hid cY'
          have hE := hE2
          have u1 : ¬ (9223372036854775807 < (P1.size : Int) + 1) := by omega
          have u2 : ¬ (9223372036854775807 < (P1.size : Int) + ((⟨#[63]⟩ : ByteArray).size : Int)) := by show ¬ (9223372036854775807 < (P1.size : Int) + ((1 : Nat) : Int)); omega
          have u3 : IntKind.i64.wrap ((i : Int) + 1) = (I : Int) := by rw [IntWalk.i64_in _ (by omega)]; omega
          have u4 : IntKind.i64.wrap (I : Int) = (I : Int) := IntWalk.i64_in _ (by omega)
          have u5 : ¬ (9223372036854775807 < (P3.size : Int) + (P2.size : Int)) := by omega
          have u6 : I ≤ X.size := by omega
          have u7 : (I : Int) ≤ (X.size : Int) := by omega
          have u8 : ((I : Int) ≤ (X.size : Int)) = True := eq_true u7
          have hs7 : X.extract I X.size = P2 := by rw [hN]; exact hP2
          have r1 : ∀ W, (Op.stringOp .add P1 ⟨#[63]⟩).run Try.prog W = .ok (.string P3) W := fun W => by rw [Go.run_string_add_sum _ _ _ (by show P1.size + 1 ≤ _; omega), hP3]
          have r2 : ∀ W, (Op.stringOp .add P3 P2).run Try.prog W = .ok (.string Z) W := fun W => by rw [Go.run_string_add_sum _ _ _ (by omega), e7]
          clear hZ hsp cY hext2
          go_region_held3 (fun _ => True) (trivial) (first | (go_at_call 16; (with_reducible refine (cY'.out _).mono ?_); rintro e3 w5 ⟨S5, k5, hq5, rfl, hb5⟩))
          obtain ⟨rfl, rfl⟩ := hext3.out S5 k5 hq5
          go_wp2
          go_ret
          exact ⟨rfl, chain (chainN hB 1) hb5⟩
        · replace hsl1 : X.extract i I = ⟨#[49]⟩ := hsl1
          go_wp2_with fail
          obtain ⟨P3, hP3⟩ : ∃ P3, P1 ++ ⟨#[63]⟩ = P3 := ⟨_, rfl⟩
          obtain ⟨Z, hZ⟩ : ∃ Z, chg X i 63 = Z := ⟨_, rfl⟩
          have e7 := hsp.out 63
          rw [hP3, hZ] at e7
          have hP3s : P3.size ≤ 3001 := by rw [← hP3, ByteArray.size_append]; show P1.size + 1 ≤ 3001; omega
          have hext3 := Lib.hid (fun S k => hext2.out 63 S k (by decide) (by decide))
          have cY' := cY.out 63
          rw [hZ] at hext3 cY'
          replace cY' := Lib.hid cY'
          have hE := hE2
          have u1 : ¬ (9223372036854775807 < (P1.size : Int) + 1) := by omega
          have u2 : ¬ (9223372036854775807 < (P1.size : Int) + ((⟨#[63]⟩ : ByteArray).size : Int)) := by show ¬ (9223372036854775807 < (P1.size : Int) + ((1 : Nat) : Int)); omega
          have u3 : IntKind.i64.wrap ((i : Int) + 1) = (I : Int) := by rw [IntWalk.i64_in _ (by omega)]; omega
          have u4 : IntKind.i64.wrap (I : Int) = (I : Int) := IntWalk.i64_in _ (by omega)
          have u5 : ¬ (9223372036854775807 < (P3.size : Int) + (P2.size : Int)) := by omega
          have u6 : I ≤ X.size := by omega
          have u7 : (I : Int) ≤ (X.size : Int) := by omega
          have u8 : ((I : Int) ≤ (X.size : Int)) = True := eq_true u7
          have hs7 : X.extract I X.size = P2 := by rw [hN]; exact hP2
          have r1 : ∀ W, (Op.stringOp .add P1 ⟨#[63]⟩).run Try.prog W = .ok (.string P3) W := fun W => by rw [Go.run_string_add_sum _ _ _ (by show P1.size + 1 ≤ _; omega), hP3]
          have r2 : ∀ W, (Op.stringOp .add P3 P2).run Try.prog W = .ok (.string Z) W := fun W => by rw [Go.run_string_add_sum _ _ _ (by omega), e7]
          clear hZ hsp cY hext2
          go_region_held3 (fun _ => True) (trivial) (first | (go_at_call 16; (with_reducible refine (cY'.out _).mono ?_); rintro e3 w5 ⟨S5, k5, hq5, rfl, hb5⟩))
          obtain ⟨rfl, rfl⟩ := hext3.out S5 k5 hq5
          go_wp2
          go_ret
          exact ⟨rfl, chain (chainN hB 1) hb5⟩
      · omega
    · have d3 : (k1 != 0) = true := by simpa using h3
      go_wp2
      go_ret
      exact ⟨rfl, hB⟩
  · have d1 : decide (1000 < a.size) = true := decide_eq_true (by omega)
    have d1' : decide ((1000 : Int) < (a.size : Int)) = true := decide_eq_true (by omega)
    go_wp2
    go_ret
    exact ⟨rfl, hB⟩
end Go.Proofs.Ythbhjbbgghpiaaa.C9
