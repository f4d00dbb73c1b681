/- The walk of the law ViterbiOptimality, under the package's contracts. -/
import Derived.Test.YtmkmikegddafdaaV10Law3
import Derived.Test.YtmkmikegddafdaaC1OwnDist
namespace Go.Proofs.Ytmkmikegddafdaa.V10
open Go.RowKit Mem C9
set_option linter.unusedVariables false
set_option linter.unusedSimpArgs false

/-- Layer 1's Distance of a code word and received cells. -/
theorem dist_code {A : List Bool} {c : ByteArray} (ho : c.data.toList.all okC = true) (hl : c.size = A.length) : C1.disN (cs A) c.data.toList = (misL c.data.toList A : Int) ∧ C1.disE (cs A) c.data.toList = 0 := by
  have h1 : C1.chk (cs A) = 0 := if_pos (okC_sb A)
  have h2 : C1.chk c.data.toList = 0 := if_pos ho
  have h3 : (cs A).length = c.data.toList.length := by rw [cs_len, size_list, hl]
  refine ⟨?_, C1.disE_eq h1 h2 h3⟩
  unfold C1.disN
  rw [if_pos ⟨h1, h2, h3⟩, ← dist_cells, List.countP_eq_length_filter]
  rfl
theorem less_no : ∀ (l b : List Bool), l.length = b.length → lxle l b = true → Op.bytesLess (cs b) (cs l) = false
  | [], [], _, _ => rfl
  | a :: l, b :: m, h, hx => by
    cases a <;> cases b
    · have := less_no l m (by simpa using h) hx
      show Op.bytesLess (48 :: cs m) (48 :: cs l) = false
      simpa [Op.bytesLess] using this
    · rfl
    · cases hx
    · have := less_no l m (by simpa using h) hx
      show Op.bytesLess (49 :: cs m) (49 :: cs l) = false
      simpa [Op.bytesLess] using this
  | [], b :: m, h, _ => by simp at h
  | a :: l, [], h, _ => by simp at h
theorem dist_own (A : List Bool) (c : ByteArray) (w : World) (ho : c.data.toList.all okC = true) (hl : c.size = A.length) (hs : c.size ≤ 1000000) :
    Calls Try.prog 18 #[.string (sb A), .string c] w fun e w' => e = .returned (.tuple #[.int .i64 (misL c.data.toList A : Int), .int .i64 0]) ∧ Below w.heap.size w w' := by
  have h := C1.distance_any (sb A) c w (by rw [sb_size]; omega) hs
  have e : (sb A).data.toList = cs A := rfl
  rw [e, (dist_code ho hl).1, (dist_code ho hl).2] at h
  refine h.mono ?_
  rintro e w' ⟨rfl, k, rfl⟩
  exact ⟨rfl, chainN (Below.refl _ _) k⟩
set_option maxRecDepth 100000 in
set_option maxHeartbeats 8000000 in
theorem walk_optimality (D : Dev) (c : ByteArray) (A : Option Addr) (m cap : Nat) (z0 : List Int) (w : World) (hc : c.size ≤ 140737488351232) (hrow : IsRow .u8 w A m cap z0) :
    Calls Try.prog 5 #[.string c, .slice A m cap] w fun e w' => e = .returned (.bool true) ∧ Below w.heap.size w w' := by
  obtain ⟨zs, hby⟩ := IsBy.of_row hrow
  have hmc := hby.le
  have hcapm := hby.capm
  have hmx : maxLen = 9223372036854775807 := rfl
  have hm9 : m ≤ 9223372036854775807 := by omega
  have cA := Lib.hid (fun W => awake_any D W)
  clear hrow hmx
  replace hcapm := Lib.hid hcapm
  by_cases hlo : 400 < c.size
  · have d1 : decide (400 < c.size) = true := decide_eq_true hlo
    have d1' : decide ((400 : Int) < (c.size : Int)) = true := decide_eq_true (by omega)
    clear hby
    go_enter Try.func5, Try.ntmps5
    go_wp2_with (first
      | (go_at_call 11; refine (cA.out _).mono ?_; rintro e w8 ⟨rfl, hB⟩))
    go_ret
    exact ⟨rfl, hB⟩
  have d1 : decide (400 < c.size) = false := decide_eq_false hlo
  have d1' : decide ((400 : Int) < (c.size : Int)) = false := decide_eq_false (by omega)
  by_cases hsh : c.size < 4
  · have d2 : decide (c.size < 4) = true := decide_eq_true hsh
    have d2' : decide ((c.size : Int) < 4) = true := decide_eq_true (by omega)
    clear hby
    go_enter Try.func5, Try.ntmps5
    go_wp2_with (first
      | (go_at_call 11; refine (cA.out _).mono ?_; rintro e w8 ⟨rfl, hB⟩))
    go_ret
    exact ⟨rfl, hB⟩
  have d2 : decide (c.size < 4) = false := decide_eq_false hsh
  have d2' : decide ((c.size : Int) < 4) = false := decide_eq_false (by omega)
  by_cases hodd : c.size % 2 = 1
  · have d3 : (c.size : Int) % 2 = 1 := by omega
    clear hby
    go_enter Try.func5, Try.ntmps5
    go_wp2_with (first
      | (go_at_call 11; refine (cA.out _).mono ?_; rintro e w8 ⟨rfl, hB⟩))
    go_ret
    exact ⟨rfl, hB⟩
  have d3 : (c.size : Int) % 2 = 0 := by omega
  have d3' : c.size % 2 = 0 := by omega
  have cK := C1.check_any c w (by omega)
  cases ho : c.data.toList.all okC
  · rw [chk_bad ho] at cK
    replace cK := Lib.hid cK
    clear hby ho
    go_enter Try.func5, Try.ntmps5
    go_wp2_with (first
      | (go_at_call 16; refine cK.out.mono ?_; rintro e w8 ⟨rfl, rfl⟩)
      | (go_at_call 11; refine (cA.out _).mono ?_; rintro e w8 ⟨rfl, hB⟩))
    go_ret
    exact ⟨rfl, hB⟩
  · rw [chk_ok ho] at cK
    replace cK := Lib.hid cK
    obtain ⟨n, hn⟩ : ∃ n, c.size = 2 * n + 4 := ⟨(c.size - 4) / 2, by omega⟩
    have h0 := eB_ok ho hn
    have hn2 : n ≤ 200 := by omega
    have q1 : (c.size : Int) / 2 - 2 = (n : Int) := by omega
    have q2 : c.size / 2 = n + 2 := by omega
    have q3 : (c.size : Int) / 2 = (n : Int) + 2 := by omega
    by_cases hm : m < n
    · have d4 : decide (m < n) = true := decide_eq_true hm
      have d4' : decide ((m : Int) < (n : Int)) = true := decide_eq_true (by omega)
      have hnh := Lib.hid hn
      clear hby ho hn h0 hodd
      go_enter Try.func5, Try.ntmps5
      go_wp2_with (first
        | (go_at_call 16; refine cK.out.mono ?_; rintro e w8 ⟨rfl, rfl⟩)
        | (go_at_call 11; refine (cA.out _).mono ?_; rintro e w8 ⟨rfl, hB⟩))
      go_ret
      exact ⟨rfl, hB⟩
    · have d4 : decide (m < n) = false := decide_eq_false hm
      have d4' : decide ((m : Int) < (n : Int)) = false := decide_eq_false (by omega)
      obtain ⟨l, hg⟩ := good h0 hn
      have hbt := fun W (k : Below w.heap.size w W) => bits_any A n cap (zs.take n) W ((hby.below k).take n (by omega)) (by omega)
      obtain ⟨b, hb⟩ : ∃ b, bitL (zs.take n) = b := ⟨_, rfl⟩
      have hbl : b.length = n := by rw [← hb, bitL_len, List.length_take, hby.len]; omega
      rw [hb] at hbt
      have hll := hg.len
      have cD := fun W => D.decode_as (c := c) (by omega) hg.str hg.dist rfl h0 W
      have cE1 := fun W => encode_good l W (by omega)
      have cE2 := fun W => encode_good b W (by omega)
      have cX1 := fun W => dist_own (enc l) c W ho (by rw [enc_len]; omega) (by omega)
      have cX2 := fun W => dist_own (enc b) c W ho (by rw [enc_len]; omega) (by omega)
      have hmin := hg.min b hbl
      have hls : (sb l).size = n := by rw [sb_size, hll]
      have hcase : misL c.data.toList (enc l) < misL c.data.toList (enc b) ∨ (misL c.data.toList (enc b) = misL c.data.toList (enc l) ∧ b = l) ∨ (misL c.data.toList (enc b) = misL c.data.toList (enc l) ∧ b ≠ l ∧ dB c = false ∧ Op.bytesLess (cs b) (cs l) = false) := by
        by_cases h1 : misL c.data.toList (enc b) = misL c.data.toList (enc l)
        · by_cases h2 : b = l
          · exact .inr (.inl ⟨h1, h2⟩)
          · refine .inr (.inr ⟨h1, h2, ?_, less_no l b (by omega) (hg.lex b hbl h1)⟩)
            cases h3 : dB c
            · rfl
            · exact absurd (hg.one.1 h3 b hbl h1) h2
        · exact .inl (by omega)
      have hne : ∀ (h : b ≠ l), ((sb b).toList == (sb l).toList) = false := fun h => str_beq_no fun e => h (sb_inj e)
      have hd1 := misL_le_len c.data.toList (enc l)
      have hd2 := misL_le_len c.data.toList (enc b)
      rw [size_list] at hd1 hd2
      obtain ⟨x, hx⟩ : ∃ x, misL c.data.toList (enc l) = x := ⟨_, rfl⟩
      obtain ⟨y, hy⟩ : ∃ x, misL c.data.toList (enc b) = x := ⟨_, rfl⟩
      obtain ⟨B, hB0⟩ : ∃ x, dB c = x := ⟨_, rfl⟩
      have hL1 : (sb l).toList = cs l := by rw [str_toList]; rfl
      have hL2 : (sb b).toList = cs b := by rw [str_toList]; rfl
      rw [← hL1, ← hL2] at hcase
      obtain ⟨S1, hS1⟩ : ∃ x, sb l = x := ⟨_, rfl⟩
      obtain ⟨S2, hS2⟩ : ∃ x, sb b = x := ⟨_, rfl⟩
      obtain ⟨V1, hV1⟩ : ∃ x, sb (enc l) = x := ⟨_, rfl⟩
      obtain ⟨V2, hV2⟩ : ∃ x, sb (enc b) = x := ⟨_, rfl⟩
      rw [hx, hB0, hS1] at cD
      rw [hS1, hV1] at cE1
      rw [hS2, hV2] at cE2
      rw [hx, hV1] at cX1
      rw [hy, hV2] at cX2
      rw [hx, hy, hB0, hS1, hS2] at hcase
      rw [hS1, hS2] at hne
      rw [hS2] at hbt
      rw [hS1] at hls
      rw [hx, hy] at hmin
      rw [hx] at hd1
      rw [hy] at hd2
      have hSS : b = l → S2 = S1 := fun e => by rw [← hS1, ← hS2, e]
      have e1 : ((S1.size : Int) != (n : Int)) = false := by rw [hls]; exact bne_self_eq_false _
      have e2 : (S1.size != n) = false := by rw [hls]; exact bne_self_eq_false _
      have e3 : decide ((y : Int) < (x : Int)) = false := decide_eq_false (by omega)
      have e4 : decide (y < x) = false := decide_eq_false (by omega)
      have v1 : (0 : Int) ≤ (n : Int) := by omega
      have v2 : (n : Int) ≤ (m : Int) := by omega
      have v3 : n ≤ m := by omega
      have v4 : (n : Int) ≤ (cap : Int) := by omega
      replace hbt := Lib.hid hbt
      replace cD := Lib.hid cD
      replace cE1 := Lib.hid cE1
      replace cE2 := Lib.hid cE2
      replace cX1 := Lib.hid cX1
      replace cX2 := Lib.hid cX2
      replace hnh := Lib.hid hn
      clear hby ho hn h0 hodd hg hb hbl hll hx hy hB0 hL1 hL2 hS1 hS2 hV1 hV2 hsh hlo hc
      go_enter Try.func5, Try.ntmps5
      go_wp2_with (go_at_call 16; refine cK.out.mono ?_; rintro e w8 ⟨rfl, rfl⟩)
      clear cK
      go_wp2_with fail
      refine (cD.out _).mono ?_
      rintro e w2 ⟨rfl, hB⟩
      go_wp2_with fail
      refine (cE1.out _).mono ?_
      rintro e w3 ⟨rfl, hb⟩
      replace hB := chain hB hb
      clear hb
      go_wp2_with fail
      refine (cX1.out _).mono ?_
      rintro e w4 ⟨rfl, hb⟩
      replace hB := chain hB hb
      clear hb
      go_wp2_with fail
      refine (hbt.out _ hB).mono ?_
      rintro e w5 ⟨rfl, hb⟩
      replace hB := chain hB hb
      clear hb
      go_wp2_with fail
      refine (cE2.out _).mono ?_
      rintro e w6 ⟨rfl, hb⟩
      replace hB := chain hB hb
      clear hb
      go_wp2_with fail
      refine (cX2.out _).mono ?_
      rintro e w7 ⟨rfl, hb⟩
      replace hB := chain hB hb
      clear hb cD cE1 cE2 cX1 cX2 hbt
      rcases hcase with h1 | ⟨h1, h2⟩ | ⟨h1, h2, h3, h4⟩
      · have f1 : decide ((x : Int) < (y : Int)) = true := decide_eq_true (by omega)
        have f2 : decide (x < y) = true := decide_eq_true h1
        clear hne hSS
        go_wp2_with (go_at_call 11; refine (cA.out _).mono ?_; rintro e w8 ⟨rfl, hb⟩)
        go_ret
        exact ⟨rfl, chain hB hb⟩
      · have hs := hSS h2
        subst hs
        have f1 : decide ((x : Int) < (y : Int)) = false := decide_eq_false (by omega)
        have f2 : decide (x < y) = false := decide_eq_false (by omega)
        clear hne hSS
        go_wp2_with (go_at_call 11; refine (cA.out _).mono ?_; rintro e w8 ⟨rfl, hb⟩)
        go_ret
        exact ⟨rfl, chain hB hb⟩
      · have f0 := hne h2
        have f1 : decide ((x : Int) < (y : Int)) = false := decide_eq_false (by omega)
        have f2 : decide (x < y) = false := decide_eq_false (by omega)
        subst h3
        clear hne hSS h2
        go_wp2_with (go_at_call 11; refine (cA.out _).mono ?_; rintro e w8 ⟨rfl, hb⟩)
        go_ret
        exact ⟨rfl, chain hB hb⟩
end Go.Proofs.Ytmkmikegddafdaa.V10
