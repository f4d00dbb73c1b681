/- The walk of the law ViterbiMonotonicity, under the package's contracts. -/
import Derived.Test.YtmkmikegddafdaaV10Law2
import Derived.Test.YtmkmikegddafdaaC1OwnCheck
namespace Go.Proofs.Ytmkmikegddafdaa.V10
open Go.RowKit Mem C9
set_option linter.unusedVariables false
set_option linter.unusedSimpArgs false

/-- A string with one cell changed: its least distance moves by at most 1; an unreadable cell never raises it. -/
theorem chg_moves {c : ByteArray} {k : Nat} {y : UInt8} (h : eB c = 0) (hk : k < c.size) (hy : okC y = true) : eB (chg c k y) = 0 ∧ dN (chg c k y) ≤ dN c + 1 ∧ dN c ≤ dN (chg c k y) + 1 ∧ (y = 63 → dN (chg c k y) ≤ dN c) ∧ 0 ≤ dN c ∧ dN c ≤ c.size ∧ 0 ≤ dN (chg c k y) := by
  obtain ⟨ho, n, hn⟩ := eB_zero h
  have hs := chg_size c k y
  have hn' : (chg c k y).size = 2 * n + 4 := by rw [hs, hn]
  have ho' : (chg c k y).data.toList.all okC = true := by
    rw [chg_list, List.all_eq_true]
    intro x hx
    rcases List.mem_or_eq_of_mem_set hx with h2 | h2
    · exact List.all_eq_true.1 ho x h2
    · rw [h2]; exact hy
  have h' := eB_ok ho' hn'
  obtain ⟨l, hl⟩ := good h hn
  obtain ⟨l', hl'⟩ := good h' hn'
  have hset : ∀ b : List Bool, b.length = n → ∃ a : Bool, misL (chg c k y).data.toList (enc b) + mis (c.data.toList[k]'(by rw [size_list]; exact hk)) a = misL c.data.toList (enc b) + mis y a := fun b hb => by
    have hkb : k < (enc b).length := by rw [enc_len, hb]; omega
    exact ⟨(enc b)[k], by rw [chg_list]; exact misL_set _ _ k y _ hkb⟩
  refine ⟨h', ?_, ?_, ?_, ?_, ?_, ?_⟩
  · refine hl.moves hl' 1 fun b hb => ?_
    obtain ⟨a, ha⟩ := hset b hb
    have := mis_le y a
    omega
  · refine hl'.moves hl 1 fun b hb => ?_
    obtain ⟨a, ha⟩ := hset b hb
    have := mis_le (c.data.toList[k]'(by rw [size_list]; exact hk)) a
    omega
  · rintro rfl
    have := hl.moves hl' 0 fun b hb => by
      obtain ⟨a, ha⟩ := hset b hb
      have : mis 63 a = 0 := rfl
      omega
    omega
  · rw [hl.dist]; omega
  · rw [hl.dist]
    have := misL_le_len c.data.toList (enc l)
    rw [size_list] at this
    omega
  · rw [hl'.dist]; omega
theorem chk_ok {c : ByteArray} (h : c.data.toList.all okC = true) : C1.chk c.data.toList = 0 := if_pos h
theorem chk_bad {c : ByteArray} (h : c.data.toList.all okC = false) : C1.chk c.data.toList = 3 := if_neg (by
  intro h'
  have h' : c.data.toList.all okC = true := h'
  rw [h] at h'
  cases h')
set_option maxRecDepth 100000 in
set_option maxHeartbeats 8000000 in
theorem walk_monotonicity (D : Dev) (c : ByteArray) (i1 : Int) (w : World) (hc : c.size ≤ 140737488351232) (h1 : (Lit.int .u16 i1).wf = true) :
    Calls Try.prog 9 #[.string c, .int .u16 i1] w fun e w' => e = .returned (.bool true) ∧ Below w.heap.size w w' := by
  obtain ⟨g1, g2⟩ : 0 ≤ i1 ∧ i1 ≤ 65535 := (Lit.wf_int_iff .u16 _).1 h1
  obtain ⟨q1, rfl⟩ : ∃ q : Nat, i1 = (q : Int) := ⟨i1.toNat, by omega⟩
  have hq1 : q1 ≤ 65535 := by omega
  have cA := Lib.hid (fun W => awake_any D W)
  clear h1 g1 g2
  by_cases hlo : 300 < c.size
  · have d1 : decide (300 < c.size) = true := decide_eq_true hlo
    have d1' : decide ((300 : Int) < (c.size : Int)) = true := decide_eq_true (by omega)
    clear hlo hc
    go_enter Try.func9, Try.ntmps9
    go_wp2_with (first
      | (go_at_call 11; refine (cA.out _).mono ?_; rintro e w8 ⟨rfl, hB⟩))
    go_ret
    exact ⟨rfl, hB⟩
  have d1 : decide (300 < c.size) = false := decide_eq_false hlo
  have d1' : decide ((300 : Int) < (c.size : Int)) = false := decide_eq_false (by omega)
  by_cases hsh : c.size < 4
  · have d2 : decide (c.size < 4) = true := decide_eq_true hsh
    have d2' : decide ((c.size : Int) < 4) = true := decide_eq_true (by omega)
    clear hlo hc hsh
    go_enter Try.func9, Try.ntmps9
    go_wp2_with (first
      | (go_at_call 11; refine (cA.out _).mono ?_; rintro e w8 ⟨rfl, hB⟩))
    go_ret
    exact ⟨rfl, hB⟩
  have d2 : decide (c.size < 4) = false := decide_eq_false hsh
  have d2' : decide ((c.size : Int) < 4) = false := decide_eq_false (by omega)
  by_cases hodd : c.size % 2 = 1
  · have d3 : (c.size : Int) % 2 = 1 := by omega
    clear hlo hc hsh
    go_enter Try.func9, Try.ntmps9
    go_wp2_with (first
      | (go_at_call 11; refine (cA.out _).mono ?_; rintro e w8 ⟨rfl, hB⟩))
    go_ret
    exact ⟨rfl, hB⟩
  have d3 : (c.size : Int) % 2 = 0 := by omega
  have d3' : c.size % 2 = 0 := by omega
  have cK := C1.check_any c w (by omega)
  cases ho : c.data.toList.all okC
  · rw [chk_bad ho] at cK
    replace cK := Lib.hid cK
    clear hlo hc hsh hodd ho
    go_enter Try.func9, Try.ntmps9
    go_wp2_with (first
      | (go_at_call 16; refine cK.out.mono ?_; rintro e w8 ⟨rfl, rfl⟩)
      | (go_at_call 11; refine (cA.out _).mono ?_; rintro e w8 ⟨rfl, hB⟩))
    go_ret
    exact ⟨rfl, hB⟩
  · rw [chk_ok ho] at cK
    replace cK := Lib.hid cK
    obtain ⟨n, hn⟩ : ∃ n, c.size = 2 * n + 4 := ⟨(c.size - 4) / 2, by omega⟩
    have h0 := eB_ok ho hn
    obtain ⟨N, hN⟩ : ∃ N, c.size = N := ⟨_, rfl⟩
    rw [hN] at d1 d1' d2 d2' d3 d3'
    obtain ⟨k, hk⟩ : ∃ k, q1 % N = k := ⟨_, rfl⟩
    have hkN : k < N := by rw [← hk]; exact Nat.mod_lt _ (by omega)
    have hkI : (q1 : Int) % (N : Int) = (k : Int) := by omega
    have hNI : ¬ (N : Int) = 0 := by omega
    have hkc : k < c.size := by omega
    obtain ⟨K, hI1⟩ : ∃ I, k + 1 = I := ⟨_, rfl⟩
    have hI2 := hI1
    have hPs1 : c.size = N := hN
    have hPs2 : c.size = N := hN
    obtain ⟨x, hx⟩ : ∃ x, c[k] = x := ⟨_, rfl⟩
    have hsl := one_slice c k K hI1 hkc
    rw [hx] at hsl
    have hxo : okC x = true := by
      rw [← hx]
      have h' : k < c.data.toList.length := by rw [size_list]; exact hkc
      exact List.all_eq_true.1 ho _ (List.getElem_mem h')
    have hyo : okC (C1.invC x) = true := by
      unfold C1.invC
      split
      · rfl
      · split
        · rfl
        · exact hxo
    obtain ⟨m1, m2, m3, m4, m5, m6, m7⟩ := chg_moves (y := 63) h0 hkc rfl
    obtain ⟨o1, o2, o3, _, _, _, o7⟩ := chg_moves (y := C1.invC x) h0 hkc hyo
    have m8 := m4 rfl
    have cI := fun W => invert_one x W
    obtain ⟨SL, hSL⟩ : ∃ s : ByteArray, (⟨#[x]⟩ : ByteArray) = s := ⟨_, rfl⟩
    obtain ⟨y, hy⟩ : ∃ y, C1.invC x = y := ⟨_, rfl⟩
    rw [hSL] at hsl
    rw [hSL, hy] at cI
    rw [hy] at o1 o2 o3 o7
    obtain ⟨P11, hP11⟩ : ∃ s, c.extract 0 k = s := ⟨_, rfl⟩
    obtain ⟨P21, hP21⟩ : ∃ s, c.extract K N = s := ⟨_, rfl⟩
    have hsp1 := split_chg c k K hI1 63 (by omega)
    rw [hPs1, hP11, hP21] at hsp1
    obtain ⟨P31, hP31⟩ : ∃ s, P11 ++ ⟨#[63]⟩ = s := ⟨_, rfl⟩
    obtain ⟨Z1, hZ1⟩ : ∃ s, chg c k 63 = s := ⟨_, rfl⟩
    rw [hP31, hZ1] at hsp1
    have hYs1 : (⟨#[63]⟩ : ByteArray).size = 1 := rfl
    have hP1s1 : P11.size ≤ 3000 := by rw [← hP11, ByteArray.size_extract]; omega
    have hP2s1 : P21.size ≤ 3000 := by rw [← hP21, ByteArray.size_extract]; omega
    have hP3s1 : P31.size ≤ 3001 := by rw [← hP31, ByteArray.size_append]; omega
    have ra1 : ∀ W, (Op.stringOp .add P11 ⟨#[63]⟩).run Try.prog W = .ok (.string P31) W := fun W => by rw [Go.run_string_add_sum _ _ _ (by omega), hP31]
    have rb1 : ∀ W, (Op.stringOp .add P31 P21).run Try.prog W = .ok (.string Z1) W := fun W => by rw [Go.run_string_add_sum _ _ _ (by omega), hsp1]
    have u11 : IntKind.i64.wrap ((k : Int) + 1) = (K : Int) := by rw [IntWalk.i64_in _ (by omega)]; omega
    have u21 : (k : Int) + 1 = (K : Int) := by omega
    have u31 : IntKind.i64.wrap (K : Int) = (K : Int) := IntWalk.i64_in _ (by omega)
    have v11 : (0 : Int) ≤ (k : Int) := by omega
    have v21 : (k : Int) ≤ (K : Int) := by omega
    have v31 : (K : Int) ≤ (N : Int) := by omega
    have v41 : (k : Int) ≤ (N : Int) := by omega
    have v51 : (0 : Int) ≤ (K : Int) := by omega
    have v61 : k ≤ K := by omega
    have v71 : K ≤ N := by omega
    have v81 : k ≤ N := by omega
    obtain ⟨P12, hP12⟩ : ∃ s, c.extract 0 k = s := ⟨_, rfl⟩
    obtain ⟨P22, hP22⟩ : ∃ s, c.extract K N = s := ⟨_, rfl⟩
    have hsp2 := split_chg c k K hI2 y (by omega)
    rw [hPs2, hP12, hP22] at hsp2
    obtain ⟨Y2, hY2⟩ : ∃ s : ByteArray, (⟨#[y]⟩ : ByteArray) = s := ⟨_, rfl⟩
    obtain ⟨P32, hP32⟩ : ∃ s, P12 ++ Y2 = s := ⟨_, rfl⟩
    obtain ⟨Z2, hZ2⟩ : ∃ s, chg c k y = s := ⟨_, rfl⟩
    rw [hY2, hP32, hZ2] at hsp2
    have hYs2 : Y2.size = 1 := by rw [← hY2]; rfl
    have hP1s2 : P12.size ≤ 3000 := by rw [← hP12, ByteArray.size_extract]; omega
    have hP2s2 : P22.size ≤ 3000 := by rw [← hP22, ByteArray.size_extract]; omega
    have hP3s2 : P32.size ≤ 3001 := by rw [← hP32, ByteArray.size_append]; omega
    have ra2 : ∀ W, (Op.stringOp .add P12 Y2).run Try.prog W = .ok (.string P32) W := fun W => by rw [Go.run_string_add_sum _ _ _ (by omega), hP32]
    have rb2 : ∀ W, (Op.stringOp .add P32 P22).run Try.prog W = .ok (.string Z2) W := fun W => by rw [Go.run_string_add_sum _ _ _ (by omega), hsp2]
    have u12 : IntKind.i64.wrap ((k : Int) + 1) = (K : Int) := by rw [IntWalk.i64_in _ (by omega)]; omega
    have u22 : (k : Int) + 1 = (K : Int) := by omega
    have u32 : IntKind.i64.wrap (K : Int) = (K : Int) := IntWalk.i64_in _ (by omega)
    have v12 : (0 : Int) ≤ (k : Int) := by omega
    have v22 : (k : Int) ≤ (K : Int) := by omega
    have v32 : (K : Int) ≤ (N : Int) := by omega
    have v42 : (k : Int) ≤ (N : Int) := by omega
    have v52 : (0 : Int) ≤ (K : Int) := by omega
    have v62 : k ≤ K := by omega
    have v72 : K ≤ N := by omega
    have v82 : k ≤ N := by omega
    have hpa : P12 = P11 := hP12.symm.trans hP11
    have hpb : P22 = P21 := hP22.symm.trans hP21
    subst hpa hpb
    rw [hY2] at cI
    rw [hZ1] at m1 m2 m3 m8 m7
    rw [hZ2] at o1 o2 o3 o7
    have hZ1s : Z1.size = N := by rw [← hZ1, chg_size, hN]
    have hZ2s : Z2.size = N := by rw [← hZ2, chg_size, hN]
    have c0 := fun W => D.decode_as (c := c) (by omega) rfl rfl rfl h0 W
    have c1 := fun W => D.decode_as (c := Z1) (by omega) rfl rfl rfl m1 W
    have c2 := fun W => D.decode_as (c := Z2) (by omega) rfl rfl rfl o1 W
    rw [hN] at m6
    obtain ⟨a, ha⟩ : ∃ a, dN c = a := ⟨_, rfl⟩
    obtain ⟨b, hb⟩ : ∃ a, dN Z1 = a := ⟨_, rfl⟩
    obtain ⟨d, hd⟩ : ∃ a, dN Z2 = a := ⟨_, rfl⟩
    obtain ⟨S0, hS0⟩ : ∃ a, dS c = a := ⟨_, rfl⟩
    obtain ⟨S1, hS1⟩ : ∃ a, dS Z1 = a := ⟨_, rfl⟩
    obtain ⟨S2, hS2⟩ : ∃ a, dS Z2 = a := ⟨_, rfl⟩
    obtain ⟨B0, hB0⟩ : ∃ a, dB c = a := ⟨_, rfl⟩
    obtain ⟨B1, hB1⟩ : ∃ a, dB Z1 = a := ⟨_, rfl⟩
    obtain ⟨B2, hB2⟩ : ∃ a, dB Z2 = a := ⟨_, rfl⟩
    rw [ha, hS0, hB0] at c0
    rw [hb, hS1, hB1] at c1
    rw [hd, hS2, hB2] at c2
    rw [ha] at m3 m5 m6 m8 o2 o3
    rw [hb] at m3 m7 m8
    rw [hd] at o2 o3 o7
    have f1 : decide (b ≤ a) = true := decide_eq_true m8
    have f2 : decide (a - 1 ≤ b) = true := decide_eq_true (by omega)
    have f3 : decide (a - 1 ≤ d) = true := decide_eq_true (by omega)
    have f4 : decide (d ≤ a + 1) = true := decide_eq_true (by omega)
    have f5 : IntKind.i64.wrap (a - 1) = a - 1 := IntWalk.i64_in _ (by omega)
    have f6 : IntKind.i64.wrap (a + 1) = a + 1 := IntWalk.i64_in _ (by omega)
    replace c0 := Lib.hid c0
    replace c1 := Lib.hid c1
    replace c2 := Lib.hid c2
    replace cI := Lib.hid cI
    clear hlo hc hsh hodd ho hn h0 hk hx hxo hyo m1 m2 m3 m4 m7 m8 o1 o2 o3 o7 hSL hy hY2 hZ1 hZ2 hsp1 hsp2 ha hb hd hS0 hS1 hS2 hB0 hB1 hB2
    go_enter Try.func9, Try.ntmps9
    go_wp2_with (go_at_call 16; refine cK.out.mono ?_; rintro e w8 ⟨rfl, rfl⟩)
    rw [hkI]
    clear hkI cK
    go_wp2_with fail
    refine (c0.out _).mono ?_
    rintro e w2 ⟨rfl, hB⟩
    go_wp2_with fail
    go_region_held3 (fun _ => True) (trivial) (first | (go_at_call 12; (with_reducible refine (c1.out _).mono ?_); rintro e w5 ⟨rfl, hb5⟩))
    replace hB := chain (chainN hB 1) hb5
    clear hb5 c1 c0 ra1 rb1
    go_wp2_with fail
    go_region_held3 (fun _ => True) (trivial) (first | (go_at_call 20; (with_reducible refine (cI.out _).mono ?_); rintro e w6 ⟨rfl, hb6⟩) | (go_at_call 12; (with_reducible refine (c2.out _).mono ?_); rintro e w7 ⟨rfl, hb7⟩))
    replace hB := chain (chain (chainN hB 1) hb6) hb7
    clear hb6 hb7 c2 cI ra2 rb2
    go_wp2_with (go_at_call 11; refine (cA.out _).mono ?_; rintro e w8 ⟨rfl, hb⟩)
    go_ret
    exact ⟨rfl, chain hB hb⟩
end Go.Proofs.Ytmkmikegddafdaa.V10
