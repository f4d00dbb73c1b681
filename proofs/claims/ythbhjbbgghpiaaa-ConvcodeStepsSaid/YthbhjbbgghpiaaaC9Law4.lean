/- The walk of the law ConvcodePrefix, under the package's contracts. -/
import Derived.Test.YthbhjbbgghpiaaaC9Law3
namespace Go.Proofs.Ythbhjbbgghpiaaa.C9
open Go.RowKit Mem
set_option linter.unusedVariables false
set_option linter.unusedSimpArgs false

theorem ext_take (p r : List Bool) (n : Nat) (h : n = p.length) : (sb (p ++ r)).extract 0 n = sb p := by
  subst h
  apply ByteArray.ext
  apply Array.toList_inj.1
  have e : ((sb (p ++ r)).extract 0 p.length).data.toList = ((sb (p ++ r)).data.toList).extract 0 p.length := by
    simp only [ByteArray.data_extract, Array.toList_extract]
  rw [e, List.extract_eq_take_drop, List.drop_zero, Nat.sub_zero]
  show (cs (p ++ r)).take p.length = cs p
  rw [cs_app, List.take_left' (cs_len p)]
theorem enc_pre (l m : List Bool) (n : Nat) (h : n = 2 * l.length) : (sb (enc (l ++ m))).extract 0 n = sb (run false false l) := by
  unfold enc
  rw [List.append_assoc, run_app]
  exact ext_take _ _ _ (by rw [run_len]; exact h)
theorem enc_pre0 (l : List Bool) (n : Nat) (h : n = 2 * l.length) : (sb (enc l)).extract 0 n = sb (run false false l) := by
  have := enc_pre l [] n h
  rwa [List.append_nil] at this
def zs (k : Nat) : List Bool := List.replicate k false
theorem zs_len (k : Nat) : (zs k).length = k := List.length_replicate
theorem zs_add (j k : Nat) : zs j ++ zs k = zs (j + k) := by unfold zs; rw [List.replicate_append_replicate]
theorem run_zs : ∀ k : Nat, run false false (zs k) = zs (2 * k)
  | 0 => rfl
  | k + 1 => by
    have e : zs (2 * (k + 1)) = false :: false :: zs (2 * k) := by unfold zs; rw [show 2 * (k + 1) = 2 * k + 1 + 1 by omega, List.replicate_succ, List.replicate_succ]
    rw [e, ← run_zs k]
    rfl
theorem fin_end (l : List Bool) : fin false false (l ++ [false, false]) = (false, false) := by
  rw [fin_app]
  rfl
theorem enc_zs (l : List Bool) (k : Nat) : enc (l ++ zs k) = enc l ++ zs (2 * k) := by
  have e : l ++ zs k ++ [false, false] = l ++ [false, false] ++ zs k := by
    rw [List.append_assoc, List.append_assoc, show ([false, false] : List Bool) = zs 2 from rfl, zs_add, zs_add, Nat.add_comm]
  unfold enc
  rw [e, run_app, fin_end]
  show _ ++ run false false (zs k) = _
  rw [run_zs]
theorem tb_app (a b : ByteArray) : tb (a ++ b) = tb a ++ tb b := by
  unfold tb
  rw [ByteArray.data_append, Array.toList_append, List.map_append]
theorem bits_left {a b : ByteArray} (h : Bits (a ++ b)) : Bits a := by
  unfold Bits at *
  rw [ByteArray.data_append, Array.toList_append, List.all_append, Bool.and_eq_true] at h
  exact h.1
theorem ball_size_append (a b : ByteArray) : (a ++ b).size = a.size + b.size := ByteArray.size_append
set_option maxRecDepth 100000 in
set_option maxHeartbeats 8000000 in
theorem walk_prefix (D : Dev) (a b : ByteArray) (i2 : Int) (w : World) (ha : a.size ≤ 140737488351232) (hb0 : b.size ≤ 140737488351232) (h2 : (Lit.int .u8 i2).wf = true) :
    Calls Try.prog 9 #[.string a, .string b, .int .u8 i2] w fun e w' => e = .returned (.bool true) ∧ Below w.heap.size w w' := by
  obtain ⟨g1, g2⟩ : 0 ≤ i2 ∧ i2 ≤ 255 := (Lit.wf_int_iff .u8 _).1 h2
  obtain ⟨K, rfl⟩ : ∃ K : Nat, i2 = (K : Int) := ⟨i2.toNat, by omega⟩
  have hK : K ≤ 255 := by omega
  have cA := Lib.hid (alive_any D w)
  have c2 := Lib.hid (fun W => D.encode a W (by omega))
  obtain ⟨AB, hAB⟩ : ∃ AB, a ++ b = AB := ⟨_, rfl⟩
  have hABs : AB.size = a.size + b.size := by rw [← hAB]; exact ByteArray.size_append
  have c1 := Lib.hid (fun W => D.encode AB W (by omega))
  have r0 : ∀ W, (Op.stringOp .add a b).run Try.prog W = .ok (.string AB) W := fun W => by rw [Go.run_string_add_sum _ _ _ (by omega), hAB]
  replace hAB := Lib.hid hAB
  replace hABs := Lib.hid hABs
  clear h2 g1 g2
  go_enter Try.func9, Try.ntmps9
  go_wp2_with fail
  refine cA.out.mono ?_
  rintro e w1 ⟨rfl, hB⟩
  go_wp2_with fail
  refine (c1.out _).mono ?_
  rintro e w2 ⟨X, k1, hq1, rfl, hb⟩
  replace hB := chain hB hb
  clear hb
  replace hq1 := Lib.hid hq1
  go_wp2_with fail
  refine (c2.out _).mono ?_
  rintro e w3 ⟨Y, k2, hq2, rfl, hb⟩
  replace hB := chain hB hb
  clear hb cA c1 c2 r0
  replace hq2 := Lib.hid hq2
  by_cases h1 : a.size + b.size ≤ 1000
  · have d1 : decide (1000 < a.size + b.size) = false := decide_eq_false (by omega)
    have d1' : decide ((1000 : Int) < (a.size : Int) + (b.size : Int)) = false := decide_eq_false (by omega)
    by_cases h3 : k1 = 0
    · have d3 : (k1 != 0) = false := by rw [h3]; rfl
      by_cases h4 : k2 = 0
      · have d4 : (k2 != 0) = false := by rw [h4]; rfl
        obtain ⟨s1, b1, e1⟩ := hq1.out.ok h3
        obtain ⟨s2, b2, e2⟩ := hq2.out.ok h4
        obtain ⟨l, hl⟩ : ∃ l, tb a = l := ⟨_, rfl⟩
        obtain ⟨m, hm⟩ : ∃ m, tb b = m := ⟨_, rfl⟩
        have hal : sb l = a := by rw [← hl]; exact sb_tb b2
        have hll : l.length = a.size := by rw [← hl, tb_len]
        rw [← hAB.out, tb_app, hl, hm] at e1
        rw [hl] at e2
        obtain ⟨N, hN⟩ : ∃ N, 2 * a.size = N := ⟨_, rfl⟩
        have p1 : X.extract 0 N = sb (run false false l) := by rw [e1]; exact enc_pre l m N (by omega)
        have p2 : Y.extract 0 N = sb (run false false l) := by rw [e2]; exact enc_pre0 l N (by omega)
        obtain ⟨T, hT⟩ : ∃ T, sb (run false false l) = T := ⟨_, rfl⟩
        have hml : m.length = b.size := by rw [← hm, tb_len]
        have hXs : X.size = 2 * (a.size + b.size) + 4 := by rw [e1, sb_size, enc_len, List.length_append, hll, hml]
        have hYs : Y.size = 2 * a.size + 4 := by rw [e2, sb_size, enc_len, hll]
        rw [hT] at p1 p2
        have q1 : (N : Int) = 2 * (a.size : Int) := by omega
        have q2 : (0 : Int) ≤ (N : Int) := by omega
        have q3 : (N : Int) ≤ (X.size : Int) := by omega
        have q4 : (N : Int) ≤ (Y.size : Int) := by omega
        have q5 : N ≤ X.size := by omega
        have q6 : N ≤ Y.size := by omega
        have v1 : (0 : Int) ≤ 2 * (a.size : Int) := by omega
        have v2 : 2 * (a.size : Int) ≤ (X.size : Int) := by omega
        have v3 : 2 * (a.size : Int) ≤ (Y.size : Int) := by omega
        have v4 : X.extract 0 (2 * a.size) = T := by rw [hN]; exact p1
        have v5 : Y.extract 0 (2 * a.size) = T := by rw [hN]; exact p2
        have v6 : (2 * (a.size : Int)).toNat = 2 * a.size := by omega
        have v7 : IntKind.i64.wrap (2 * (a.size : Int)) = 2 * (a.size : Int) := IntWalk.i64_in _ (by omega)
        have v8 : 2 * a.size ≤ X.size := by omega
        have v9 : 2 * a.size ≤ Y.size := by omega
        have hend : ∀ j, j < 20 → Y ++ sb (zs (2 * j)) = sb (enc (l ++ zs j)) := fun j _ => by rw [e2, enc_zs, sb_app]
        obtain ⟨R, hR⟩ : ∃ R, K % 20 = R := ⟨_, rfl⟩
        have hR20 : R < 20 := by omega
        have hRI : (K : Int) % 20 = (R : Int) := by omega
        have hlA : ∀ j, a ++ sb (zs j) = sb (l ++ zs j) := fun j => by rw [← hal, sb_app]
        replace hend := Lib.hid hend
        replace hlA := Lib.hid hlA
        replace hll := Lib.hid hll
        have ha1 : a.size ≤ 1000 := by omega
        have hYs3 : Y.size ≤ 2004 := by omega
        clear q2 q3 q4 q5 q6 p1 p2 e1 e2 hl hm hal hT hml hXs hYs q1 hq1 hq2 hAB hABs h1 hN hR s1 b1 s2 b2 h3 h4
        go_upto_region 7 with (fail)
        go_region_held3 (fun _ => True) (trivial) (fail)
        go_wp2_with fail
        rw [hRI]
        go_loopw [11, 12, 56] (fun z c t wr => ∃ j : Nat, j ≤ R ∧ z = .string (sb (zs j)) ∧ c = .string (sb (zs (2 * j))) ∧ t = .int .u8 j ∧ Below w.heap.size w wr) (fun _ _ t _ => R - (intOf t).toNat)
        case atStart => exact ⟨0, by omega, rfl, rfl, rfl, by first | exact hB | exact chainN hB 1⟩
        case round =>
          obtain ⟨j, hj, rfl, rfl, rfl, hb⟩ := hrel
          by_cases hlt : j < R
          · have d5 : decide ((j : Int) < (R : Int)) = true := decide_eq_true (by omega)
            obtain ⟨Z, hZ⟩ : ∃ Z, sb (zs j) = Z := ⟨_, rfl⟩
            obtain ⟨C, hC⟩ : ∃ C, sb (zs (2 * j)) = C := ⟨_, rfl⟩
            obtain ⟨Z1, hZ1⟩ : ∃ Z1, sb (zs (j + 1)) = Z1 := ⟨_, rfl⟩
            obtain ⟨C1, hC1⟩ : ∃ C1, sb (zs (2 * (j + 1))) = C1 := ⟨_, rfl⟩
            have hZs : Z.size = j := by rw [← hZ, sb_size, zs_len]
            have hCs : C.size = 2 * j := by rw [← hC, sb_size, zs_len]
            have r1 : ∀ W, (Op.stringOp .add Z ⟨#[48]⟩).run Try.prog W = .ok (.string Z1) W := fun W => by
              rw [Go.run_string_add_sum _ _ _ (by show Z.size + 1 ≤ _; omega), ← hZ1, ← zs_add j 1, ← sb_app, hZ]
              rfl
            have r2 : ∀ W, (Op.stringOp .add C ⟨#[48, 48]⟩).run Try.prog W = .ok (.string C1) W := fun W => by
              rw [Go.run_string_add_sum _ _ _ (by show C.size + 2 ≤ _; omega), ← hC1, show 2 * (j + 1) = 2 * j + 2 by omega, ← zs_add (2 * j) 2, ← sb_app, hC]
              rfl
            rw [hZ, hC]
            replace hZ1 := Lib.hid hZ1
            replace hC1 := Lib.hid hC1
            have u1 : IntKind.u8.wrap ((j : Int) + 1) = (j : Int) + 1 := by rw [IntKind.wrap_u8]; omega
            clear hZ hC
            go_wp2
            go_roundw
            case rel => exact ⟨j + 1, by omega, by rw [hZ1.out], by rw [hC1.out], by go_num, hb⟩
            case measure => simp [intOf]; omega
          · obtain rfl : j = R := by omega
            have d5 : decide ((j : Int) < (j : Int)) = false := decide_eq_false (by omega)
            obtain ⟨Z, hZ⟩ : ∃ Z, sb (zs j) = Z := ⟨_, rfl⟩
            obtain ⟨C, hC⟩ : ∃ C, sb (zs (2 * j)) = C := ⟨_, rfl⟩
            obtain ⟨M, hM⟩ : ∃ M, sb (l ++ zs j) = M := ⟨_, rfl⟩
            obtain ⟨V, hV⟩ : ∃ V, sb (enc (l ++ zs j)) = V := ⟨_, rfl⟩
            have hZs : Z.size = j := by rw [← hZ, sb_size, zs_len]
            have hCs : C.size = 2 * j := by rw [← hC, sb_size, zs_len]
            have hMs : M.size = l.length + j := by rw [← hM, sb_size, List.length_append, zs_len]
            have r3 : ∀ W, (Op.stringOp .add a Z).run Try.prog W = .ok (.string M) W := fun W => by
              rw [Go.run_string_add_sum _ _ _ (by omega), ← hZ, hlA.out, hM]
            have r4 : ∀ W, (Op.stringOp .add Y C).run Try.prog W = .ok (.string V) W := fun W => by
              rw [Go.run_string_add_sum _ _ _ (by omega), ← hC, hend.out j hR20, hV]
            have hfin : ∀ S k, EncQ M S k → S = V ∧ k = 0 := fun S k h => by
              rw [← hM] at h
              rw [← hV]
              exact h.sb (by rw [List.length_append, zs_len, hll.out]; omega)
            have cM := Lib.hid (fun W => D.encode M W (by rw [hMs, hll.out]; omega))
            replace hfin := Lib.hid hfin
            rw [hZ, hC]
            clear hZ hC hM hV hMs
            go_wp2_with fail
            refine (cM.out _).mono ?_
            rintro e w5 ⟨S, k, hq5, rfl, hb5⟩
            obtain ⟨rfl, rfl⟩ := hfin.out S k hq5
            go_wp2
            go_ret
            exact ⟨rfl, chain hb hb5⟩
      · have d4 : (k2 != 0) = true := by simpa using h4
        go_wp2
        go_ret
        exact ⟨rfl, hB⟩
    · have d3 : (k1 != 0) = true := by simpa using h3
      go_wp2
      go_ret
      exact ⟨rfl, hB⟩
  · have d1 : decide (1000 < a.size + b.size) = true := decide_eq_true (by omega)
    have d1' : decide ((1000 : Int) < (a.size : Int) + (b.size : Int)) = true := decide_eq_true (by omega)
    go_wp2
    go_ret
    exact ⟨rfl, hB⟩
end Go.Proofs.Ythbhjbbgghpiaaa.C9
