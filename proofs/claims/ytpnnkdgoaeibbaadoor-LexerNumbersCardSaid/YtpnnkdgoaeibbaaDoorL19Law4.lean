/- LexerNumbers, walked. -/
import Derived.Test.YtpnnkdgoaeibbaaDoorL19Awake
import Derived.Test.YtpnnkdgoaeibbaaDoorL19Dec
import Derived.Laws.StructEq
namespace Go.Proofs.YtpnnkdgoaeibbaaDoor.L19
set_option maxRecDepth 100000
open Go.RowKit Mem
open M17 (Laid Laid.below)
set_option linter.unusedVariables false
set_option linter.unusedSimpArgs false

theorem cat_listN (a b : ByteArray) : (a ++ b).data.toList = a.data.toList ++ b.data.toList := by rw [ByteArray.data_append]; simp
theorem zero_ext (Z : Nat) (h : Z < 8) : ((ByteArray.mk #[48, 48, 48, 48, 48, 48, 48, 48]).extract 0 Z).data.toList = List.replicate Z 48 ∧ ((ByteArray.mk #[48, 48, 48, 48, 48, 48, 48, 48]).extract 0 Z).size = Z := by
  have : ∀ Z, Z < 8 → ((ByteArray.mk #[48, 48, 48, 48, 48, 48, 48, 48]).extract 0 Z).data.toList = List.replicate Z 48 ∧ ((ByteArray.mk #[48, 48, 48, 48, 48, 48, 48, 48]).extract 0 Z).size = Z := by
    intro Z h
    rw [A18.ext_list, ByteArray.size_extract]
    match Z, h with
    | 0, _ | 1, _ | 2, _ | 3, _ | 4, _ | 5, _ | 6, _ | 7, _ => exact ⟨rfl, rfl⟩
  exact this Z h
set_option maxHeartbeats 16000000 in
theorem walk_numbers (N B : Nat) (w : World) (hL : Laid w) (hN : N < 18446744073709551616) (hB : B ≤ 255) :
    Calls Tryd.prog 8 #[.int .u64 (N : Int), .int .u8 (B : Int)] w fun e w' => e = .returned (.bool true) ∧ Below w.heap.size w w' := by
  have cW := Lib.hid awake_any
  have cW1 := Lib.hid (cW.out w hL)
  have hL := Lib.hid hL
  by_cases h6 : 1099511627776 ≤ N
  · have d6 : decide ((1099511627776 : Int) ≤ (N : Int)) = true := decide_eq_true (by omega)
    clear h6 cW
    go_enter Tryd.func8, Tryd.ntmps8
    go_wp2_with fail
    refine (cW1.out).mono ?_
    rintro e w1 ⟨rfl, hb1⟩
    go_wp2
    first | go_ret | skip
    exact ⟨rfl, hb1⟩
  have d6 : decide ((1099511627776 : Int) ≤ (N : Int)) = false := decide_eq_false (by omega)
  have n0 : (0 : Int) ≤ (N : Int) := by omega
  have n1 : (N : Int) ≤ 1099511627775 := by omega
  have wN : IntKind.i64.wrap (N : Int) = (N : Int) := by rw [IntKind.wrap_i64]; omega
  obtain ⟨Z, hZ⟩ : ∃ K, B % 8 = K := ⟨_, rfl⟩
  have K1 : (B : Int) % 8 = (Z : Int) := by omega
  have K1t : (B : Int).tmod 8 = (Z : Int) := by rw [Int.tmod_eq_emod_of_nonneg (by omega)]; exact K1
  have Z8 : Z < 8 := by omega
  have Z7 : (Z : Int) ≤ 7 := by omega
  have Z78 : (Z : Int) ≤ 8 := by omega
  have Z0 : (0 : Int) ≤ (Z : Int) := by omega
  have wZ : IntKind.i64.wrap (Z : Int) = (Z : Int) := by rw [IntKind.wrap_i64]; omega
  have wB : IntKind.i64.wrap (B : Int) = (B : Int) := by rw [IntKind.wrap_i64]; omega
  have hdl := dec_len 19 N (by omega)
  obtain ⟨z1, z2⟩ := zero_ext Z Z8
  obtain ⟨hn1, hn2⟩ := number_ans Z N (by omega) hdl
  have cD := fun W => Decimal_any N (by omega) W
  obtain ⟨T, hT⟩ : ∃ T : ByteArray, ⟨(dec N).toArray⟩ = T := ⟨_, rfl⟩
  have hTl : T.data.toList = dec N := by rw [← hT]
  have hTz : T.size ≤ 20 := by rw [← hT, str_size]; exact hdl
  have hTI : (T.size : Int) ≤ 20 := by omega
  unfold strV at cD
  rw [hT] at cD
  obtain ⟨SZ, hSZ⟩ : ∃ S, (ByteArray.mk #[48, 48, 48, 48, 48, 48, 48, 48]).extract 0 Z = S := ⟨_, rfl⟩
  rw [hSZ] at z1 z2
  have hSI : (SZ.size : Int) ≤ 7 := by omega
  obtain ⟨S, hS⟩ : ∃ S, SZ ++ T = S := ⟨_, rfl⟩
  have hSl : S.data.toList = List.replicate Z 48 ++ dec N := by rw [← hS, cat_listN, z1, hTl]
  have hSs : (S.size : Int) ≤ 27 := by
    rw [← hS, ByteArray.size_append]; omega
  have c2 := Lib.hid (fun W h => Tokens_use (S ++ ⟨#[95]⟩) (by rw [cat_listN, hSl]; exact hn2) (len := 0) rfl (ni := 1) (ei := 3) rfl rfl W h)
  replace cD := Lib.hid cD
  have hJl : (⟨#[10]⟩ ++ S ++ ⟨#[59]⟩ : ByteArray).data.toList = 10 :: (List.replicate Z 48 ++ dec N ++ [59]) := by rw [cat_listN, cat_listN, hSl]; simp
  rw [← hJl] at hn1
  by_cases hbig : 4294967295 < N
  · rw [if_pos hbig] at hn1
    have d7 : decide ((4294967295 : Int) < (N : Int)) = true := decide_eq_true (by omega)
    have c1 := Lib.hid (fun W h => Tokens_use (⟨#[10]⟩ ++ S ++ ⟨#[59]⟩) hn1 (len := 0) rfl (ni := 2) (ei := 2) rfl rfl W h)
    clear hn1 hn2 hJl hSl hTl hT hdl z1 z2 hZ h6 hbig
    go_enter Tryd.func8, Tryd.ntmps8
    go_wp2_with fail
    refine (cD.out _).mono ?_
    rintro e w1 ⟨rfl, hb1⟩
    have c1 := Lib.hid (c1.out w1 (hL.out.below hb1))
    have hb1 := Lib.hid hb1
    go_wp2_with fail
    refine (c1.out).mono ?_
    rintro e w2 ⟨A2, p2, rfl, hI2, hb2⟩
    have hb2 := Lib.hid (chain hb1.out hb2)
    have c2 := Lib.hid (c2.out w2 (hL.out.below hb2.out))
    have hI2 := Lib.hid hI2
    clear c1 hb1
    go_wp2_with fail
    refine (c2.out).mono ?_
    rintro e w3 ⟨A3, p3, rfl, hI3, hb3⟩
    have hI2 := Lib.hid (hI2.out.below hb3)
    have hbx := Lib.hid (chain hb2.out hb3)
    clear c2 hb2 hb3 hI3
    have cW9 := Lib.hid (cW.out _ (hL.out.below hbx.out))
    go_wp2_with fail
    refine (cW9.out).mono ?_
    rintro e w9 ⟨rfl, hb9⟩
    go_wp2
    first | go_ret | skip
    exact ⟨rfl, chain hbx.out hb9⟩
  · rw [if_neg hbig] at hn1
    have d7 : decide ((4294967295 : Int) < (N : Int)) = false := decide_eq_false (by omega)
    have c1 := Lib.hid (fun W h => Tokens_use (⟨#[10]⟩ ++ S ++ ⟨#[59]⟩) hn1 (len := 2) rfl (ni := 0) (ei := 0) rfl rfl W h)
    clear hn1 hn2 hJl hSl hTl hdl z1 z2 hZ h6 hbig
    go_enter Tryd.func8, Tryd.ntmps8
    go_wp2_with fail
    refine (cD.out _).mono ?_
    rintro e w1 ⟨rfl, hb1⟩
    have c1 := Lib.hid (c1.out w1 (hL.out.below hb1))
    have hb1 := Lib.hid hb1
    go_wp2_with fail
    refine (c1.out).mono ?_
    rintro e w2 ⟨A2, p2, rfl, hI2, hb2⟩
    have hb2 := Lib.hid (chain hb1.out hb2)
    have c2 := Lib.hid (c2.out w2 (hL.out.below hb2.out))
    have hI2 := Lib.hid hI2
    clear c1 hb1
    go_wp2_with fail
    refine (c2.out).mono ?_
    rintro e w3 ⟨A3, p3, rfl, hI3, hb3⟩
    have hI2 := Lib.hid (hI2.out.below hb3)
    have hbx := Lib.hid (chain hb2.out hb3)
    clear c2 hb2 hb3 hI3
    obtain ⟨k', T', z', b, o, hTk, hA, hbl, f0, f1, f2⟩ := hI2.out.at (i := 0) (by decide)
    have hT2 : some ((1 : Nat), dec N, (2 : Nat)) = some (k', T', z') := hTk
    cases hT2
    unfold strV at f1
    rw [hT] at f1
    rw [Nat.zero_mul, Nat.add_zero] at f0 f1 f2
    have f0 : w3.cell? ⟨b, o, none⟩ = some (.int .i64 1) := f0
    have f2 : w3.cell? ⟨b, o + 2, none⟩ = some (.int .i64 2) := f2
    have hcap := hI2.out.le
    subst hA
    clear hI2 hTk hbl hT
    have cW9 := Lib.hid (cW.out _ (hL.out.below hbx.out))
    go_wp2_with fail
    refine (cW9.out).mono ?_
    rintro e w9 ⟨rfl, hb9⟩
    go_wp2
    first | go_ret | skip
    exact ⟨rfl, chain hbx.out hb9⟩
theorem row_numbers (n z : Int) (w : World) (hL : Laid w) (q0 : (Lit.int .u64 n).wf = true) (q1 : (Lit.int .u8 z).wf = true) : Calls Tryd.prog 8 #[.int .u64 n, .int .u8 z] w fun e w' => e = .returned (.bool true) ∧ Below w.heap.size w w' := by
  obtain ⟨a0, a1⟩ : 0 ≤ n ∧ n ≤ 18446744073709551615 := (Lit.wf_int_iff .u64 _).1 q0
  obtain ⟨b0, b1⟩ : 0 ≤ z ∧ z ≤ 255 := (Lit.wf_int_iff .u8 _).1 q1
  obtain ⟨N, rfl⟩ : ∃ N : Nat, n = (N : Int) := ⟨n.toNat, by omega⟩
  obtain ⟨B, rfl⟩ : ∃ B : Nat, z = (B : Int) := ⟨z.toNat, by omega⟩
  exact walk_numbers N B w hL (by omega) (by omega)
end Go.Proofs.YtpnnkdgoaeibbaaDoor.L19
