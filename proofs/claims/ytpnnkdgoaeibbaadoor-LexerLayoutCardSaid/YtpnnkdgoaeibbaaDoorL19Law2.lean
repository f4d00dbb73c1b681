/- LexerLayout, walked. -/
import Derived.Test.YtpnnkdgoaeibbaaDoorL19Awake
import Derived.Test.YtpnnkdgoaeibbaaDoorL19Ref
namespace Go.Proofs.YtpnnkdgoaeibbaaDoor.L19
set_option maxRecDepth 100000
open Go.RowKit Mem
open M17 (Laid Laid.below)
set_option linter.unusedVariables false
set_option linter.unusedSimpArgs false

theorem cat_list (a b : ByteArray) : (a ++ b).data.toList = a.data.toList ++ b.data.toList := by rw [ByteArray.data_append]; simp
theorem front_cat {S : ByteArray} {k : Nat} (h : S.data.toList = fronts k) : (S ++ ⟨#[9, 32, 47, 47, 32, 34, 32, 110, 111, 32, 116, 111, 107, 101, 110, 32, 39, 10, 32, 10]⟩).data.toList = fronts (k + 1) := by
  rw [cat_list, h]; rfl
set_option maxHeartbeats 16000000 in
theorem walk_layout (s : ByteArray) (b : Int) (w : World) (hL : Laid w) (hs : s.size ≤ 140737488351232) (hb0 : 0 ≤ b) (hb1 : b ≤ 255) :
    Calls Tryd.prog 7 #[.string s, .int .u8 b] w fun e w' => e = .returned (.bool true) ∧ Below w.heap.size w w' := by
  have cW := Lib.hid awake_any
  have cW1 := Lib.hid (cW.out w hL)
  have hL := Lib.hid hL
  by_cases h6 : 1000 < s.size
  · have d6 : decide ((1000 : Int) < (s.size : Int)) = true := decide_eq_true (by omega)
    clear h6 cW
    go_enter Tryd.func7, Tryd.ntmps7
    go_wp2_with fail
    refine (cW1.out).mono ?_
    rintro e w1 ⟨rfl, hb1⟩
    go_wp2
    first | go_ret | skip
    exact ⟨rfl, hb1⟩
  have d6 : decide ((1000 : Int) < (s.size : Int)) = false := decide_eq_false (by omega)
  have s6 : (s.size : Int) ≤ 1000 := by omega
  have hls : s.data.toList.length = s.size := by simp
  obtain ⟨B, hB⟩ : ∃ B : Nat, b = (B : Int) := ⟨b.toNat, by omega⟩
  subst hB
  obtain ⟨K, hK⟩ : ∃ K, B % 5 = K := ⟨_, rfl⟩
  have K1 : (B : Int) % 5 = (K : Int) := by omega
  have K1t : (B : Int).tmod 5 = (K : Int) := by rw [Int.tmod_eq_emod_of_nonneg (by omega)]; exact K1
  have K4 : K ≤ 4 := by omega
  have KI : (K : Int) ≤ 4 := by omega
  have K0 : (0 : Int) ≤ (K : Int) := by omega
  have wK : IntKind.i64.wrap (K : Int) = (K : Int) := by rw [IntKind.wrap_i64]; omega
  have wB : IntKind.i64.wrap (B : Int) = (B : Int) := by rw [IntKind.wrap_i64]; omega
  obtain ⟨ts, n, e0, hx⟩ : ∃ ta na ea, ans s.data.toList = (ta, na, ea) := ⟨_, _, _, rfl⟩
  have hlay := layout_ans (k := K) (by omega) K4 hx
  have bx := ans_bound s.data.toList
  rw [hx] at bx
  dsimp only at bx
  have hlen : ∀ S : ByteArray, S.data.toList = fronts K → S.size = 20 * K := fun S h => by
    have : S.data.toList.length = S.size := by simp
    rw [← this, h, fronts_len]
  have hall : ∀ S : ByteArray, S.data.toList = fronts K → (S ++ s ++ ⟨#[32, 47, 47, 32, 116, 104, 101, 32, 101, 110, 100]⟩).data.toList = fronts K ++ s.data.toList ++ tailC := fun S h => by
    rw [cat_list, cat_list, h]; rfl
  have hln : ∀ (S : ByteArray) (h : S.data.toList = fronts K) (W : World), Calls Tryd.prog 12 #[.string S] W fun e w' => e = .returned (.int .i64 ((2 * K : Nat) : Int)) ∧ W = w' := fun S h W => by
    have := Lines_any S (by rw [hlen S h]; omega) W
    rw [h, fronts_count] at this
    exact this
  obtain ⟨D, hD⟩ : ∃ D, 2 * K = D := ⟨_, rfl⟩
  rw [hD] at hlay hln
  have D0 : (0 : Int) ≤ (D : Int) := by omega
  have D1 : (D : Int) ≤ 8 := by omega
  have D2 : D ≤ 8 := by omega
  replace hln := Lib.hid hln
  replace hall := Lib.hid hall
  replace hlen := Lib.hid hlen
  clear hK hD
  by_cases e1 : e0 = 0
  · subst e1
    have hz := hlay.2 rfl
    have hn : n = 0 := by have := (ans_ok (s := s.data.toList) (by rw [hx])).2.2; rw [hx] at this; injection this with _ h; injection h
    subst hn
    obtain ⟨n1, hn1⟩ : ∃ n, ts.length = n := ⟨_, rfl⟩
    have bn1 : n1 ≤ 1000 := by omega
    have ba : ∀ t ∈ ts, t.2.2 ≤ 1000000 := fun t ht => by have := (bx.2.2.2.1 t ht).1; omega
    have c1 := Lib.hid (Tokens_use s hx hn1 (ni := 0) (ei := 0) rfl rfl w hL.out)
    have c2 := Lib.hid (fun (J : ByteArray) (hJ : J.data.toList = fronts K ++ s.data.toList ++ tailC) W h => Tokens_use J (by rw [hJ]; exact hz) (len := n1) (by rw [List.length_map, hn1]) (ni := 0) (ei := 0) rfl rfl W h)
    have cS := Lib.hid (fun (A1 A2 : Option Addr) (p1 p2 : Nat) (W : World) (h1 : IsTk W A1 n1 p1 ts) (h2 : IsTk W A2 n1 p2 (ts.map (shf D))) => show Calls Tryd.prog 13 #[.slice A1 n1 p1, .slice A2 n1 p2, .int .i64 (D : Int)] W fun e w' => e = .returned (.bool true) ∧ ∃ q, w' = W.drewN q by
      have := same_any h1 h2 (by omega) (by omega) D (by omega) ba
      rw [decide_eq_true rfl] at this
      exact this)
    clear hlay bx hz ba hn1 hx h6 hls
    go_enter Tryd.func7, Tryd.ntmps7
    go_wp2
    go_loop [5, 21] (fun fv iv => ∃ (k : Nat) (S : ByteArray), fv = .string S ∧ iv = .int .i64 (k : Int) ∧ k ≤ K ∧ Hid (S.data.toList = fronts k)) (fun _ iv => K - (intOf iv).toNat)
    case atStart => exact ⟨0, ⟨#[]⟩, rfl, rfl, Nat.zero_le _, Lib.hid rfl⟩
    case round =>
      obtain ⟨k, S, rfl, rfl, hk, hS⟩ := hrel
      by_cases hlt : k < K
      · have dk : decide ((k : Int) < (K : Int)) = true := decide_eq_true (by omega)
        have k0 : (0 : Int) ≤ (k : Int) := by omega
        have k1 : (k : Int) < (K : Int) := by omega
        have hSz : S.size = 20 * k := by
          have : S.data.toList.length = S.size := by simp
          rw [← this, hS.out, fronts_len]
        have hSI : (S.size : Int) ≤ 80 := by omega
        have hS2 := Lib.hid (front_cat hS.out)
        clear hS hSz
        go_wp2
        go_round
        case rel => exact ⟨k + 1, _, rfl, by go_num, by omega, hS2⟩
        case measure => simp [intOf]; omega
      · obtain rfl : k = K := by omega
        have dk : decide ((k : Int) < (k : Int)) = false := decide_eq_false (by omega)
        have hSz := hlen.out S hS.out
        have hSI : (S.size : Int) ≤ 80 := by omega
        have hJl := hall.out S hS.out
        have cLn := Lib.hid (fun W => hln.out S hS.out W)
        obtain ⟨J, hJ⟩ : ∃ J, S ++ s ++ ⟨#[32, 47, 47, 32, 116, 104, 101, 32, 101, 110, 100]⟩ = J := ⟨_, rfl⟩
        rw [hJ] at hJl
        have c2 := c2.out J hJl
        have c2 := Lib.hid c2
        clear hall hln hlen hS hJl hSz
        go_wp2_with fail
        refine (c1.out).mono ?_
        rintro e w1 ⟨A1, p1, rfl, hI1, hb1⟩
        have c2 := Lib.hid (c2.out w1 (hL.out.below hb1))
        have hb1 := Lib.hid hb1
        have hI1 := Lib.hid hI1
        go_wp2_with fail
        refine (c2.out).mono ?_
        rintro e w2 ⟨A2, p2, rfl, hI2, hb2⟩
        have hI1 := Lib.hid (hI1.out.below hb2)
        have hbx := Lib.hid (chain hb1.out hb2)
        have hI2 := Lib.hid hI2
        clear c1 c2 hb1 hb2
        go_wp2_with fail
        refine (cLn.out _).mono ?_
        rintro e w4 ⟨rfl, rfl⟩
        have cT := Lib.hid (cS.out A1 A2 p1 p2 w2 hI1.out hI2.out)
        clear cS hI1 hI2
        go_wp2_with fail
        refine (cT.out).mono ?_
        rintro e w5 ⟨rfl, q5, rfl⟩
        have hbx := Lib.hid (chainN hbx.out q5)
        have cW9 := Lib.hid (cW.out _ (hL.out.below hbx.out))
        go_wp2_with fail
        refine (cW9.out).mono ?_
        rintro e w9 ⟨rfl, hb9⟩
        go_wp2
        first | go_ret | skip
        exact ⟨rfl, chain hbx.out hb9⟩
  · obtain ⟨hts, hz⟩ := hlay.1 e1
    subst hts
    have c1 := Tokens_use s hx (len := 0) rfl (ni := (n : Int)) (ei := (e0 : Int)) rfl rfl w hL.out
    have c2 := fun (J : ByteArray) (hJ : J.data.toList = fronts K ++ s.data.toList ++ tailC) W h => Tokens_use J (by rw [hJ]; exact hz) (len := 0) rfl (ni := ((n + D : Nat) : Int)) (ei := (e0 : Int)) rfl rfl W h
    obtain ⟨M, hM⟩ : ∃ M, n + D = M := ⟨_, rfl⟩
    have bn : n ≤ 60001 := bx.2.1
    rw [hM] at c2
    have M1 : (n : Int) + (D : Int) = (M : Int) := by omega
    have M3 : (n : Int) ≤ 60001 := by omega
    have M4 : (0 : Int) ≤ (n : Int) := by omega
    obtain ⟨E, hE⟩ : ∃ E : Int, (e0 : Int) = E := ⟨_, rfl⟩
    have t2 : (E != 0) = true := bne_iff_ne.2 (by omega)
    rw [hE] at c1 c2
    replace c1 := Lib.hid c1
    replace c2 := Lib.hid c2
    clear hlay bx hz hx h6 hls hM e1 hE
    go_enter Tryd.func7, Tryd.ntmps7
    go_wp2
    go_loop [5, 21] (fun fv iv => ∃ (k : Nat) (S : ByteArray), fv = .string S ∧ iv = .int .i64 (k : Int) ∧ k ≤ K ∧ Hid (S.data.toList = fronts k)) (fun _ iv => K - (intOf iv).toNat)
    case atStart => exact ⟨0, ⟨#[]⟩, rfl, rfl, Nat.zero_le _, Lib.hid rfl⟩
    case round =>
      obtain ⟨k, S, rfl, rfl, hk, hS⟩ := hrel
      by_cases hlt : k < K
      · have dk : decide ((k : Int) < (K : Int)) = true := decide_eq_true (by omega)
        have k0 : (0 : Int) ≤ (k : Int) := by omega
        have k1 : (k : Int) < (K : Int) := by omega
        have hSz : S.size = 20 * k := by
          have : S.data.toList.length = S.size := by simp
          rw [← this, hS.out, fronts_len]
        have hSI : (S.size : Int) ≤ 80 := by omega
        have hS2 := Lib.hid (front_cat hS.out)
        clear hS hSz
        go_wp2
        go_round
        case rel => exact ⟨k + 1, _, rfl, by go_num, by omega, hS2⟩
        case measure => simp [intOf]; omega
      · obtain rfl : k = K := by omega
        have dk : decide ((k : Int) < (k : Int)) = false := decide_eq_false (by omega)
        have hSz := hlen.out S hS.out
        have hSI : (S.size : Int) ≤ 80 := by omega
        have hJl := hall.out S hS.out
        have cLn := Lib.hid (fun W => hln.out S hS.out W)
        obtain ⟨J, hJ⟩ : ∃ J, S ++ s ++ ⟨#[32, 47, 47, 32, 116, 104, 101, 32, 101, 110, 100]⟩ = J := ⟨_, rfl⟩
        rw [hJ] at hJl
        have c2 := c2.out J hJl
        have c2 := Lib.hid c2
        clear hall hln hlen hS hJl hSz
        go_wp2_with fail
        refine (c1.out).mono ?_
        rintro e w1 ⟨A1, p1, rfl, hI1, hb1⟩
        have c2 := Lib.hid (c2.out w1 (hL.out.below hb1))
        have hb1 := Lib.hid hb1
        have hI1 := Lib.hid hI1
        go_wp2_with fail
        refine (c2.out).mono ?_
        rintro e w2 ⟨A2, p2, rfl, hI2, hb2⟩
        have hI1 := Lib.hid (hI1.out.below hb2)
        have hbx := Lib.hid (chain hb1.out hb2)
        have hI2 := Lib.hid hI2
        clear c1 c2 hb1 hb2
        go_wp2_with fail
        refine (cLn.out _).mono ?_
        rintro e w4 ⟨rfl, rfl⟩
        have cW9 := Lib.hid (cW.out _ (hL.out.below hbx.out))
        go_wp2_with fail
        refine (cW9.out).mono ?_
        rintro e w9 ⟨rfl, hb9⟩
        go_wp2
        first | go_ret | skip
        exact ⟨rfl, chain hbx.out hb9⟩
theorem row_layout (s : ByteArray) (b : Int) (w : World) (hL : Laid w) (hs : s.size ≤ 140737488351232) (q : (Lit.int .u8 b).wf = true) : Calls Tryd.prog 7 #[.string s, .int .u8 b] w fun e w' => e = .returned (.bool true) ∧ Below w.heap.size w w' :=
  walk_layout s b w hL hs ((Lit.wf_int_iff .u8 _).1 q).1 ((Lit.wf_int_iff .u8 _).1 q).2
end Go.Proofs.YtpnnkdgoaeibbaaDoor.L19
