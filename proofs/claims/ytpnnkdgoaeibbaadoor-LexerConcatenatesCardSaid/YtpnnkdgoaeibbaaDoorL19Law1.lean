/- LexerConcatenates, walked. -/
import Derived.Test.YtpnnkdgoaeibbaaDoorL19Awake
import Derived.Test.YtpnnkdgoaeibbaaDoorL19Ref
namespace Go.Proofs.YtpnnkdgoaeibbaaDoor.L19
set_option maxRecDepth 100000
open Go.RowKit Mem
open M17 (Laid Laid.below)
set_option linter.unusedVariables false
set_option linter.unusedSimpArgs false

theorem cat_three (a b : ByteArray) : (a ++ ⟨#[10]⟩ ++ b).data.toList = a.data.toList ++ 10 :: b.data.toList := by
  rw [ByteArray.data_append, ByteArray.data_append]
  simp
theorem IsTk.empty (W : World) (A : Option Addr) : IsTk W A 0 0 [] := ⟨rfl, Nat.le_refl _, by decide, fun _ => rfl, fun j hj => by simp at hj⟩
theorem shf_zero (l : List Tok) : l.map (shf 0) = l := by
  have : shf 0 = id := funext fun t => rfl
  rw [this, List.map_id]
set_option maxHeartbeats 16000000 in
theorem walk_concat (a b : ByteArray) (w : World) (hL : Laid w) (ha : a.size ≤ 140737488351232) (hb : b.size ≤ 140737488351232) :
    Calls Tryd.prog 5 #[.string a, .string b] w fun e w' => e = .returned (.bool true) ∧ Below w.heap.size w w' := by
  have cW := Lib.hid awake_any
  have cW1 := Lib.hid (cW.out w hL)
  have hL := Lib.hid hL
  by_cases h6 : 1000 < a.size
  · have d6 : decide ((1000 : Int) < (a.size : Int)) = true := decide_eq_true (by omega)
    clear h6 cW
    go_enter Tryd.func5, Tryd.ntmps5
    go_wp2_with fail
    refine (cW1.out).mono ?_
    rintro e w1 ⟨rfl, hb1⟩
    go_wp2
    first | go_ret | skip
    exact ⟨rfl, hb1⟩
  have d6 : decide ((1000 : Int) < (a.size : Int)) = false := decide_eq_false (by omega)
  by_cases h7 : 1000 < b.size
  · have d7 : decide ((1000 : Int) < (b.size : Int)) = true := decide_eq_true (by omega)
    clear h6 h7 cW
    go_enter Tryd.func5, Tryd.ntmps5
    go_wp2_with fail
    refine (cW1.out).mono ?_
    rintro e w1 ⟨rfl, hb1⟩
    go_wp2
    first | go_ret | skip
    exact ⟨rfl, hb1⟩
  have d7 : decide ((1000 : Int) < (b.size : Int)) = false := decide_eq_false (by omega)
  have a6 : (a.size : Int) ≤ 1000 := by omega
  have b6 : (b.size : Int) ≤ 1000 := by omega
  have hla : a.data.toList.length = a.size := by simp
  have hlb : b.data.toList.length = b.size := by simp
  obtain ⟨J, hJ⟩ : ∃ J, a ++ ⟨#[10]⟩ ++ b = J := ⟨_, rfl⟩
  have hJl : J.data.toList = a.data.toList ++ 10 :: b.data.toList := by rw [← hJ, cat_three]
  have cLn := Lines_any a (by omega)
  have hcnt : a.data.toList.count 10 ≤ 1000 := Nat.le_trans List.count_le_length (by omega)
  obtain ⟨ta, na, ea, hx⟩ : ∃ ta na ea, ans a.data.toList = (ta, na, ea) := ⟨_, _, _, rfl⟩
  obtain ⟨tb, nb, eb, hy⟩ : ∃ ta na ea, ans b.data.toList = (ta, na, ea) := ⟨_, _, _, rfl⟩
  have hcc := concat_ans (by omega) (by omega) hx hy
  have bxa := ans_bound a.data.toList
  have bxb := ans_bound b.data.toList
  rw [hx] at bxa
  rw [hy] at bxb
  dsimp only at bxa bxb
  rw [← hJl] at hcc
  obtain ⟨C, hC⟩ : ∃ C, a.data.toList.count 10 = C := ⟨_, rfl⟩
  rw [hC] at hcc cLn hcnt
  obtain ⟨hc1, hc2, hc3⟩ := hcc
  have C0 : (0 : Int) ≤ (C : Int) := by omega
  have C1 : (C : Int) ≤ 1000 := by omega
  replace cLn := Lib.hid cLn
  by_cases e1 : ea = 0
  · subst e1
    have t1 : ((0 : Int) != 0) = false := rfl
    by_cases e2 : eb = 0
    · subst e2
      have hz := hc3 rfl rfl
      have hna : na = 0 := by have := (ans_ok (s := a.data.toList) (by rw [hx])).2.2; rw [hx] at this; injection this with _ h; injection h
      have hnb : nb = 0 := by have := (ans_ok (s := b.data.toList) (by rw [hy])).2.2; rw [hy] at this; injection this with _ h; injection h
      subst hna hnb
      obtain ⟨n1, hn1⟩ : ∃ n, ta.length = n := ⟨_, rfl⟩
      obtain ⟨n2, hn2⟩ : ∃ n, tb.length = n := ⟨_, rfl⟩
      have bn1 : n1 ≤ 1000 := by omega
      have bn2 : n2 ≤ 1000 := by omega
      have ba : ∀ t ∈ ta, t.2.2 ≤ 1000000 := fun t ht => by have := (bxa.2.2.2.1 t ht).1; omega
      have bb : ∀ t ∈ tb, t.2.2 ≤ 1000000 := fun t ht => by have := (bxb.2.2.2.1 t ht).1; omega
      have c1 := Lib.hid (Tokens_at a hx hn1 (ni := 0) (ei := 0) rfl rfl w hL.out)
      have c2 := Lib.hid (fun W h => Tokens_at b hy hn2 (ni := 0) (ei := 0) rfl rfl W h)
      obtain ⟨n3, hn3⟩ : ∃ n, n1 + n2 = n := ⟨_, rfl⟩
      obtain ⟨D, hD⟩ : ∃ n, C + 1 = n := ⟨_, rfl⟩
      rw [hD] at hz
      have c3 := Lib.hid (fun W h => Tokens_at J hz (len := n3) (by rw [List.length_append, List.length_map, hn1, hn2, hn3]) (ni := 0) (ei := 0) rfl rfl W h)
      have cS1 := Lib.hid (fun (A1 A3 : Option Addr) (p1 p3 : Nat) (W : World) (h1 : IsTk W A1 n1 p1 ta) (h3 : IsTk W A3 n3 p3 (ta ++ tb.map (shf D))) => show Calls Tryd.prog 13 #[.slice A1 n1 p1, .slice A3 n1 p3, .int .i64 0] W fun e w' => e = .returned (.bool true) ∧ ∃ q, w' = W.drewN q by
        have := same_any h1 (h3.take (show n1 ≤ n3 by omega)) (by omega) (by omega) 0 (by omega) ba
        rw [← hn1, List.take_left' rfl, shf_zero, decide_eq_true rfl, hn1] at this
        exact this)
      have cS2 := Lib.hid (fun (A2 : Option Addr) (b o : Nat) (p2 p3 : Nat) (W : World) (h2 : IsTk W A2 n2 p2 tb) (h3 : IsTk W (some ⟨b, o, none⟩) n3 p3 (ta ++ tb.map (shf D))) => show Calls Tryd.prog 13 #[.slice A2 n2 p2, .slice (some ⟨b, o + n1 * 3, none⟩) n2 (p3 - n1), .int .i64 (D : Int)] W fun e w' => e = .returned (.bool true) ∧ ∃ q, w' = W.drewN q by
        have h4 := h3.drop (show n1 ≤ n3 by omega)
        rw [← hn1, List.drop_left' rfl, hn1, show n3 - n1 = n2 by omega] at h4
        have := same_any h2 h4 (by omega) (by omega) D (by omega) bb
        rw [decide_eq_true rfl] at this
        exact this)
      have cS3 := Lib.hid (fun (h0 : n2 = 0) (A2 B : Option Addr) (p2 : Nat) (W : World) (h2 : IsTk W A2 n2 p2 tb) => show Calls Tryd.prog 13 #[.slice A2 0 p2, .slice B 0 0, .int .i64 (D : Int)] W fun e w' => e = .returned (.bool true) ∧ ∃ q, w' = W.drewN q by
        subst h0
        obtain rfl : tb = [] := List.eq_nil_of_length_eq_zero hn2
        have := same_any h2 (IsTk.empty W B) (by omega) (by omega) D (by omega) bb
        rw [List.map_nil, decide_eq_true rfl] at this
        exact this)
      have N1 : (n1 : Int) ≤ 1000 := by omega
      have N2 : (n2 : Int) ≤ 1000 := by omega
      have N0 : (0 : Int) ≤ (n1 : Int) := by omega
      have N02 : (0 : Int) ≤ (n2 : Int) := by omega
      have N3 : (n1 : Int) + (n2 : Int) = (n3 : Int) := by omega
      have N4 : (n1 : Int) ≤ (n3 : Int) := by omega
      have N5 : (n3 : Int) - (n1 : Int) = (n2 : Int) := by omega
      have N6 : n3 - n1 = n2 := by omega
      have D1 : (C : Int) + 1 = (D : Int) := by omega
      clear hc1 hc2 hc3 bxa bxb hz hn3 hD ba bb hn1 hn2 hx hy hC hcnt h6 h7 hla hlb hJl
      go_enter Tryd.func5, Tryd.ntmps5
      go_wp2_with fail
      refine (c1.out).mono ?_
      rintro e w1 ⟨A1, p1, rfl, hI1, hb1, hA1⟩
      have c2 := Lib.hid (c2.out w1 (hL.out.below hb1))
      have hb1 := Lib.hid hb1
      have hI1 := Lib.hid hI1
      have hA1 := Lib.hid hA1
      go_wp2_with fail
      refine (c2.out).mono ?_
      rintro e w2 ⟨A2, p2, rfl, hI2, hb2, hA2⟩
      have hI1 := Lib.hid (hI1.out.below hb2)
      have hb2 := Lib.hid (chain hb1.out hb2)
      have c3 := Lib.hid (c3.out w2 (hL.out.below hb2.out))
      have hI2 := Lib.hid hI2
      have hA2 := Lib.hid hA2
      go_wp2_with fail
      refine (c3.out).mono ?_
      rintro e w3 ⟨A3, p3, rfl, hI3, hb3, hA3⟩
      have hbx := Lib.hid (chain hb2.out hb3)
      have hI1 := Lib.hid (hI1.out.below hb3)
      have hI2 := Lib.hid (hI2.out.below hb3)
      have hI3 := Lib.hid hI3
      have hA3 := Lib.hid hA3
      have hb3 := Lib.hid hb3
      clear c1 c2 c3 hb1 hb2
      go_wp2_with fail
      refine (cLn.out _).mono ?_
      rintro e w4 ⟨rfl, rfl⟩
      have cT1 := Lib.hid (cS1.out A1 A3 p1 p3 w3 hI1.out hI3.out)
      have hp3 : (p3 : Int) ≤ 9223372036854775807 := by have := hI3.out.capm; unfold maxLen at this; omega
      have hp4 : (n3 : Int) ≤ (p3 : Int) := by have := hI3.out.le; omega
      have cT2 : (n2 = 0 ∧ Hid (∀ (q : Nat) (B : Option Addr), Calls Tryd.prog 13 #[.slice A2 0 p2, .slice B 0 0, .int .i64 (D : Int)] (w3.drewN q) fun e w' => e = .returned (.bool true) ∧ ∃ q', w' = (w3.drewN q).drewN q')) ∨ n2 ≠ 0 := by
        by_cases h0 : n2 = 0
        · subst h0
          exact .inl ⟨rfl, Lib.hid (fun q B => cS3.out rfl A2 B p2 (w3.drewN q) (hI2.out.below (chainN (Below.refl _ _) q)))⟩
        · exact .inr h0
      have cT3 := Lib.hid (fun (q g : Nat) (hg : A3 = some ⟨g, 0, none⟩) => cS2.out A2 g 0 p2 p3 (w3.drewN q) (hI2.out.below (chainN (Below.refl _ _) q)) (by rw [← hg]; exact hI3.out.below (chainN (Below.refl _ _) q)))
      replace hA3 := hA3.out
      clear cS1 cS2 cS3 hI1 hI2 hI3 hb3 hA1 hA2
      rcases hA3 with ⟨rfl, rfl, rfl⟩ | ⟨g, rfl⟩
      · obtain rfl : n1 = 0 := by omega
        obtain rfl : n2 = 0 := by omega
        obtain ⟨_, cT2⟩ | h := cT2
        rotate_left
        · exact absurd rfl h
        clear cT3 N0 N02 N1 N2 N3 N4 N5 N6
        go_wp2_with fail
        refine (cT1.out).mono ?_
        rintro e w5 ⟨rfl, q5, rfl⟩
        go_wp2_with fail
        refine (cT2.out q5 none).mono ?_
        rintro e w6 ⟨rfl, q6, rfl⟩
        have hbx := Lib.hid (chainN hbx.out (q5 + q6))
        have cW9 := Lib.hid (cW.out _ (hL.out.below hbx.out))
        go_wp2_with fail
        refine (cW9.out).mono ?_
        rintro e w9 ⟨rfl, hb9⟩
        go_wp2
        first | go_ret | skip
        exact ⟨rfl, chain hbx.out hb9⟩
      · have cT3 := Lib.hid (fun q => cT3.out q g rfl)
        by_cases hpe : p3 = n1
        · subst hpe
          obtain rfl : n2 = 0 := by omega
          obtain ⟨_, cT2⟩ | h := cT2
          rotate_left
          · exact absurd rfl h
          clear cT3
          go_wp2_with fail
          refine (cT1.out).mono ?_
          rintro e w5 ⟨rfl, q5, rfl⟩
          go_wp2_with fail
          refine (cT2.out q5 _).mono ?_
          rintro e w6 ⟨rfl, q6, rfl⟩
          have hbx := Lib.hid (chainN hbx.out (q5 + q6))
          have cW9 := Lib.hid (cW.out _ (hL.out.below hbx.out))
          go_wp2_with fail
          refine (cW9.out).mono ?_
          rintro e w9 ⟨rfl, hb9⟩
          go_wp2
          first | go_ret | skip
          exact ⟨rfl, chain hbx.out hb9⟩
        · have hpe2 : ¬ ((p3 : Int) = (n1 : Int)) := by omega
          clear cT2
          simp only [Nat.zero_add] at cT3
          go_wp2_with fail
          refine (cT1.out).mono ?_
          rintro e w5 ⟨rfl, q5, rfl⟩
          go_wp2_with fail
          refine (cT3.out q5).mono ?_
          rintro e w6 ⟨rfl, q6, rfl⟩
          have hbx := Lib.hid (chainN hbx.out (q5 + q6))
          have cW9 := Lib.hid (cW.out _ (hL.out.below hbx.out))
          go_wp2_with fail
          refine (cW9.out).mono ?_
          rintro e w9 ⟨rfl, hb9⟩
          go_wp2
          first | go_ret | skip
          exact ⟨rfl, chain hbx.out hb9⟩
    · obtain ⟨htb, hz⟩ := hc2 rfl e2
      subst htb
      have hna : na = 0 := by have := (ans_ok (s := a.data.toList) (by rw [hx])).2.2; rw [hx] at this; injection this with _ h; injection h
      subst hna
      have bnb : nb ≤ 60001 := bxb.2.1
      have c1 := Lib.hid (Tokens_at a hx rfl (ni := 0) (ei := 0) rfl rfl w hL.out)
      have c2 := fun W h => Tokens_at b hy (len := 0) rfl (ni := (nb : Int)) (ei := (eb : Int)) rfl rfl W h
      have c3 := fun W h => Tokens_at J hz (len := 0) rfl (ni := ((nb + (C + 1) : Nat) : Int)) (ei := (eb : Int)) rfl rfl W h
      obtain ⟨D, hD⟩ : ∃ n, C + 1 = n := ⟨_, rfl⟩
      obtain ⟨M, hM⟩ : ∃ n, nb + D = n := ⟨_, rfl⟩
      rw [hD, hM] at c3
      have D1 : (C : Int) + 1 = (D : Int) := by omega
      have M1 : (nb : Int) + (D : Int) = (M : Int) := by omega
      have M2 : (D : Int) ≤ 1001 := by omega
      have M3 : (nb : Int) ≤ 60001 := by omega
      have M4 : (0 : Int) ≤ (nb : Int) := by omega
      have M5 : (0 : Int) ≤ (D : Int) := by omega
      obtain ⟨E, hE⟩ : ∃ E : Int, (eb : Int) = E := ⟨_, rfl⟩
      have t2 : (E != 0) = true := bne_iff_ne.2 (by omega)
      rw [hE] at c2 c3
      replace c2 := Lib.hid c2
      replace c3 := Lib.hid c3
      obtain ⟨n1, hn1⟩ : ∃ n, ta.length = n := ⟨_, rfl⟩
      rw [hn1] at c1
      clear hc1 hc2 hc3 bxa bxb hz hx hy hC hcnt h6 h7 hla hlb hJl hD hM e2 hE hn1
      go_enter Tryd.func5, Tryd.ntmps5
      go_wp2_with fail
      refine (c1.out).mono ?_
      rintro e w1 ⟨A1, p1, rfl, hI1, hb1, hA1⟩
      have c2 := Lib.hid (c2.out w1 (hL.out.below hb1))
      have hb1 := Lib.hid hb1
      have hI1 := Lib.hid hI1
      have hA1 := Lib.hid hA1
      go_wp2_with fail
      refine (c2.out).mono ?_
      rintro e w2 ⟨A2, p2, rfl, hI2, hb2, hA2⟩
      have hI1 := Lib.hid (hI1.out.below hb2)
      have hb2 := Lib.hid (chain hb1.out hb2)
      have c3 := Lib.hid (c3.out w2 (hL.out.below hb2.out))
      have hI2 := Lib.hid hI2
      have hA2 := Lib.hid hA2
      go_wp2_with fail
      refine (c3.out).mono ?_
      rintro e w3 ⟨A3, p3, rfl, hI3, hb3, hA3⟩
      have hbx := Lib.hid (chain hb2.out hb3)
      have hI1 := Lib.hid (hI1.out.below hb3)
      have hI2 := Lib.hid (hI2.out.below hb3)
      have hI3 := Lib.hid hI3
      have hA3 := Lib.hid hA3
      have hb3 := Lib.hid hb3
      clear c1 c2 c3 hb1 hb2
      go_wp2_with fail
      refine (cLn.out _).mono ?_
      rintro e w4 ⟨rfl, rfl⟩
      have cW9 := Lib.hid (cW.out _ (hL.out.below hbx.out))
      go_wp2_with fail
      refine (cW9.out).mono ?_
      rintro e w9 ⟨rfl, hb9⟩
      go_wp2
      first | go_ret | skip
      exact ⟨rfl, chain hbx.out hb9⟩
  · obtain ⟨hta, hz⟩ := hc1 e1
    subst hta
    have c1 := Tokens_at a hx (len := 0) rfl (ni := (na : Int)) (ei := (ea : Int)) rfl rfl w hL.out
    have c2 := Lib.hid (fun W h => Tokens_at b hy rfl (ni := (nb : Int)) (ei := (eb : Int)) rfl rfl W h)
    have c3 := fun W h => Tokens_at J hz (len := 0) rfl (ni := (na : Int)) (ei := (ea : Int)) rfl rfl W h
    obtain ⟨E, hE⟩ : ∃ E : Int, (ea : Int) = E := ⟨_, rfl⟩
    have t2 : (E != 0) = true := bne_iff_ne.2 (by omega)
    rw [hE] at c1 c3
    replace c1 := Lib.hid c1
    replace c3 := Lib.hid c3
    obtain ⟨n2, hn2⟩ : ∃ n, tb.length = n := ⟨_, rfl⟩
    rw [hn2] at c2
    clear hc1 hc2 hc3 bxa bxb hz hx hy hC hcnt h6 h7 hla hlb hJl e1 hE hn2
    go_enter Tryd.func5, Tryd.ntmps5
    go_wp2_with fail
    refine (c1.out).mono ?_
    rintro e w1 ⟨A1, p1, rfl, hI1, hb1, hA1⟩
    have c2 := Lib.hid (c2.out w1 (hL.out.below hb1))
    have hb1 := Lib.hid hb1
    have hI1 := Lib.hid hI1
    have hA1 := Lib.hid hA1
    go_wp2_with fail
    refine (c2.out).mono ?_
    rintro e w2 ⟨A2, p2, rfl, hI2, hb2, hA2⟩
    have hI1 := Lib.hid (hI1.out.below hb2)
    have hb2 := Lib.hid (chain hb1.out hb2)
    have c3 := Lib.hid (c3.out w2 (hL.out.below hb2.out))
    have hI2 := Lib.hid hI2
    have hA2 := Lib.hid hA2
    go_wp2_with fail
    refine (c3.out).mono ?_
    rintro e w3 ⟨A3, p3, rfl, hI3, hb3, hA3⟩
    have hbx := Lib.hid (chain hb2.out hb3)
    have hI1 := Lib.hid (hI1.out.below hb3)
    have hI2 := Lib.hid (hI2.out.below hb3)
    have hI3 := Lib.hid hI3
    have hA3 := Lib.hid hA3
    have hb3 := Lib.hid hb3
    clear c1 c2 c3 hb1 hb2
    go_wp2_with fail
    refine (cLn.out _).mono ?_
    rintro e w4 ⟨rfl, rfl⟩
    have cW9 := Lib.hid (cW.out _ (hL.out.below hbx.out))
    go_wp2_with fail
    refine (cW9.out).mono ?_
    rintro e w9 ⟨rfl, hb9⟩
    go_wp2
    first | go_ret | skip
    exact ⟨rfl, chain hbx.out hb9⟩
theorem row_concat (a b : ByteArray) (w : World) (hL : Laid w) (ha : a.size ≤ 140737488351232) (hb : b.size ≤ 140737488351232) : Calls Tryd.prog 5 #[.string a, .string b] w fun e w' => e = .returned (.bool true) ∧ Below w.heap.size w w' := walk_concat a b w hL ha hb
end Go.Proofs.YtpnnkdgoaeibbaaDoor.L19
