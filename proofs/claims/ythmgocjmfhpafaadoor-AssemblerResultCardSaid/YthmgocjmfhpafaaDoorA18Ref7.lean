/- The contracts of the reference's Assemble and Disassemble (layer 18). -/
import Derived.Test.YthmgocjmfhpafaaDoorA18Ref6
import Derived.Test.YthmgocjmfhpafaaDoorA18Own7
import Derived.Test.YthmgocjmfhpafaaDoorA18Own8
namespace Go.Proofs.YthmgocjmfhpafaaDoor.A18
set_option maxRecDepth 100000
open Go.RowKit Mem
set_option linter.unusedVariables false
set_option linter.unusedSimpArgs false

theorem ps_empty (w : World) : IsPs (w.alloc (.cells #[] 37)) (some ⟨w.heap.size, 0, none⟩) 0 0 [] := ⟨rfl, Nat.le_refl _, by decide, (fun e => by cases e), fun j h => by simp at h⟩
theorem asp_empty (n e : Nat) {w w1 : World} (hb : Below w.heap.size w w1) : AsP ⟨[], [], n, e⟩ w (.returned (.tuple #[.string ⟨#[]⟩, .slice (some ⟨w1.heap.size, 0, none⟩) 0 0, .int .i64 (n : Int), .int .i64 (e : Int)])) (w1.alloc (.cells #[] 37)) :=
  ⟨_, w1.heap.size, rfl, hb.size, empty_at rfl (Nat.le_refl _), hb.alloc hb.size _⟩
theorem adr_nil : adr [] = nul := rfl
set_option maxHeartbeats 16000000 in
theorem rAssemble_any (s : ByteArray) (hs : s.size ≤ 20000) (o : Int) (w : World) : Calls Tryd.prog 13 #[.string s, .int .i64 o] w (AsP (asm s.data.toList o) w) := by
  by_cases h1 : o < 0
  · have d1 : decide (o < 0) = true := decide_eq_true h1
    have e1 : asm s.data.toList o = ⟨[], [], 0, 2⟩ := by unfold asm; rw [if_pos (.inl h1)]
    rw [e1]
    have hfin := Lib.hid (asp_empty 0 2 (Below.refl w.heap.size w))
    obtain ⟨P, hP⟩ : ∃ P, AsP ⟨[], [], 0, 2⟩ w = P := ⟨_, rfl⟩
    rw [hP] at hfin ⊢
    clear e1 hP
    show Calls _ _ _ _ (fun e w' => P e w')
    go_enter Tryd.func13, Tryd.ntmps13
    go_wp2
    exact bodyPost_ret (v := .tuple #[.string ⟨#[]⟩, .slice (some ⟨w.heap.size, 0, none⟩) 0 0, .int .i64 0, .int .i64 2]) (by simp [results, Tryd.results13, go_sem]) rfl hfin.out
  by_cases h2 : 262144 ≤ o
  · have d1 : decide (o < 0) = false := decide_eq_false h1
    have d2 : decide (262144 ≤ o) = true := decide_eq_true h2
    have e1 : asm s.data.toList o = ⟨[], [], 0, 2⟩ := by unfold asm; rw [if_pos (.inr h2)]
    rw [e1]
    have hfin := Lib.hid (asp_empty 0 2 (Below.refl w.heap.size w))
    obtain ⟨P, hP⟩ : ∃ P, AsP ⟨[], [], 0, 2⟩ w = P := ⟨_, rfl⟩
    rw [hP] at hfin ⊢
    clear e1 hP
    show Calls _ _ _ _ (fun e w' => P e w')
    go_enter Tryd.func13, Tryd.ntmps13
    go_wp2
    exact bodyPost_ret (v := .tuple #[.string ⟨#[]⟩, .slice (some ⟨w.heap.size, 0, none⟩) 0 0, .int .i64 0, .int .i64 2]) (by simp [results, Tryd.results13, go_sem]) rfl hfin.out
  have d1 : decide (o < 0) = false := decide_eq_false h1
  have d2 : decide (262144 ≤ o) = false := decide_eq_false h2
  have hn : s.data.toList.length = s.size := by simp
  have cS := Lib.hid (rwords_any s (by omega))
  have hT := toks_toks (s := s.data.toList) (by omega)
  have hTn : (toks s.data.toList).length ≤ 20000 := by have := toks_le s.data.toList; omega
  have e1 : asm s.data.toList o = asmW (toks s.data.toList) o := by unfold asm; rw [if_neg (by omega)]
  have hbl := fun (A : List UInt8 → Nat) (k : Nat) => Nat.le_trans (bld_toks A s.data.toList k) (show 8 * s.data.toList.length ≤ 160000 by omega)
  rw [e1]
  clear e1
  obtain ⟨L, hLL⟩ : ∃ L, toks s.data.toList = L := ⟨_, rfl⟩
  rw [hLL] at cS hT hTn hbl ⊢
  clear hLL hn
  obtain ⟨n, hnl⟩ : ∃ n, L.length = n := ⟨_, rfl⟩
  rw [hnl] at hTn
  obtain ⟨D, hD⟩ : ∃ D, dfs (wof L) = D := ⟨_, rfl⟩
  have cF := Lib.hid (fun (A : Option Addr) (cap : Nat) (W : World) (h : IsPs W A n cap (L.map tokI)) (k : Nat) (t : Tok) (ht : L[k]? = some t) => show Calls Tryd.prog 32 #[.slice A n cap, .int .i64 (k : Int)] W fun e w' => e = .returned (.int .i64 (flt D (dfs (wof (L.take k))) t.1 : Int)) ∧ W = w' by
    rw [← hD]; exact rfault_any h hT.fits (by omega) ht)
  have hstep := Lib.hid (fun (k : Nat) (t : Tok) (ht : L[k]? = some t) => chk_step (D := D) ht)
  have hend := Lib.hid (show chk D (dfs (wof (L.take n))) (L.drop n) = (0, 0) by rw [List.drop_of_length_le (by omega), chk])
  have cB1 := Lib.hid (fun (A AK : Option Addr) (cap : Nat) (W : World) (h : IsPs W A n cap (L.map tokI)) (hK : IsPs W AK 0 0 []) => show Calls Tryd.prog 33 #[.slice A n cap, .int .i64 o, .slice AK 0 0] W (BlP nul o (wof L) W) by
    have := rbuild_any h hK hT (by omega) (by decide) (o := o) (by omega) (by omega) (fun x => by rw [look_nil]; decide) (fun k _ => Nat.le_trans (hbl _ k) (by decide))
    rw [adr_nil] at this
    exact this)
  obtain ⟨K, hK⟩ : ∃ K, lbs nul o [] (wof L) = K := ⟨_, rfl⟩
  obtain ⟨m, hm⟩ : ∃ m, K.length = m := ⟨_, rfl⟩
  have hmn : m ≤ n := by
    have := lbs_len nul o (wof L) []
    rw [wof_len, hK] at this
    omega
  have hbeq := bld_len_eq (adr K) nul (wof L)
  obtain ⟨SU, hSU⟩ : ∃ S : ByteArray, ⟨(bld (adr K) [] (wof L)).toArray⟩ = S := ⟨_, rfl⟩
  have hSUz : SU.size = (bld nul [] (wof L)).length := by rw [← hSU, str_size, hbeq]
  obtain ⟨SV, hSV⟩ : ∃ S : ByteArray, ⟨(bld nul [] (wof L)).toArray⟩ = S := ⟨_, rfl⟩
  have cB2 := Lib.hid (fun (A AK : Option Addr) (cap capK : Nat) (W : World) (h : IsPs W A n cap (L.map tokI)) (hKs : IsPs W AK m capK K) => show Calls Tryd.prog 33 #[.slice A n cap, .int .i64 o, .slice AK m capK] W (BlP (adr K) o (wof L) W) from
    rbuild_any h hKs hT (by omega) (by omega) (o := o) (by omega) (by omega) (fun x => by
      rcases look_in (L := K) x with h | ⟨p, hp, h⟩
      · rw [h]; omega
      · rw [h]
        rw [← hK] at hp
        have h4 := lbs_range nul o _ _ p hp
        have h5 := hbl nul L.length
        rw [List.take_length] at h5
        omega) (fun k _ => Nat.le_trans (hbl _ k) (by decide)))
  have hX1 : ∀ ln F, chk D [] L = (ln, F) → F ≠ 0 → asmW L o = ⟨[], [], ln, F⟩ := fun ln F h h0 => by
    unfold asmW
    rw [hD, h, if_pos h0]
  have hX2 : chk D [] L = (0, 0) → 40000 < SU.size → asmW L o = ⟨[], [], 0, 6⟩ := fun h h0 => by
    unfold asmW
    rw [hD, h, if_neg (by simp), if_pos (by omega)]
  have hX3 : chk D [] L = (0, 0) → ¬ 40000 < SU.size → asmW L o = ⟨bld (adr K) [] (wof L), K, 0, 0⟩ := fun h h0 => by
    unfold asmW
    rw [hD, h, if_neg (by simp), if_neg (by omega), hK]
  obtain ⟨X, hX⟩ : ∃ X, asmW L o = X := ⟨_, rfl⟩
  rw [hX] at hX1 hX2 hX3 ⊢
  have finF := fun (ln F : Nat) (W : World) (h : chk D [] L = (ln, F)) (h0 : F ≠ 0) (hb : Below w.heap.size w W) => show AsP X w (.returned (.tuple #[.string ⟨#[]⟩, .slice (some ⟨W.heap.size, 0, none⟩) 0 0, .int .i64 (ln : Int), .int .i64 (F : Int)])) (W.alloc (.cells #[] 37)) by
    rw [hX1 ln F h h0]; exact asp_empty ln F hb
  have finL := fun (W : World) (h : chk D [] L = (0, 0)) (h0 : 40000 < SU.size) (hb : Below w.heap.size w W) => show AsP X w (.returned (.tuple #[.string ⟨#[]⟩, .slice (some ⟨W.heap.size, 0, none⟩) 0 0, .int .i64 0, .int .i64 6])) (W.alloc (.cells #[] 37)) by
    rw [hX2 h h0]; exact asp_empty 0 6 hb
  have finO := fun (v : Value) (B : Nat) (W : World) (h : chk D [] L = (0, 0)) (h0 : ¬ 40000 < SU.size) (hB : w.heap.size ≤ B) (hv : W.ownsRow B 37 2 v m (K.flatMap enc2)) (hb : Below w.heap.size w W) => show AsP X w (.returned (.tuple #[.string SU, v, .int .i64 0, .int .i64 0])) W by
    rw [hX3 h h0]
    exact ⟨v, B, by unfold asmV strV; dsimp only; rw [hSU]; rfl, hB, by dsimp only; rw [hm]; exact hv, hb⟩
  have drP : ∀ (e : Ending) (W : World), AsP X w e W → AsP X w e W.drew := fun e W ⟨v, B, h1, h2, h3, h4⟩ => ⟨v, B, h1, h2, h3, chainN h4 1⟩
  obtain ⟨P, hP⟩ : ∃ P, AsP X w = P := ⟨_, rfl⟩
  rw [hP] at finF finL finO drP ⊢
  replace finF := Lib.hid finF
  replace finL := Lib.hid finL
  replace finO := Lib.hid finO
  replace drP := Lib.hid drP
  have hstart := Lib.hid (show chk D (dfs (wof (L.take 0))) (L.drop 0) = chk D [] L from rfl)
  have hLn := Lib.hid hnl
  have hKm := Lib.hid hm
  have hKe := Lib.hid hK
  have hVe := Lib.hid (show strV (bld nul [] (wof L)) = .string SV from by unfold strV; rw [hSV])
  have hUe := Lib.hid (show strV (bld (adr K) [] (wof L)) = .string SU from by unfold strV; rw [hSU])
  have hsu : (SU.size : Int) ≤ 160000 := by have := hbl nul L.length; rw [List.take_length] at this; omega
  clear hP hX hX1 hX2 hX3 hT hbl hnl hm hK hSU hSV hSUz hbeq hD h1 h2
  show Calls _ _ _ _ (fun e w' => P e w')
  go_enter Tryd.func13, Tryd.ntmps13
  go_wp2_with fail
  refine (cS.out _).mono ?_
  rintro e w1 ⟨v0, rfl, hrow0, hb0⟩
  rw [hLn.out] at hrow0
  obtain ⟨A, cap, rfl, hIs⟩ := IsPs.of_own (l := L.map tokI) hrow0 (by rw [List.length_map]; exact hLn.out)
  have hget := Lib.hid (fun (k : Nat) (hk : k < n) => IsPs.tok hIs hk)
  have cFw := Lib.hid (fun k t ht => cF.out A cap w1 hIs k t ht)
  have hcap := hIs.le
  replace hb0 := Lib.hid hb0
  replace hIs := Lib.hid hIs
  clear hrow0 cS cF
  go_wp2
  go_loop [9] (fun iv => ∃ (k : Nat), iv = .int .i64 (k : Int) ∧ k ≤ n ∧ Hid (chk D (dfs (wof (L.take k))) (L.drop k) = chk D [] L)) (fun iv => n - (intOf iv).toNat)
  case atStart => exact ⟨0, rfl, Nat.zero_le _, hstart⟩
  case round =>
    clear hstart
    obtain ⟨k, rfl, hk, hch⟩ := hrel
    by_cases hlt : k < n
    · have dk : decide ((k : Int) < (n : Int)) = true := decide_eq_true (by omega)
      have k0 : (0 : Int) ≤ (k : Int) := by omega
      have k1 : (k : Int) < (n : Int) := by omega
      have k2 : (k : Int) ≤ 1000000 := by omega
      obtain ⟨T, ln, b, q, hT, rfl, hbl', g0, g1⟩ := hget.out k hlt
      have c1 := cFw.out k _ hT
      have hst := hstep.out k _ hT
      rw [hch.out] at hst
      dsimp only at c1 hst
      obtain ⟨F, hF⟩ : ∃ F, flt D (dfs (wof (L.take k))) T = F := ⟨_, rfl⟩
      rw [hF] at c1 hst
      by_cases hF0 : F = 0
      · subst hF0
        rw [if_pos rfl] at hst
        have hch2 := Lib.hid hst.symm
        replace c1 := Lib.hid c1
        clear hst hch hF hT hbl' g0 g1
        go_wp2_with fail
        refine (c1.out).mono ?_
        rintro e w3 ⟨rfl, rfl⟩
        go_wp2
        go_round
        case rel => exact ⟨k + 1, by go_num, by omega, hch2⟩
        case measure => simp [intOf]; omega
      · rw [if_neg hF0] at hst
        have t1 : ((F : Int) != 0) = true := bne_iff_ne.2 (by omega)
        have hf := Lib.hid (drP.out _ _ (finF.out ln F w1 hst hF0 hb0.out))
        replace c1 := Lib.hid c1
        clear hst hch hF hT g0 hF0 finF finL finO drP hget hIs hb0 cFw hstep hend cB1 cB2
        go_wp2_with fail
        refine (c1.out).mono ?_
        rintro e w3 ⟨rfl, rfl⟩
        go_wp2_with fail
        go_region
        go_wp2
        exact bodyPost_ret (v := .tuple #[.string ⟨#[]⟩, .slice (some ⟨w1.heap.size, 0, none⟩) 0 0, .int .i64 (ln : Int), .int .i64 (F : Int)]) (by simp [results, Tryd.results13, go_sem]) rfl hf.out
    · obtain rfl : k = n := by omega
      have dk : decide ((k : Int) < (k : Int)) = false := decide_eq_false (by omega)
      have h00 := Lib.hid (show chk D [] L = (0, 0) by rw [← hch.out, hend.out])
      have hI2 := hIs.out.below ((Below.refl w1.heap.size w1).alloc (Nat.le_refl _) (.cells #[] 37))
      have c1 := cB1.out A _ cap _ hI2 (ps_empty w1)
      unfold BlP at c1
      have hb1 := Lib.hid (hb0.out.alloc hb0.out.size (.cells #[] 37))
      replace c1 := Lib.hid c1
      replace hI2 := Lib.hid hI2
      clear hch hget cFw hstep hend finF drP hIs hb0 cB1
      go_wp2_with fail
      refine (c1.out).mono ?_
      rintro e w3 ⟨v3, rfl, hown3, hb3⟩
      rw [hKe.out, hKm.out] at hown3
      rw [hVe.out]
      obtain ⟨A3, cap3, rfl, hI3⟩ := IsPs.of_own hown3 hKm.out
      have c2 := cB2.out A A3 cap cap3 w3 (hI2.out.below hb3) hI3
      unfold BlP at c2
      have hbs := hb1.out.size
      replace hb3 := Lib.hid (chain hb1.out hb3)
      replace hown3 := Lib.hid (own_mono hown3 hbs)
      replace c2 := Lib.hid c2
      clear c1 hb1 hI2 hI3 cB2 hbs
      go_wp2_with fail
      refine (c2.out).mono ?_
      rintro e w4 ⟨v4, rfl, hown4, hb4⟩
      rw [hUe.out]
      have hown5 := Lib.hid (own_below hown3.out hb4)
      replace hb4 := Lib.hid (chain hb3.out hb4)
      clear hown4 hown3 hb3 c2
      by_cases hbig : 40000 < SU.size
      · have t2 : decide ((40000 : Int) < (SU.size : Int)) = true := decide_eq_true (by omega)
        have hf := Lib.hid (finL.out w4 h00.out hbig hb4.out)
        clear finL finO hbig hown5 hb4
        go_wp2
        exact bodyPost_ret (v := .tuple #[.string ⟨#[]⟩, .slice (some ⟨w4.heap.size, 0, none⟩) 0 0, .int .i64 0, .int .i64 6]) (by simp [results, Tryd.results13, go_sem]) rfl hf.out
      · have t2 : decide ((40000 : Int) < (SU.size : Int)) = false := decide_eq_false (by omega)
        have hf := Lib.hid (finO.out _ w.heap.size w4 h00.out hbig (Nat.le_refl _) hown5.out hb4.out)
        clear finL finO hbig hown5 hb4
        go_wp2
        exact bodyPost_ret (v := .tuple #[.string SU, .slice A3 m cap3, .int .i64 0, .int .i64 0]) (by simp [results, Tryd.results13, go_sem]) rfl hf.out
end Go.Proofs.YthmgocjmfhpafaaDoor.A18
