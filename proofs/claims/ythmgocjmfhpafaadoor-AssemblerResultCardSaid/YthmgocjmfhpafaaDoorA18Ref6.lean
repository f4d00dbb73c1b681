/- The contract of the reference's build (layer 18). -/
import Derived.Test.YthmgocjmfhpafaaDoorA18Ref5
import Derived.Test.YthmgocjmfhpafaaDoorA18Own6
namespace Go.Proofs.YthmgocjmfhpafaaDoor.A18
set_option maxRecDepth 100000
open Go.RowKit Mem
set_option linter.unusedVariables false
set_option linter.unusedSimpArgs false

set_option maxHeartbeats 8000000 in
theorem rbuild_any {AA AK : Option Addr} {n cap m capK : Nat} {L : List Tok} {K : List (List UInt8 × Int)} {w : World} (h : IsPs w AA n cap (L.map tokI)) (hK : IsPs w AK m capK K) (hf : Toks L) (hn : n ≤ 1000000) (hm : m ≤ 1000000) {o : Int} (o0 : 0 ≤ o) (o1 : o ≤ 1000000) (hA : ∀ x, 0 ≤ look K x ∧ look K x < 1000000)
    (hl : ∀ k, k ≤ n → (bld (adr K) [] (wof (L.take k))).length ≤ 1000000) :
    Calls Tryd.prog 33 #[.slice AA n cap, .int .i64 o, .slice AK m capK] w (BlP (adr K) o (wof L) w) := by
  have hLn : L.length = n := by have := h.len; simpa using this
  obtain ⟨i0, hi, hz0, hz1, hz2⟩ := info_parts info_sym
  have hget := Lib.hid (fun (k : Nat) (hk : k < n) => IsPs.tok h hk)
  have hfit := Lib.hid hf
  have hle := h.le
  have hbl := Lib.hid (fun (k : Nat) (t : Tok) (ht : L[k]? = some t) => bld_take (adr K) ht)
  have hlb := Lib.hid (fun (k : Nat) (t : Tok) (ht : L[k]? = some t) => lbs_take (adr K) o ht)
  have hll := Lib.hid (fun (k : Nat) (hk : k ≤ n) => show (lbs (adr K) o [] (wof (L.take k))).length ≤ k from Nat.le_trans (lbs_len _ _ _ _) (by rw [wof_len, List.length_take]; omega))
  obtain ⟨TT, hTT⟩ : ∃ TT : Nat → List UInt8, TT = fun k => bld (adr K) [] (wof (L.take k)) := ⟨_, rfl⟩
  obtain ⟨LL, hLL⟩ : ∃ LL : Nat → List (List UInt8 × Int), LL = fun k => lbs (adr K) o [] (wof (L.take k)) := ⟨_, rfl⟩
  have hTk : ∀ k, bld (adr K) [] (wof (L.take k)) = TT k := fun k => by rw [hTT]
  have hLk : ∀ k, lbs (adr K) o [] (wof (L.take k)) = LL k := fun k => by rw [hLL]
  simp only [hTk] at hl hbl hlb
  simp only [hLk] at hlb hll
  have hgoal : ∀ (v : Value) (S : ByteArray) (w' : World), S.data.toList = TT n → w'.ownsRow w.heap.size 37 2 v (LL n).length ((LL n).flatMap enc2) → Below w.heap.size w w' → BlP (adr K) o (wof L) w (.returned (.tuple #[.string S, v])) w' := fun v S w' h0 h1 h2 => by
    rw [← strV_of S h0]
    rw [← hTk, ← hLk, List.take_of_length_le (by omega)] at *
    exact ⟨v, rfl, h1, h2⟩
  have s1 : TT 0 = [] := by rw [← hTk]; rfl
  have s2 : LL 0 = [] := by rw [← hLk]; rfl
  obtain ⟨P, hP⟩ : ∃ P, BlP (adr K) o (wof L) w = P := ⟨_, rfl⟩
  rw [hP] at hgoal ⊢
  have r1 := Lib.hid (show (ByteArray.mk #[]).data.toList = TT 0 by rw [s1])
  have r2 := Lib.hid (show (w.alloc (.cells #[] 37)).ownsRow w.heap.size 37 2 (.slice (some ⟨w.heap.size, 0, none⟩) 0 0) (LL 0).length ((LL 0).flatMap enc2) by rw [s2]; exact empty_at rfl (Nat.le_refl _))
  have r3 := Lib.hid ((Below.refl w.heap.size w).alloc (Nat.le_refl _) (.cells #[] 37))
  replace hgoal := Lib.hid hgoal
  replace hl := Lib.hid hl
  replace hA := Lib.hid hA
  replace hK := Lib.hid hK
  clear hP hTT hLL hTk hLk hf h hLn s1 s2
  show Calls _ _ _ _ (fun e w' => P e w')
  go_enter Tryd.func33, Tryd.ntmps33
  go_wp2
  go_loopw [8, 9, 10] (fun tv lv iv wr => ∃ (k : Nat) (S : ByteArray) (vl : Value), tv = .string S ∧ vl = lv ∧ iv = .int .i64 (k : Int) ∧ k ≤ n ∧ Hid (S.data.toList = TT k) ∧ Hid (wr.ownsRow w.heap.size 37 2 vl (LL k).length ((LL k).flatMap enc2)) ∧ Hid (Below w.heap.size w wr)) (fun _ _ iv _ => n - (intOf iv).toNat)
  case atStart => exact ⟨0, ⟨#[]⟩, _, rfl, rfl, rfl, Nat.zero_le _, r1, r2, r3⟩
  case round =>
    clear r1 r2 r3
    obtain ⟨k, SO, vl, rfl, rfl, rfl, hkn, ht, hlr, hb⟩ := hrel
    by_cases hlt : k < n
    · have dk : decide ((k : Int) < (n : Int)) = true := decide_eq_true (by omega)
      have k0 : (0 : Int) ≤ (k : Int) := by omega
      have k1 : (k : Int) < (n : Int) := by omega
      have k2 : (k : Int) ≤ 1000000 := by omega
      obtain ⟨T, ln, b, q, hT, rfl, hbl', g0, g1⟩ := hget.out k hlt
      have hTl := hfit.out.fits _ (List.mem_of_getElem? hT)
      have hst := hbl.out k _ hT
      have hsl := hlb.out k _ hT
      have hlk := hl.out k (by omega)
      have hllk := hll.out k (by omega)
      dsimp only at hst hsl
      have hSOz : SO.size = (TT k).length := by rw [← ht.out]; simp
      unfold strV at g0
      obtain ⟨S, hS⟩ : ∃ S : ByteArray, ⟨T.toArray⟩ = S := ⟨_, rfl⟩
      have hST : S.data.toList = T := by rw [← hS]
      have hSz : S.size ≤ 1000000 := by rw [← hS, str_size]; exact hTl
      rw [hS] at g0
      rw [← hST] at hst hsl
      have cD := rdefines_any S hSz
      have cR := rrefers_any S hSz
      have g0 : wr.cell? ⟨b, q + k * 2, none⟩ = some (.string S) := (hb.out.cell (p := ⟨b, q + k * 2, none⟩) hbl').trans g0
      have hbs := hb.out.size
      rcases hd : defN S.data.toList with _ | N
      · have e1 : LL (k + 1) = LL k := by rw [hsl, hd, List.append_nil]
        rw [hd, optV_no] at cD
        replace cD := Lib.hid cD
        have hlr2 := Lib.hid (show wr.ownsRow w.heap.size 37 2 vl (LL (k + 1)).length ((LL (k + 1)).flatMap enc2) by rw [e1]; exact hlr.out)
        rcases hr : refN S.data.toList with _ | M
        · rw [hr, optV_no] at cR
          replace cR := Lib.hid cR
          have cJ := rjoin_any SO S (by omega) hSz
          have e2 : TT (k + 1) = addT SO.data.toList S.data.toList := by rw [hst, ht.out]; unfold stp; rw [hd, hr]
          rw [← e2] at cJ
          unfold strV at cJ
          obtain ⟨SN, hSN⟩ : ∃ S : ByteArray, ⟨(TT (k + 1)).toArray⟩ = S := ⟨_, rfl⟩
          have hSNl := Lib.hid (show SN.data.toList = TT (k + 1) by rw [← hSN])
          rw [hSN] at cJ
          replace cJ := Lib.hid cJ
          clear hd hr hst hsl hT hTl hS hST hSz ht hlr hget hgoal hfit hbl hlb hll hl hA hbl' e1 e2 hlk hllk hSN hSOz g1 hK
          go_wp2_with fail
          refine (cD.out _).mono ?_
          rintro e w3 ⟨rfl, rfl⟩
          go_wp2_with fail
          refine (cR.out _).mono ?_
          rintro e w3 ⟨rfl, rfl⟩
          go_wp2_with fail
          refine (cJ.out _).mono ?_
          rintro e w3 ⟨rfl, rfl⟩
          go_wp2
          go_roundw
          case rel => exact ⟨k + 1, _, _, rfl, rfl, by go_num, by omega, hSNl, hlr2, hb⟩
          case measure => simp [intOf]; omega
        · rw [hr, optV_some] at cR
          obtain ⟨SM, hSM⟩ : ∃ S : ByteArray, ⟨M.toArray⟩ = S := ⟨_, rfl⟩
          have hSMl : SM.data.toList = M := by rw [← hSM]
          rw [hSM] at cR
          replace cR := Lib.hid cR
          have cAd := raddress_any (hK.out.below hb.out) hm SM
          rw [hSMl] at cAd
          obtain ⟨a, ha⟩ : ∃ a : Nat, look K M = (a : Int) := ⟨(look K M).toNat, by have := (hA.out M).1; omega⟩
          have ha2 : a < 1000000 := by have := (hA.out M).2; omega
          rw [ha] at cAd
          have e2 : TT (k + 1) = addT SO.data.toList (sixL a) := by rw [hst, ht.out]; unfold stp adr; rw [hd, hr]; dsimp only; rw [ha]; rfl
          have cX := rsix_any a (by omega) wr
          obtain ⟨SX, hSX⟩ : ∃ S : ByteArray, ⟨(sixL a).toArray⟩ = S := ⟨_, rfl⟩
          have hSXl : SX.data.toList = sixL a := by rw [← hSX]
          have hSXz : SX.size = 6 := by rw [← hSX, str_size]; rfl
          unfold strV at cX
          rw [hSX] at cX
          have cJ := rjoin_any SO SX (by omega) (by omega)
          rw [hSXl, ← e2] at cJ
          unfold strV at cJ
          obtain ⟨SN, hSN⟩ : ∃ S : ByteArray, ⟨(TT (k + 1)).toArray⟩ = S := ⟨_, rfl⟩
          have hSNl := Lib.hid (show SN.data.toList = TT (k + 1) by rw [← hSN])
          rw [hSN] at cJ
          replace cJ := Lib.hid cJ
          replace cX := Lib.hid cX
          replace cAd := Lib.hid cAd
          clear hd hr hst hsl hT hTl hS hST hSz ht hlr hget hgoal hfit hbl hlb hll hl hA hbl' e1 e2 hlk hllk hSN hSOz g1 hK hSM hSMl ha hSX hSXl hSXz
          go_wp2_with fail
          refine (cD.out _).mono ?_
          rintro e w3 ⟨rfl, rfl⟩
          go_wp2_with fail
          refine (cR.out _).mono ?_
          rintro e w3 ⟨rfl, rfl⟩
          go_wp2_with fail
          refine (cAd.out).mono ?_
          rintro e w3 ⟨rfl, rfl⟩
          go_wp2_with fail
          refine (cX.out).mono ?_
          rintro e w5 ⟨rfl, hb5⟩
          have hl5 := Lib.hid (own_below hlr2.out hb5)
          have hb5 := Lib.hid (hb.out.trans (hb5.mono hbs))
          clear hlr2
          go_wp2_with fail
          refine (cJ.out _).mono ?_
          rintro e w3 ⟨rfl, rfl⟩
          go_wp2
          go_roundw
          case rel => exact ⟨k + 1, _, _, rfl, rfl, by go_num, by omega, hSNl, hl5, hb5⟩
          case measure => simp [intOf]; omega
      · rw [hd, optV_some] at cD
        obtain ⟨SM, hSM⟩ : ∃ S : ByteArray, ⟨N.toArray⟩ = S := ⟨_, rfl⟩
        rw [hSM] at cD
        have e2 := Lib.hid (show SO.data.toList = TT (k + 1) by rw [ht.out, hst]; unfold stp; rw [hd])
        obtain ⟨Z, hZ⟩ : ∃ Z : Int, o + (SO.size : Int) = Z := ⟨_, rfl⟩
        rw [hd, ← hSOz] at hsl
        have e1 : (LL (k + 1)).flatMap enc2 = (LL k).flatMap enc2 ++ [.string SM, .int .i64 Z] := by
          rw [hsl]
          show (LL k ++ [(N, o + (SO.size : Int))]).flatMap enc2 = _
          rw [enc2_snoc, hZ]
          dsimp only
          unfold strV
          rw [hSM]
        have e3 : (LL (k + 1)).length = (LL k).length + 1 := by rw [hsl]; simp
        have z0 : 0 ≤ Z := by omega
        have z1 : Z ≤ 2000000 := by omega
        have tl1 : (SO.size : Int) ≤ 1000000 := by omega
        have hlX := hlr.out
        obtain ⟨ll, hll'⟩ : ∃ ll, (LL k).length = ll := ⟨_, rfl⟩
        rw [hll'] at hlX hllk e3
        replace cD := Lib.hid cD
        have htk := Lib.hid (fun j hj => (hlX.lt j hj).1)
        replace e1 := Lib.hid e1
        replace e3 := Lib.hid e3
        clear hd hst hsl hT hTl hS hST hSz ht hlr hget hgoal hfit hbl hlb hll hl hA hbl' cR hll' hSM g1 hK hlk hSOz
        go_wp2_with fail
        refine (cD.out _).mono ?_
        rintro e w3 ⟨rfl, rfl⟩
        go_wp2_with (at_builtin; refine wpList_append_own _ rfl _ _ 23 rfl w.heap.size 37 i0 (.agg #[.string ⟨#[]⟩, .int .i64 0]) 2 24 Tryd.underlying23 hi hz0 hz1 hz2 rfl (by decide) _ _ _ rfl (hlX.alloc _) ⟨wr.heap.size, 0, none⟩ 1 1 [.string SM, .int .i64 Z] rfl rfl (list_new _ _ _) (two_si _ _) (by unfold maxLen; omega) (by omega) (by simp; omega) ?_; intro v' w6 hown' hgrow _)
        have hb6 := Lib.hid ((hb.out.alloc hbs (.cells #[.string SM, .int .i64 Z] 37)).grown hgrow (by rw [World.size_alloc]; omega) htk.out)
        rw [← e1.out, ← e3.out] at hown'
        replace hown' := Lib.hid hown'
        clear hgrow htk hlX
        go_wp2
        go_roundw
        case rel => exact ⟨k + 1, SO, _, rfl, rfl, by go_num, by omega, e2, hown', hb6⟩
        case measure => simp [intOf]; omega
    · obtain rfl : k = n := by omega
      have dk : decide ((k : Int) < (k : Int)) = false := decide_eq_false (by omega)
      have hfin := Lib.hid (hgoal.out vl SO wr ht.out hlr.out hb.out)
      clear hgoal hlr hb ht hget hfit hbl hlb hll hl hA hK
      go_wp2
      first | go_ret2 | skip
      exact hfin.out
end Go.Proofs.YthmgocjmfhpafaaDoor.A18
