/- The contract of the landed build (layer 18). -/
import Derived.Test.YthmgocjmfhpafaaDoorA18Own5
namespace Go.Proofs.YthmgocjmfhpafaaDoor.A18
set_option maxRecDepth 100000
open Go.RowKit Mem
open Go.Maps Go.WideMaps
open M17 (Laid Laid.below)
set_option linter.unusedVariables false
set_option linter.unusedSimpArgs false

theorem info_sym : (Tryd.prog.info? 37).map (fun i => (i.zero, i.size, i.bytes)) = some (some (.agg #[.string ⟨#[]⟩, .int .i64 0]), 2, 24) := by kernel_rfl
def natA (A : List UInt8 → Int) : List UInt8 → Nat := fun n => (A n).toNat
/-- What build hands back. -/
def BlP (A : List UInt8 → Nat) (o : Int) (ws : List (List UInt8)) (w : World) (e : Ending) (w' : World) : Prop := ∃ v, e = .returned (.tuple #[strV (bld A [] ws), v]) ∧ w'.ownsRow w.heap.size 37 2 v (lbs A o [] ws).length ((lbs A o [] ws).flatMap enc2) ∧ Below w.heap.size w w'
theorem bld_take (A : List UInt8 → Nat) {L : List Tok} {k : Nat} {t : Tok} (h : L[k]? = some t) : bld A [] (wof (L.take (k + 1))) = stp A (bld A [] (wof (L.take k))) t.1 := by
  obtain ⟨hk, rfl⟩ := List.getElem?_eq_some_iff.1 h
  rw [List.take_succ_eq_append_getElem hk, wof_app, bld_app]
  rfl
theorem lbs_take (A : List UInt8 → Nat) (o : Int) {L : List Tok} {k : Nat} {t : Tok} (h : L[k]? = some t) : lbs A o [] (wof (L.take (k + 1))) = lbs A o [] (wof (L.take k)) ++ (match defN t.1 with | some n => [(n, o + ((bld A [] (wof (L.take k))).length : Int))] | none => []) := by
  obtain ⟨hk, rfl⟩ := List.getElem?_eq_some_iff.1 h
  rw [List.take_succ_eq_append_getElem hk, wof_app, lbs_app]
  show _ ++ (_ ++ []) = _
  rw [List.append_nil]
  rfl
theorem lbs_len (A : List UInt8 → Nat) (o : Int) : ∀ (ws : List (List UInt8)) (t : List UInt8), (lbs A o t ws).length ≤ ws.length := by
  intro ws
  induction ws with
  | nil => intro t; simp [lbs]
  | cons w r ih =>
    intro t
    rw [lbs, List.length_append]
    have := ih (stp A t w)
    rcases defN w with _ | n <;> simp <;> omega
set_option maxHeartbeats 8000000 in
theorem build_any {AA : Option Addr} {n cap : Nat} {L : List Tok} {w : World} (h : IsPs w AA n cap (L.map tokI)) (hf : Toks L) (hn : n ≤ 1000000) {o : Int} (o0 : 0 ≤ o) (o1 : o ≤ 1000000) (m : Option Nat) {A : List UInt8 → Int} (hk : LK m w A) (hA : ∀ x, 0 ≤ A x ∧ A x < 1000000)
    (hl : ∀ k, k ≤ n → (bld (natA A) [] (wof (L.take k))).length ≤ 1000000) (hLd : Laid w) :
    Calls Tryd.prog 29 #[.slice AA n cap, .int .i64 o, .map m] w (BlP (natA A) o (wof L) w) := by
  have hLn : L.length = n := by have := h.len; simpa using this
  obtain ⟨i0, hi, hz0, hz1, hz2⟩ := info_parts info_sym
  have hget := Lib.hid (fun (k : Nat) (hk : k < n) => IsPs.tok h hk)
  have hfit := Lib.hid hf
  have hle := h.le
  have hbl := Lib.hid (fun (k : Nat) (t : Tok) (ht : L[k]? = some t) => bld_take (natA A) ht)
  have hlb := Lib.hid (fun (k : Nat) (t : Tok) (ht : L[k]? = some t) => lbs_take (natA A) o ht)
  have hll := Lib.hid (fun (k : Nat) (hk : k ≤ n) => show (lbs (natA A) o [] (wof (L.take k))).length ≤ k from Nat.le_trans (lbs_len _ _ _ _) (by rw [wof_len, List.length_take]; omega))
  obtain ⟨TT, hTT⟩ : ∃ TT : Nat → List UInt8, TT = fun k => bld (natA A) [] (wof (L.take k)) := ⟨_, rfl⟩
  obtain ⟨LL, hLL⟩ : ∃ LL : Nat → List (List UInt8 × Int), LL = fun k => lbs (natA A) o [] (wof (L.take k)) := ⟨_, rfl⟩
  have hTk : ∀ k, bld (natA A) [] (wof (L.take k)) = TT k := fun k => by rw [hTT]
  have hLk : ∀ k, lbs (natA A) o [] (wof (L.take k)) = LL k := fun k => by rw [hLL]
  simp only [hTk] at hl hbl hlb
  simp only [hLk] at hlb hll
  have hgoal : ∀ (v : Value) (w' : World), w'.ownsRow w.heap.size 37 2 v (LL n).length ((LL n).flatMap enc2) → Below w.heap.size w w' → BlP (natA A) o (wof L) w (.returned (.tuple #[strV (TT n), v])) w' := fun v w' h1 h2 => by
    rw [← hTk, ← hLk, List.take_of_length_le (by omega)] at *
    exact ⟨v, rfl, h1, h2⟩
  have s1 : TT 0 = [] := by rw [← hTk]; rfl
  have s2 : LL 0 = [] := by rw [← hLk]; rfl
  obtain ⟨P, hP⟩ : ∃ P, BlP (natA A) o (wof L) w = P := ⟨_, rfl⟩
  rw [hP] at hgoal ⊢
  have r1 := Lib.hid (show w.ownsRow w.heap.size 5 1 (.slice none 0 0) (TT 0).length (bys (TT 0)) by rw [s1]; exact own_none w w.heap.size 5 1)
  have r2 := Lib.hid (show w.ownsRow w.heap.size 37 2 (.slice none 0 0) (LL 0).length ((LL 0).flatMap enc2) by rw [s2]; exact own_none w w.heap.size 37 2)
  replace hgoal := Lib.hid hgoal
  replace hk := Lib.hid hk
  replace hl := Lib.hid hl
  replace hA := Lib.hid hA
  replace hLd := Lib.hid hLd
  clear hP hTT hLL hTk hLk hf h hLn s1 s2
  show Calls _ _ _ _ (fun e w' => P e w')
  go_enter Tryd.func29, Tryd.ntmps29
  go_wp2
  go_loopw [8, 9, 18] (fun tv lv iv wr => ∃ (k : Nat) (vt vl : Value), vt = tv ∧ vl = lv ∧ iv = .int .i64 (k : Int) ∧ k ≤ n ∧ Hid (wr.ownsRow w.heap.size 5 1 vt (TT k).length (bys (TT k))) ∧ Hid (wr.ownsRow w.heap.size 37 2 vl (LL k).length ((LL k).flatMap enc2)) ∧ Hid (Below w.heap.size w wr)) (fun _ _ iv _ => n - (intOf iv).toNat)
  case atStart => exact ⟨0, _, _, rfl, rfl, rfl, Nat.zero_le _, r1, r2, Lib.hid (Below.refl _ _)⟩
  case round =>
    clear r1 r2
    obtain ⟨k, vt, vl, rfl, rfl, rfl, hkn, ht, hlr, hb⟩ := hrel
    by_cases hlt : k < n
    · have dk : decide ((k : Int) < (n : Int)) = true := decide_eq_true (by omega)
      have k0 : (0 : Int) ≤ (k : Int) := by omega
      have k1 : (k : Int) < (n : Int) := by omega
      have k2 : (k : Int) ≤ 1000000 := by omega
      obtain ⟨T, ln, b, q, hT, rfl, hbl', g0, g1⟩ := hget.out k hlt
      have hTl := hfit.out.fits _ (List.mem_of_getElem? hT)
      have hTw := (hfit.out.wd _ (List.mem_of_getElem? hT)).1
      have hst := hbl.out k _ hT
      have hsl := hlb.out k _ hT
      have hlk := hl.out k (by omega)
      have hllk := hll.out k (by omega)
      dsimp only at hst hsl
      unfold strV at g0
      obtain ⟨S, hS⟩ : ∃ S : ByteArray, ⟨T.toArray⟩ = S := ⟨_, rfl⟩
      have hST : S.data.toList = T := by rw [← hS]
      have hSz : S.size ≤ 1000000 := by rw [← hS, str_size]; exact hTl
      have hS0 : 0 < S.size := by
        rw [← hS, str_size]
        exact List.length_pos_iff.2 hTw
      rw [hS] at g0
      rw [← hST] at hst hsl
      have cD := definedBy_any S hSz
      have cR := referredToBy_any S hSz
      have g0 : wr.cell? ⟨b, q + k * 2, none⟩ = some (.string S) := (hb.out.cell (p := ⟨b, q + k * 2, none⟩) hbl').trans g0
      have g1 : wr.cell? ⟨b, q + k * 2 + 1, none⟩ = some (.int .i64 (ln : Int)) := (hb.out.cell (p := ⟨b, q + k * 2 + 1, none⟩) hbl').trans g1
      obtain ⟨X, hX⟩ : ∃ X, wr.heap.size = X := ⟨_, rfl⟩
      obtain ⟨wX, hwX⟩ : ∃ W, wr.alloc (.cells #[.string S, .int .i64 (ln : Int)] 71) = W := ⟨_, rfl⟩
      have hxx : wX.heap[X]? = some (.cells #[.string S, .int .i64 (ln : Int)] 71 (0, 0)) := by rw [← hwX, ← hX]; exact World.alloc_heap_new wr _
      have hxc : wX.cell? ⟨X, 0, none⟩ = some (.string S) := by simp [World.cell?, hxx]
      have hbs := hb.out.size
      have hbX : Below w.heap.size w wX := by rw [← hwX]; exact hb.out.alloc hbs _
      have htX : wX.ownsRow w.heap.size 5 1 vt (TT k).length (bys (TT k)) := by rw [← hwX]; exact ht.out.alloc _
      have hlX : wX.ownsRow w.heap.size 37 2 vl (LL k).length ((LL k).flatMap enc2) := by rw [← hwX]; exact hlr.out.alloc _
      have hbsX := hbX.size
      rcases hd : defN S.data.toList with _ | N
      · have e1 : LL (k + 1) = LL k := by rw [hsl, hd, List.append_nil]
        rw [hd] at cD
        unfold optV strV at cD
        dsimp only [Option.getD, Option.isSome] at cD
        have cD := Lib.hid cD
        rcases hr : refN S.data.toList with _ | M
        · rw [hr] at cR
          unfold optV strV at cR
          dsimp only [Option.getD, Option.isSome] at cR
          have cA := add_any S hbsX htX hlk hSz hS0
          have e2 : TT (k + 1) = addT (TT k) S.data.toList := by rw [hst]; unfold stp; rw [hd, hr]
          unfold AddP at cA
          rw [← e2] at cA
          have apart := own_apart hlX htX (by decide)
          have cR := Lib.hid cR
          have cA := Lib.hid cA
          have hin := Lib.hid (And.intro hbX (And.intro hlX apart))
          have htk := Lib.hid (fun j hj => (htX.lt j hj).1)
          have e1 := Lib.hid e1
          clear hd hr hst hsl hT hTl hTw hS hST hSz hS0 hbX htX hlX hxx hb ht hlr hget hgoal hfit hbl hlb hll hl hk hA hLd hbl' e2 hlk hllk apart
          go_wp2_with fail
          refine (cD.out _).mono ?_
          rintro e w3 ⟨rfl, rfl⟩
          go_wp2_with fail
          refine (cR.out _).mono ?_
          rintro e w3 ⟨rfl, rfl⟩
          go_wp2_with fail
          refine (cA.out).mono ?_
          rintro e w3 ⟨v3, rfl, hown3, hgr3⟩
          have hb3 := Lib.hid (hin.out.1.grown hgr3 hin.out.1.size htk.out)
          have hl3 := Lib.hid (show w3.ownsRow w.heap.size 37 2 vl (LL (k + 1)).length ((LL (k + 1)).flatMap enc2) by rw [e1.out]; exact hin.out.2.1.kept hgr3 hin.out.2.2)
          have hown3 := Lib.hid hown3
          clear hgr3 hin htk
          go_wp2
          go_roundw
          case rel => exact ⟨k + 1, _, _, rfl, rfl, by go_num, by omega, hown3, hl3, hb3⟩
          case measure => simp [intOf]; omega
        · rw [hr] at cR
          obtain ⟨SM, hSM⟩ : ∃ S : ByteArray, ⟨M.toArray⟩ = S := ⟨_, rfl⟩
          have hSMl : SM.data.toList = M := by rw [← hSM]
          have hSMz : SM.size ≤ 1000000 := by
            rw [← hSM, str_size]
            have e : M.length ≤ S.data.toList.length := by obtain ⟨e, _⟩ := ref_some hr; rw [e]; simp
            have : S.data.toList.length = S.size := by simp
            omega
          unfold optV strV at cR
          dsimp only [Option.getD, Option.isSome] at cR
          rw [hSM] at cR
          have hlk1 := hk.out wX hbX SM hSMz
          rw [hSMl] at hlk1
          obtain ⟨a, ha⟩ : ∃ a : Nat, A M = (a : Int) := ⟨(A M).toNat, by have := (hA.out M).1; omega⟩
          have ha2 : a < 1000000 := by have := (hA.out M).2; omega
          rw [ha] at hlk1
          have e2 : TT (k + 1) = addT (TT k) (sixL a) := by rw [hst]; unfold stp natA; rw [hd, hr]; dsimp only; rw [ha]; rfl
          have cT := addressText_any a ha2 wX (hLd.out.below hbX)
          obtain ⟨SX, hSX⟩ : ∃ S : ByteArray, ⟨(sixL a).toArray⟩ = S := ⟨_, rfl⟩
          have hSXl : SX.data.toList = sixL a := by rw [← hSX]
          have hSXz : SX.size = 6 := by rw [← hSX, str_size]; rfl
          unfold strV at cT
          rw [hSX] at cT
          have cA := fun (W5 : World) (hb5 : Below wX.heap.size wX W5) => add_any (B := w.heap.size) (v := vt) (t := TT k) SX (w := W5) (Nat.le_trans hbsX hb5.size) (own_below htX hb5) hlk (by omega) (by omega)
          unfold AddP at cA
          rw [hSXl, ← e2] at cA
          have apart := own_apart hlX htX (by decide)
          have cR := Lib.hid cR
          have cA := Lib.hid cA
          have cT := Lib.hid cT
          have hin := Lib.hid (And.intro hbX (And.intro hlX apart))
          have htk := Lib.hid (fun j hj => (htX.lt j hj).1)
          have e1 := Lib.hid e1
          clear hd hr hst hsl hT hTl hTw hS hST hSz hS0 hbX htX hlX hxx hb ht hlr hget hgoal hfit hbl hlb hll hl hk hA hLd hbl' e2 hlk hllk apart ha hSM hSMl hSMz hSX hSXl hSXz
          go_wp2_with fail
          refine (cD.out _).mono ?_
          rintro e w3 ⟨rfl, rfl⟩
          go_wp2_with fail
          refine (cR.out _).mono ?_
          rintro e w3 ⟨rfl, rfl⟩
          go_wp2_with fail
          refine (cT.out).mono ?_
          rintro e w5 ⟨rfl, hb5⟩
          have cA5 := Lib.hid (cA.out w5 hb5)
          have hb5 := Lib.hid hb5
          go_wp2_with fail
          refine (cA5.out).mono ?_
          rintro e w3 ⟨v3, rfl, hown3, hgr3⟩
          have hb3 := Lib.hid ((hin.out.1.trans (hb5.out.mono hin.out.1.size)).grown hgr3 (Nat.le_trans hin.out.1.size hb5.out.size) htk.out)
          have hl3 := Lib.hid (show w3.ownsRow w.heap.size 37 2 vl (LL (k + 1)).length ((LL (k + 1)).flatMap enc2) by rw [e1.out]; exact (own_below hin.out.2.1 hb5.out).kept hgr3 hin.out.2.2)
          have hown3 := Lib.hid hown3
          clear hgr3 hin htk cA
          go_wp2
          go_roundw
          case rel => exact ⟨k + 1, _, _, rfl, rfl, by go_num, by omega, hown3, hl3, hb3⟩
          case measure => simp [intOf]; omega
      · rw [hd] at cD
        obtain ⟨SM, hSM⟩ : ∃ S : ByteArray, ⟨N.toArray⟩ = S := ⟨_, rfl⟩
        unfold optV strV at cD
        dsimp only [Option.getD, Option.isSome] at cD
        rw [hSM] at cD
        have e2 : TT (k + 1) = TT k := by rw [hst]; unfold stp; rw [hd]
        obtain ⟨tl, htl⟩ : ∃ tl, (TT k).length = tl := ⟨_, rfl⟩
        rw [hd, htl] at hsl
        obtain ⟨Z, hZ⟩ : ∃ Z : Int, o + (tl : Int) = Z := ⟨_, rfl⟩
        have e1 : (LL (k + 1)).flatMap enc2 = (LL k).flatMap enc2 ++ [.string SM, .int .i64 Z] := by
          rw [hsl]
          show (LL k ++ [(N, o + (tl : Int))]).flatMap enc2 = _
          rw [enc2_snoc, hZ]
          dsimp only
          unfold strV
          rw [hSM]
        have e3 : (LL (k + 1)).length = (LL k).length + 1 := by rw [hsl]; simp
        obtain ⟨Q, hQ⟩ : ∃ Q, bys (TT k) = Q := ⟨_, rfl⟩
        rw [htl, hQ] at htX
        have hkeep := Lib.hid (show (∀ (W : World) (v : Value), W.ownsRow w.heap.size 5 1 v tl Q → W.ownsRow w.heap.size 5 1 v (TT (k + 1)).length (bys (TT (k + 1)))) from fun W v h => by rw [e2, htl, hQ]; exact h)
        rw [htl] at hlk
        obtain ⟨At, ct, rfl, tc1, tc2, tc3⟩ := own2_slice htX
        have z0 : 0 ≤ Z := by omega
        have z1 : Z ≤ 2000000 := by omega
        have tl1 : (tl : Int) ≤ 1000000 := by omega
        have apart := own_apart htX hlX (by decide)
        obtain ⟨ll, hll'⟩ : ∃ ll, (LL k).length = ll := ⟨_, rfl⟩
        rw [hll'] at hlX hllk e3
        have cD := Lib.hid cD
        have hin := Lib.hid (And.intro hbX (And.intro htX apart))
        have htk := Lib.hid (fun j hj => (hlX.lt j hj).1)
        have e1 := Lib.hid e1
        have e3 := Lib.hid e3
        clear hd hst hsl hT hTl hTw hS hST hSz hS0 hbX htX hxx hb ht hlr hget hgoal hfit hbl hlb hll hl hk hA hLd hbl' e2 apart cR hll' hQ hSM htl tc3
        go_wp2_with fail
        refine (cD.out _).mono ?_
        rintro e w3 ⟨rfl, rfl⟩
        go_wp2_with (at_builtin; refine wpList_append_own _ rfl _ _ 23 rfl w.heap.size 37 i0 (.agg #[.string ⟨#[]⟩, .int .i64 0]) 2 24 Tryd.underlying23 hi hz0 hz1 hz2 rfl (by decide) _ _ _ rfl (hlX.alloc _) ⟨wX.heap.size, 0, none⟩ 1 1 [.string SM, .int .i64 Z] rfl rfl (list_new _ _ _) (two_si _ _) (by unfold maxLen; omega) (by omega) (by simp; omega) ?_; intro v' w6 hown' hgrow _)
        have hb6 := Lib.hid ((hin.out.1.alloc hin.out.1.size (.cells #[.string SM, .int .i64 Z] 37)).grown hgrow (by have := hin.out.1.size; rw [World.size_alloc]; omega) htk.out)
        have ht6 := Lib.hid (hkeep.out w6 _ ((hin.out.2.1.alloc (.cells #[.string SM, .int .i64 Z] 37)).kept hgrow hin.out.2.2))
        rw [← e1.out, ← e3.out] at hown'
        replace hown' := Lib.hid hown'
        clear hgrow hin htk hkeep hlX
        go_wp2
        go_roundw
        case rel => exact ⟨k + 1, _, _, rfl, rfl, by go_num, by omega, ht6, hown', hb6⟩
        case measure => simp [intOf]; omega
    · obtain rfl : k = n := by omega
      have dk : decide ((k : Int) < (k : Int)) = false := decide_eq_false (by omega)
      have hfin := Lib.hid (hgoal.out vl wr hlr.out hb.out)
      have hcv := conv_own (P := Tryd.prog) Tryd.underlying43 Tryd.underlying5 Tryd.underlying9 ht.out
      unfold strV at hfin
      obtain ⟨ST, hS⟩ : ∃ S : ByteArray, ⟨(TT k).toArray⟩ = S := ⟨_, rfl⟩
      rw [hS] at hfin hcv
      clear hgoal hlr hb ht hget hfit hbl hlb hll hl hk hA hLd
      go_wp2
      first | go_ret2 | skip
      exact hfin.out
end Go.Proofs.YthmgocjmfhpafaaDoor.A18
