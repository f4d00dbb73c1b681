/- The contracts of the landed firstDefinitions, checkToken, check, addressesOf (layer 18). -/
import Derived.Test.YthmgocjmfhpafaaDoorA18Own4
namespace Go.Proofs.YthmgocjmfhpafaaDoor.A18
set_option maxRecDepth 100000
open Go.RowKit Mem
open Go.Maps Go.WideMaps
open M17 (Laid Laid.below)
set_option linter.unusedVariables false
set_option linter.unusedSimpArgs false

/-- A map that a call has made. -/
def MpP (l : List (List UInt8 × Int)) (w : World) (e : Ending) (w' : World) : Prop := ∃ b n, e = .returned (.map (some b)) ∧ IsMp w' b n l ∧ n ≤ 1000000 ∧ Below w.heap.size w w'
/-- All words of a list of tokens fit. -/
def Fits (L : List Tok) : Prop := ∀ t ∈ L, t.1.length ≤ 1000000
theorem optV_none (o : Option (List UInt8)) (h : o = none) : optV o = .tuple #[.string ⟨#[]⟩, .bool false] := by subst h; rfl
theorem mpD_take {L : List (List UInt8 × Int)} {k : Nat} {p} (h : L[k]? = some p) : mpD (L.take (k + 1)) = (mpD (L.take k)).put (.string p.1) (.lit (.int .i64 p.2)) := by
  obtain ⟨hk, rfl⟩ := List.getElem?_eq_some_iff.1 h
  rw [List.take_succ_eq_append_getElem hk, mpD_snoc]
set_option maxHeartbeats 8000000 in
theorem firstDefs_any {A : Option Addr} {n cap : Nat} {L : List Tok} {w : World} (h : IsPs w A n cap (L.map tokI)) (hf : Fits L) (hn : n ≤ 1000000) :
    Calls Tryd.prog 58 #[.slice A n cap] w (MpP (fdl (wof L) n) w) := by
  have hget := Lib.hid (fun (k : Nat) (hk : k < n) => IsPs.tok h hk)
  have hfit := Lib.hid hf
  have hstep := Lib.hid (fun (k : Nat) (T : List UInt8) (ln : Nat) (hT : L[k]? = some (T, ln)) => show fdl (wof L) (k + 1) = fdStep (fdl (wof L) k) k T by rw [fdl, wof_get hT])
  have hnd := Lib.hid (fdl_nodup (wof L))
  obtain ⟨B, hB⟩ : ∃ B, w.heap.size = B := ⟨_, rfl⟩
  have o1 := World.ownsMap_made w Tryd.prog 9 (plainElem (H := Unit) Tryd.prog 3)
  rw [hB] at o1
  have o2 : Below B w (w.alloc (.map #[] 0)) := by rw [← hB]; exact (Below.refl _ _).alloc (Nat.le_refl _) _
  have hgoal : ∀ w', w'.ownsMap Tryd.prog 9 (plainElem Tryd.prog 3) B n (mpD (fdl (wof L) n)) → Below B w w' → MpP (fdl (wof L) n) w (.returned (.map (some B))) w' := fun w' h1 h2 => ⟨B, n, rfl, ⟨h1, fdl_nodup _ _⟩, hn, by rw [hB]; exact h2⟩
  obtain ⟨P, hP⟩ : ∃ P, MpP (fdl (wof L) n) w = P := ⟨_, rfl⟩
  rw [hP] at hgoal ⊢
  replace o1 : Hid ((w.alloc (.map #[] 0)).ownsMap Tryd.prog 9 (plainElem Tryd.prog 3) B 0 (mpD (fdl (wof L) 0))) := Lib.hid o1
  replace o2 := Lib.hid o2
  replace hgoal := Lib.hid hgoal
  have hle := h.le
  have hmm := @run_makeMap Tryd.prog
  have hB' := Lib.hid hB
  clear hP hf h
  show Calls _ _ _ _ (fun e w' => P e w')
  go_enter Tryd.func58, Tryd.ntmps58
  go_wp2
  go_loopw [13] (fun iv wr => ∃ (k : Nat), iv = .int .i64 (k : Int) ∧ k ≤ n ∧ Hid (wr.ownsMap Tryd.prog 9 (plainElem Tryd.prog 3) B k (mpD (fdl (wof L) k))) ∧ Hid (Below B w wr)) (fun iv _ => n - (intOf iv).toNat)
  case atStart => exact ⟨0, rfl, Nat.zero_le _, o1, o2⟩
  case round =>
    clear o1 o2
    obtain ⟨k, rfl, hk, hown, hb⟩ := hrel
    by_cases hlt : k < n
    · have dk : decide ((k : Int) < (n : Int)) = true := decide_eq_true (by omega)
      have k0 : (0 : Int) ≤ (k : Int) := by omega
      have k1 : (k : Int) < (n : Int) := by omega
      have k2 : (k : Int) ≤ 1000000 := by omega
      obtain ⟨T, ln, b, o, hT, rfl, hbl, g0, g1⟩ := hget.out k hlt
      have hTl := hfit.out _ (List.mem_of_getElem? hT)
      have hst := hstep.out k T ln hT
      unfold strV at g0
      obtain ⟨S, hS⟩ : ∃ S : ByteArray, ⟨T.toArray⟩ = S := ⟨_, rfl⟩
      have hST : S.data.toList = T := by rw [← hS]
      have hSz : S.size ≤ 1000000 := by rw [← hS, str_size]; exact hTl
      rw [hS] at g0
      rw [← hST] at hst
      have cD := definedBy_any S hSz
      have g0 : wr.cell? ⟨b, o + k * 2, none⟩ = some (.string S) := (hb.out.cell (p := ⟨b, o + k * 2, none⟩) (by rw [← hB'.out]; exact hbl)).trans g0
      have g1 : wr.cell? ⟨b, o + k * 2 + 1, none⟩ = some (.int .i64 (ln : Int)) := (hb.out.cell (p := ⟨b, o + k * 2 + 1, none⟩) (by rw [← hB'.out]; exact hbl)).trans g1
      obtain ⟨X, hX⟩ : ∃ X, wr.heap.size = X := ⟨_, rfl⟩
      obtain ⟨wX, hwX⟩ : ∃ W, wr.alloc (.cells #[.string S, .int .i64 (ln : Int)] 71) = W := ⟨_, rfl⟩
      have hxx : wX.heap[X]? = some (.cells #[.string S, .int .i64 (ln : Int)] 71 (0, 0)) := by rw [← hwX, ← hX]; exact World.alloc_heap_new wr _
      have hxc : wX.cell? ⟨X, 0, none⟩ = some (.string S) := by simp [World.cell?, hxx]
      have hownX : wX.ownsMap Tryd.prog 9 (plainElem Tryd.prog 3) B k (mpD (fdl (wof L) k)) := by rw [← hwX]; exact hown.out.alloc _
      have hwB : B ≤ wr.heap.size := Nat.le_of_lt hown.out.lt
      have hbX : Below B w wX := by rw [← hwX]; exact hb.out.alloc hwB _
      have hlk := (IsMp.mk hownX (hnd.out k)).lko wX (Below.refl _ _)
      rcases hd : defN S.data.toList with _ | N
      · rw [hd] at cD
        unfold optV strV at cD
        dsimp only [Option.getD, Option.isSome] at cD
        have hfd : fdl (wof L) (k + 1) = fdl (wof L) k := by rw [hst]; unfold fdStep; rw [hd]
        obtain ⟨q1, q2, hlk1⟩ : ∃ q1 q2, (Instr.lookup 35 (.map (some B)) (.string ⟨#[]⟩) true).run Tryd.prog wX = .ok (.tuple #[.int .i64 q1, .bool q2]) wX := ⟨_, _, hlk ByteArray.empty (by decide)⟩
        have hrel1 := Lib.hid (show wX.ownsMap Tryd.prog 9 (plainElem Tryd.prog 3) B (k + 1) (mpD (fdl (wof L) (k + 1))) by rw [hfd]; exact hownX.mono (by omega))
        have hbX2 := Lib.hid hbX
        replace cD := Lib.hid cD
        clear hfd hlk hownX hbX hxx hST hst hTl hT hS hown hb hget hgoal hd hstep hfit hnd hbl
        go_wp2_with fail
        refine (cD.out _).mono ?_
        rintro e w3 ⟨rfl, rfl⟩
        go_wp2
        go_roundw
        case rel => exact ⟨k + 1, by go_num, by omega, hrel1, hbX2⟩
        case measure => simp [intOf]; omega
      · rw [hd] at cD
        obtain ⟨SN, hSN⟩ : ∃ SN : ByteArray, ⟨N.toArray⟩ = SN := ⟨_, rfl⟩
        have hSNl : SN.data.toList = N := by rw [← hSN]
        have hNle : N.length ≤ S.data.toList.length := by obtain ⟨e, _⟩ := def_some hd; rw [e]; simp
        have hSNz : SN.size ≤ 1000000 := by
          rw [← hSN, str_size]
          have : S.data.toList.length = S.size := by simp
          omega
        unfold optV strV at cD
        dsimp only [Option.getD, Option.isSome] at cD
        rw [hSN] at cD
        have hlk1 := hlk SN hSNz
        dsimp only at hlk1
        rw [hSNl] at hlk1
        obtain ⟨q1, hq1⟩ : ∃ q, look (fdl (wof L) k) N = q := ⟨_, rfl⟩
        rw [hq1] at hlk1
        have hkey := Go.WideMaps.keyOf_string_mk (P := Tryd.prog) (k := 9) Tryd.underlying9 (s := SN) (by unfold maxLen; omega)
        rw [hSNl] at hkey
        by_cases hin : N ∈ (fdl (wof L) k).map (·.1)
        · rw [decide_eq_true hin] at hlk1
          have hfd : fdl (wof L) (k + 1) = fdl (wof L) k := by rw [hst]; unfold fdStep; rw [hd]; dsimp only; rw [if_pos hin]
          have hrel1 := Lib.hid (show wX.ownsMap Tryd.prog 9 (plainElem Tryd.prog 3) B (k + 1) (mpD (fdl (wof L) (k + 1))) by rw [hfd]; exact hownX.mono (by omega))
          have hbX2 := Lib.hid hbX
          replace cD := Lib.hid cD
          clear hq1 hfd hlk hownX hbX hxx hST hst hTl hT hS hown hb hget hgoal hd hstep hfit hnd hbl hin hkey hSN hSNl hNle hSNz
          go_wp2_with fail
          refine (cD.out _).mono ?_
          rintro e w3 ⟨rfl, rfl⟩
          go_wp2
          go_roundw
          case rel => exact ⟨k + 1, by go_num, by omega, hrel1, hbX2⟩
          case measure => simp [intOf]; omega
        · rw [decide_eq_false hin] at hlk1
          have hfd : mpD (fdl (wof L) (k + 1)) = (mpD (fdl (wof L) k)).put (.string N) (.lit (.int .i64 (k : Int))) := by rw [hst]; unfold fdStep; rw [hd]; dsimp only; rw [if_neg hin, mpD_snoc]
          have hbX2 := Lib.hid hbX
          have hfd := Lib.hid hfd
          replace cD := Lib.hid cD
          replace hkey := Lib.hid hkey
          clear hq1 hlk hbX hxx hST hst hTl hT hS hown hb hget hgoal hd hstep hfit hnd hbl hin hSN hSNl hNle hSNz
          go_wp2_with fail
          refine (cD.out _).mono ?_
          rintro e w3 ⟨rfl, rfl⟩
          go_wp2_with (at_mapUpdate; refine wpList_mapUpdate_own _ rfl _ _ _ 35 rfl 9 3 law Tryd.underlying35 _ B k _ rfl hownX (by unfold maxLen; omega) _ _ _ rfl rfl hkey.out _ [] (plainElem_int Tryd.underlying3 (WalkArith.wf_i64 (by omega))) ?_; intro w6 hown6 hgr6)
          have hb6 := Lib.hid (hbX2.out.grown hgr6 (by have h := hbX2.out.size; rw [hB'.out] at h; exact h) (fun j hj => by cases hj; exact Nat.le_refl _))
          rw [← hfd.out] at hown6
          replace hown6 := Lib.hid hown6
          clear hgr6 hownX
          go_wp2
          go_roundw
          case rel => exact ⟨k + 1, by go_num, by omega, hown6, hb6⟩
          case measure => simp [intOf]; omega
    · obtain rfl : k = n := by omega
      have dk : decide ((k : Int) < (k : Int)) = false := decide_eq_false (by omega)
      have hfin := Lib.hid (hgoal.out wr hown.out hb.out)
      clear hgoal hown hb hget hstep hfit hnd
      go_wp2
      first | go_ret | skip
      exact hfin.out
set_option maxHeartbeats 8000000 in
theorem checkToken_any (s : ByteArray) (hs : s.size ≤ 1000000) (h0 : ¬ s.size = 0) (i : Nat) (hi : i ≤ 1000000) (m : Option Nat) {A : List UInt8 → Int} {H : List UInt8 → Bool} {w : World} (hk : LK m w A) (hko : LKo m w A H) (D seen : List (List UInt8))
    (h1 : ∀ n, defN s.data.toList = some n → (A n < (i : Int) ↔ n ∈ seen)) (h2 : ∀ n, H n = decide (n ∈ D)) :
    Calls Tryd.prog 59 #[.string s, .int .i64 (i : Int), .map m] w fun e w' => e = .returned (.int .i64 (flt D seen s.data.toList : Int)) ∧ w = w' := by
  have cD := definedBy_any s hs
  have cR := referredToBy_any s hs
  have cI := areIns_any s hs
  have hlen : ∀ N : List UInt8, N.length ≤ s.data.toList.length → (⟨N.toArray⟩ : ByteArray).size ≤ 1000000 := fun N h => by
    rw [str_size]
    have : s.data.toList.length = s.size := by simp
    omega
  rcases hd : defN s.data.toList with _ | N
  · rw [hd] at cD
    unfold optV strV at cD
    dsimp only [Option.getD, Option.isSome] at cD
    rcases hr : refN s.data.toList with _ | M
    · rw [hr] at cR
      unfold optV strV at cR
      dsimp only [Option.getD, Option.isSome] at cR
      have hfl : flt D seen s.data.toList = if codeB s.data.toList = true then 0 else 3 := by unfold flt; rw [hd, hr]
      have hcb : codeB s.data.toList = s.data.toList.all isIn := by
        unfold codeB
        rw [decide_eq_true (by rw [← str_toList]; exact (str_ne h0).2.2)]
        rfl
      rw [hfl, hcb]
      obtain ⟨q, hq⟩ : ∃ q, s.data.toList.all isIn = q := ⟨_, rfl⟩
      rw [hq] at cI ⊢
      replace cD := Lib.hid cD
      replace cR := Lib.hid cR
      replace cI := Lib.hid cI
      clear hq hcb hfl hr hd hlen h1 h2 hk hko h0
      cases q
      all_goals
        go_enter Tryd.func59, Tryd.ntmps59
        go_wp2_with fail
        refine (cD.out _).mono ?_
        rintro e w1 ⟨rfl, rfl⟩
        go_wp2_with fail
        refine (cR.out _).mono ?_
        rintro e w1 ⟨rfl, rfl⟩
        go_wp2_with fail
        refine (cI.out _).mono ?_
        rintro e w1 ⟨rfl, rfl⟩
        go_wp2
        first | go_ret | skip
        exact ⟨rfl, rfl⟩
    · rw [hr] at cR
      have hM := hlen M (by obtain ⟨e, _⟩ := ref_some hr; rw [e]; simp)
      have hl := hko w (Below.refl _ _) ⟨M.toArray⟩ hM
      dsimp only at hl
      rw [h2] at hl
      have hfl : flt D seen s.data.toList = if M ∈ D then 0 else 7 := by unfold flt; rw [hd, hr]
      rw [hfl]
      unfold optV strV at cR
      dsimp only [Option.getD, Option.isSome] at cR
      obtain ⟨SN, hSN⟩ : ∃ SN : ByteArray, ⟨M.toArray⟩ = SN := ⟨_, rfl⟩
      obtain ⟨a, ha⟩ : ∃ a, A M = a := ⟨_, rfl⟩
      rw [hSN] at cR hl
      rw [ha] at hl
      replace cD := Lib.hid cD
      replace cR := Lib.hid cR
      by_cases hin : M ∈ D
      · rw [decide_eq_true hin] at hl
        rw [if_pos hin]
        clear hfl hr hd hlen h1 h2 hk hko cI h0 hM hSN ha hin
        go_enter Tryd.func59, Tryd.ntmps59
        go_wp2_with fail
        refine (cD.out _).mono ?_
        rintro e w1 ⟨rfl, rfl⟩
        go_wp2_with fail
        refine (cR.out _).mono ?_
        rintro e w1 ⟨rfl, rfl⟩
        go_wp2
        first | go_ret | skip
        exact ⟨rfl, rfl⟩
      · rw [decide_eq_false hin] at hl
        rw [if_neg hin]
        clear hfl hr hd hlen h1 h2 hk hko cI h0 hM hSN ha hin
        go_enter Tryd.func59, Tryd.ntmps59
        go_wp2_with fail
        refine (cD.out _).mono ?_
        rintro e w1 ⟨rfl, rfl⟩
        go_wp2_with fail
        refine (cR.out _).mono ?_
        rintro e w1 ⟨rfl, rfl⟩
        go_wp2
        first | go_ret | skip
        exact ⟨rfl, rfl⟩
  · rw [hd] at cD
    have hM := hlen N (by obtain ⟨e, _⟩ := def_some hd; rw [e]; simp)
    have hl := hk w (Below.refl _ _) ⟨N.toArray⟩ hM
    dsimp only at hl
    have h1 := h1 N hd
    have hfl : flt D seen s.data.toList = if N ∈ seen then 8 else 0 := by unfold flt; rw [hd]
    rw [hfl]
    unfold optV strV at cD
    dsimp only [Option.getD, Option.isSome] at cD
    obtain ⟨SN, hSN⟩ : ∃ SN : ByteArray, ⟨N.toArray⟩ = SN := ⟨_, rfl⟩
    obtain ⟨a, ha⟩ : ∃ a, A N = a := ⟨_, rfl⟩
    rw [hSN] at cD hl
    rw [ha] at hl h1
    replace cD := Lib.hid cD
    by_cases hin : N ∈ seen
    · have t1 : decide (a < (i : Int)) = true := decide_eq_true (h1.2 hin)
      rw [if_pos hin]
      clear hfl hd hlen h1 h2 hk hko cI cR h0 hM hSN ha hin
      go_enter Tryd.func59, Tryd.ntmps59
      go_wp2_with fail
      refine (cD.out _).mono ?_
      rintro e w1 ⟨rfl, rfl⟩
      go_wp2
      first | go_ret | skip
      exact ⟨rfl, rfl⟩
    · have t1 : decide (a < (i : Int)) = false := decide_eq_false (fun h => hin (h1.1 h))
      rw [if_neg hin]
      clear hfl hd hlen h1 h2 hk hko cI cR h0 hM hSN ha hin
      go_enter Tryd.func59, Tryd.ntmps59
      go_wp2_with fail
      refine (cD.out _).mono ?_
      rintro e w1 ⟨rfl, rfl⟩
      go_wp2
      first | go_ret | skip
      exact ⟨rfl, rfl⟩
/-- The tokens of a source fit. -/
structure Toks (L : List Tok) : Prop where
  fits : Fits L
  wd : ∀ t ∈ L, Wd t.1
theorem ret_ii2 {x y x' y' : Nat} (h : (x, y) = (x', y')) : Ending.returned (.tuple #[.int .i64 (x : Int), .int .i64 (y : Int)]) = .returned (.tuple #[.int .i64 (x' : Int), .int .i64 (y' : Int)]) := by injection h with h1 h2; rw [h1, h2]
set_option maxHeartbeats 8000000 in
theorem check_any {A : Option Addr} {n cap : Nat} {L : List Tok} {w : World} (h : IsPs w A n cap (L.map tokI)) (hf : Toks L) (hn : n ≤ 1000000) :
    Calls Tryd.prog 28 #[.slice A n cap] w fun e w' => e = .returned (.tuple #[.int .i64 ((chk (dfs (wof L)) [] L).1 : Int), .int .i64 ((chk (dfs (wof L)) [] L).2 : Int)]) ∧ Below w.heap.size w w' := by
  have hL : L.length = n := by have := h.len; simpa using this
  have hwl : (wof L).length = n := by rw [wof_len, hL]
  have cF := Lib.hid (firstDefs_any h hf.fits hn)
  obtain ⟨R, hR⟩ : ∃ R : Nat × Nat, chk (dfs (wof L)) [] L = R := ⟨_, rfl⟩
  have hgoal : ∀ (x y : Nat) (w' : World), (x, y) = R → Below w.heap.size w w' → (fun (e : Ending) (w' : World) => e = .returned (.tuple #[.int .i64 (R.1 : Int), .int .i64 (R.2 : Int)]) ∧ Below w.heap.size w w') (.returned (.tuple #[.int .i64 (x : Int), .int .i64 (y : Int)])) w' := fun x y w' h1 h2 => by
    subst h1
    exact ⟨rfl, h2⟩
  rw [hR]
  obtain ⟨P, hP⟩ : ∃ P, (fun (e : Ending) (w' : World) => e = .returned (.tuple #[.int .i64 (R.1 : Int), .int .i64 (R.2 : Int)]) ∧ Below w.heap.size w w') = P := ⟨_, rfl⟩
  rw [hP] at hgoal ⊢
  have hget := Lib.hid (fun (k : Nat) (hk : k < n) => IsPs.tok h hk)
  have hstart : Hid (chk (dfs (wof L)) (dfs (wof (L.take 0))) (L.drop 0) = R) := Lib.hid hR
  have hstep := Lib.hid (fun (k : Nat) (T : List UInt8) (ln : Nat) (hT : L[k]? = some (T, ln)) => chk_step (D := dfs (wof L)) hT)
  have hfit := Lib.hid hf
  have hle := h.le
  have hfirst := Lib.hid (fun (k : Nat) (T : List UInt8) (ln : Nat) (hT : L[k]? = some (T, ln)) (N : List UInt8) (hN : defN T = some N) => first_lt (wof L) (wof_get hT) hN)
  have hmem := Lib.hid (fun (N : List UInt8) => show decide (N ∈ (fdl (wof L) n).map (·.1)) = decide (N ∈ dfs (wof L)) from decide_eq_decide.2 (by rw [fdl_mem, List.take_of_length_le (by omega)]))
  have hend := Lib.hid (show chk (dfs (wof L)) (dfs (wof (L.take n))) (L.drop n) = (0, 0) by rw [List.drop_of_length_le (by omega), chk])
  rw [hwl] at hfirst
  replace hgoal := Lib.hid hgoal
  clear hP hR h hf hL hwl
  show Calls _ _ _ _ (fun e w' => P e w')
  go_enter Tryd.func28, Tryd.ntmps28
  go_wp2_with fail
  refine (cF.out).mono ?_
  rintro e w1 ⟨b0, n0, rfl, hmp, hn0, hb1⟩
  have hlk := Lib.hid hmp.lk
  have hlko := Lib.hid hmp.lko
  have hb1s := hb1.size
  replace hb1 := Lib.hid hb1
  clear hmp hn0 cF
  go_wp2
  go_loopw [12] (fun iv wr => ∃ (k : Nat), iv = .int .i64 (k : Int) ∧ k ≤ n ∧ Hid (chk (dfs (wof L)) (dfs (wof (L.take k))) (L.drop k) = R) ∧ Hid (Below w1.heap.size w1 wr)) (fun iv _ => n - (intOf iv).toNat)
  case atStart => exact ⟨0, rfl, Nat.zero_le _, hstart, Lib.hid (Below.refl _ _)⟩
  case round =>
    clear hstart
    obtain ⟨k, rfl, hk, hch, hb⟩ := hrel
    by_cases hlt : k < n
    · have dk : decide ((k : Int) < (n : Int)) = true := decide_eq_true (by omega)
      have k0 : (0 : Int) ≤ (k : Int) := by omega
      have k1 : (k : Int) < (n : Int) := by omega
      have k2 : (k : Int) ≤ 1000000 := by omega
      obtain ⟨T, ln, b, o, hT, rfl, hbl, g0, g1⟩ := hget.out k hlt
      have hTl := hfit.out.fits _ (List.mem_of_getElem? hT)
      have hTw := (hfit.out.wd _ (List.mem_of_getElem? hT)).1
      have hst := hstep.out k T ln hT
      rw [hch.out] at hst
      have hfs := fun N hN => hfirst.out k T ln hT N hN
      unfold strV at g0
      obtain ⟨S, hS⟩ : ∃ S : ByteArray, ⟨T.toArray⟩ = S := ⟨_, rfl⟩
      have hST : S.data.toList = T := by rw [← hS]
      have hSz : S.size ≤ 1000000 := by rw [← hS, str_size]; exact hTl
      have hS0 : ¬ S.size = 0 := by
        rw [← hS, str_size]
        intro e
        exact hTw (List.eq_nil_of_length_eq_zero e)
      rw [hS] at g0
      rw [← wof_tk, ← hST] at hfs
      rw [← hST] at hst
      have hba := chain hb1.out hb.out
      have g0 : wr.cell? ⟨b, o + k * 2, none⟩ = some (.string S) := (hba.cell (p := ⟨b, o + k * 2, none⟩) hbl).trans g0
      have g1 : wr.cell? ⟨b, o + k * 2 + 1, none⟩ = some (.int .i64 (ln : Int)) := (hba.cell (p := ⟨b, o + k * 2 + 1, none⟩) hbl).trans g1
      obtain ⟨X, hX⟩ : ∃ X, wr.heap.size = X := ⟨_, rfl⟩
      obtain ⟨wX, hwX⟩ : ∃ W, wr.alloc (.cells #[.string S, .int .i64 (ln : Int)] 71) = W := ⟨_, rfl⟩
      have hxx : wX.heap[X]? = some (.cells #[.string S, .int .i64 (ln : Int)] 71 (0, 0)) := by rw [← hwX, ← hX]; exact World.alloc_heap_new wr _
      have hxc : wX.cell? ⟨X, 0, none⟩ = some (.string S) := by simp [World.cell?, hxx]
      have hxd : wX.cell? ⟨X, 1, none⟩ = some (.int .i64 (ln : Int)) := by simp [World.cell?, hxx]
      have hbX : Below w1.heap.size w1 wX := by rw [← hwX]; exact hb.out.alloc hb.out.size _
      have cC := checkToken_any S hSz hS0 k (by omega) (some b0) (hlk.out.below hbX) (hlko.out.below hbX) (dfs (wof L)) (dfs (wof (L.take k))) hfs hmem.out
      obtain ⟨F, hF⟩ : ∃ F, flt (dfs (wof L)) (dfs (wof (L.take k))) S.data.toList = F := ⟨_, rfl⟩
      rw [hF] at cC hst
      have cC := Lib.hid cC
      by_cases hF0 : F = 0
      · subst hF0
        rw [if_pos rfl] at hst
        have hrel1 := Lib.hid hst.symm
        have hbX2 := Lib.hid hbX
        clear hF hst hbX hxx hba hST hSz hS0 hS hfs hTl hTw hT hch hb hget hgoal hstep hfit hfirst hmem hend hlk hlko hb1 hbl
        go_wp2_with fail
        refine (cC.out).mono ?_
        rintro e w3 ⟨rfl, rfl⟩
        go_wp2
        go_roundw
        case rel => exact ⟨k + 1, by go_num, by omega, hrel1, hbX2⟩
        case measure => simp [intOf]; omega
      · rw [if_neg hF0] at hst
        have t1 : ((F : Int) != 0) = true := bne_iff_ne.2 (by omega)
        have hfin := Lib.hid (hgoal.out ln F wX hst.symm (chain hb1.out hbX))
        clear hF hst hbX hxx hba hST hSz hS0 hS hfs hTl hTw hT hch hb hget hgoal hstep hfit hfirst hmem hend hlk hlko hb1 hF0 hbl
        go_wp2_with fail
        refine (cC.out).mono ?_
        rintro e w3 ⟨rfl, rfl⟩
        go_wp2
        first | go_ret2 | skip
        exact hfin.out
    · obtain rfl : k = n := by omega
      have dk : decide ((k : Int) < (k : Int)) = false := decide_eq_false (by omega)
      have hfin := Lib.hid (hgoal.out 0 0 wr (by rw [← hch.out, hend.out]) (chain hb1.out hb.out))
      clear hgoal hch hb hget hstep hfit hfirst hmem hend hlk hlko hb1
      go_wp2
      first | go_ret2 | skip
      exact hfin.out
set_option maxHeartbeats 8000000 in
theorem addressesOf_any {A : Option Addr} {n cap : Nat} {L : List (List UInt8 × Int)} {w : World} (h : IsPs w A n cap L) (hd : (L.map (·.1)).Nodup) (hf : ∀ p ∈ L, p.1.length ≤ 1000000 ∧ 0 ≤ p.2 ∧ p.2 ≤ 1000000) (hn : n ≤ 1000000) :
    Calls Tryd.prog 30 #[.slice A n cap] w (MpP L w) := by
  have hL := h.len
  have hget := Lib.hid (fun (k : Nat) (hk : k < n) => IsPs.at h hk)
  have hfit := Lib.hid hf
  obtain ⟨B, hB⟩ : ∃ B, w.heap.size = B := ⟨_, rfl⟩
  have o1 := World.ownsMap_made w Tryd.prog 9 (plainElem (H := Unit) Tryd.prog 3)
  rw [hB] at o1
  have o2 : Below B w (w.alloc (.map #[] 0)) := by rw [← hB]; exact (Below.refl _ _).alloc (Nat.le_refl _) _
  have hgoal : ∀ w', w'.ownsMap Tryd.prog 9 (plainElem Tryd.prog 3) B n (mpD (L.take n)) → Below B w w' → MpP L w (.returned (.map (some B))) w' := fun w' h1 h2 => by
    rw [List.take_of_length_le (by omega)] at h1
    exact ⟨B, n, rfl, ⟨h1, hd⟩, hn, by rw [hB]; exact h2⟩
  obtain ⟨P, hP⟩ : ∃ P, MpP L w = P := ⟨_, rfl⟩
  rw [hP] at hgoal ⊢
  replace o1 : Hid ((w.alloc (.map #[] 0)).ownsMap Tryd.prog 9 (plainElem Tryd.prog 3) B 0 (mpD (L.take 0))) := Lib.hid o1
  replace o2 := Lib.hid o2
  replace hgoal := Lib.hid hgoal
  have hle := h.le
  have hmm := @run_makeMap Tryd.prog
  have hB' := Lib.hid hB
  clear hP hf h hd hL
  show Calls _ _ _ _ (fun e w' => P e w')
  go_enter Tryd.func30, Tryd.ntmps30
  go_wp2
  go_loopw [9] (fun iv wr => ∃ (k : Nat), iv = .int .i64 (k : Int) ∧ k ≤ n ∧ Hid (wr.ownsMap Tryd.prog 9 (plainElem Tryd.prog 3) B k (mpD (L.take k))) ∧ Hid (Below B w wr)) (fun iv _ => n - (intOf iv).toNat)
  case atStart => exact ⟨0, rfl, Nat.zero_le _, o1, o2⟩
  case round =>
    clear o1 o2
    obtain ⟨k, rfl, hk, hown, hb⟩ := hrel
    by_cases hlt : k < n
    · have dk : decide ((k : Int) < (n : Int)) = true := decide_eq_true (by omega)
      have k0 : (0 : Int) ≤ (k : Int) := by omega
      have k1 : (k : Int) < (n : Int) := by omega
      have k2 : (k : Int) ≤ 1000000 := by omega
      obtain ⟨T, z, b, o, hT, rfl, hbl, g0, g1⟩ := hget.out k hlt
      have hfk := hfit.out _ (List.mem_of_getElem? hT)
      have hst := mpD_take hT
      dsimp only at hfk hst
      unfold strV at g0
      obtain ⟨S, hS⟩ : ∃ S : ByteArray, ⟨T.toArray⟩ = S := ⟨_, rfl⟩
      have hST : S.data.toList = T := by rw [← hS]
      have hSz : S.size ≤ 1000000 := by rw [← hS, str_size]; exact hfk.1
      rw [hS] at g0
      rw [← hST] at hst
      have hkey := Go.WideMaps.keyOf_string_mk (P := Tryd.prog) (k := 9) Tryd.underlying9 (s := S) (by unfold maxLen; omega)
      have g0 : wr.cell? ⟨b, o + k * 2, none⟩ = some (.string S) := (hb.out.cell (p := ⟨b, o + k * 2, none⟩) (by rw [← hB'.out]; exact hbl)).trans g0
      have g1 : wr.cell? ⟨b, o + k * 2 + 1, none⟩ = some (.int .i64 z) := (hb.out.cell (p := ⟨b, o + k * 2 + 1, none⟩) (by rw [← hB'.out]; exact hbl)).trans g1
      obtain ⟨X, hX⟩ : ∃ X, wr.heap.size = X := ⟨_, rfl⟩
      obtain ⟨wX, hwX⟩ : ∃ W, wr.alloc (.cells #[.string S, .int .i64 z] 37) = W := ⟨_, rfl⟩
      have hxx : wX.heap[X]? = some (.cells #[.string S, .int .i64 z] 37 (0, 0)) := by rw [← hwX, ← hX]; exact World.alloc_heap_new wr _
      have hxc : wX.cell? ⟨X, 0, none⟩ = some (.string S) := by simp [World.cell?, hxx]
      have hxd : wX.cell? ⟨X, 1, none⟩ = some (.int .i64 z) := by simp [World.cell?, hxx]
      have hownX : wX.ownsMap Tryd.prog 9 (plainElem Tryd.prog 3) B k (mpD (L.take k)) := by rw [← hwX]; exact hown.out.alloc _
      have hwB : B ≤ wr.heap.size := Nat.le_of_lt hown.out.lt
      have hbX : Below B w wX := by rw [← hwX]; exact hb.out.alloc hwB _
      obtain ⟨_, z0, z1⟩ := hfk
      have hbX2 := Lib.hid hbX
      replace hkey := Lib.hid hkey
      replace hst := Lib.hid hst
      clear hbX hxx hST hS hown hb hget hgoal hfit hSz hT hbl
      go_wp2_with (at_mapUpdate; refine wpList_mapUpdate_own _ rfl _ _ _ 35 rfl 9 3 law Tryd.underlying35 _ B k _ rfl hownX (by unfold maxLen; omega) _ _ _ rfl rfl hkey.out _ [] (plainElem_int Tryd.underlying3 (WalkArith.wf_i64 (by omega))) ?_; intro w6 hown6 hgr6)
      have hb6 := Lib.hid (hbX2.out.grown hgr6 (by have h := hbX2.out.size; rw [hB'.out] at h; exact h) (fun j hj => by cases hj; exact Nat.le_refl _))
      rw [← hst.out] at hown6
      replace hown6 := Lib.hid hown6
      clear hgr6 hownX
      go_wp2
      go_roundw
      case rel => exact ⟨k + 1, by go_num, by omega, hown6, hb6⟩
      case measure => simp [intOf]; omega
    · obtain rfl : k = n := by omega
      have dk : decide ((k : Int) < (k : Int)) = false := decide_eq_false (by omega)
      have hfin := Lib.hid (hgoal.out wr hown.out hb.out)
      clear hgoal hown hb hget hfit
      go_wp2
      first | go_ret | skip
      exact hfin.out
end Go.Proofs.YthmgocjmfhpafaaDoor.A18
