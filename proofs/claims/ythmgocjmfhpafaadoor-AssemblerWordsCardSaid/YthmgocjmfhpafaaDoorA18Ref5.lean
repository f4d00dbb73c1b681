/- The contracts of the reference's Words and fault (layer 18). -/
import Derived.Test.YthmgocjmfhpafaaDoorA18Ref4
import Derived.Test.YthmgocjmfhpafaaDoorA18Ref3
import Derived.Test.YthmgocjmfhpafaaDoorA18Own5
namespace Go.Proofs.YthmgocjmfhpafaaDoor.A18
set_option maxRecDepth 100000
open Go.RowKit Mem
set_option linter.unusedVariables false
set_option linter.unusedSimpArgs false

theorem cel_is {w : World} {base n cap : Nat} {e : TypeId} {A : Option Addr} {L : List Tok} (h : w.ownsRow base e 2 (.slice A n cap) n (cel L)) (hn : L.length = n) : IsPs w A n cap (L.map tokI) := by
  obtain ⟨A', cap', e', h'⟩ := IsPs.of_own (l := L.map tokI) h (by simpa using hn)
  injection e' with e1 _ e2
  subst e1 e2
  exact h'
set_option maxHeartbeats 8000000 in
theorem rWords_any (s : ByteArray) (hs : s.size ≤ 1000000) (w : World) : Calls Tryd.prog 19 #[.string s] w (WsP (wof (toks s.data.toList)) w) := by
  have hn : s.data.toList.length = s.size := by simp
  obtain ⟨i0, hi, hz0, hz1, hz2⟩ := info_parts info_str
  have cS := Lib.hid (rwords_any s hs)
  have hle := toks_le s.data.toList
  rw [hn] at hle
  obtain ⟨L, hL⟩ : ∃ L, toks s.data.toList = L := ⟨_, rfl⟩
  rw [hL] at cS hle ⊢
  have hgoal : ∀ (v : Value) (w' : World), w'.ownsRow w.heap.size 9 1 v L.length (strVs (wof (L.take L.length))) → Below w.heap.size w w' → WsP (wof L) w (.returned v) w' := fun v w' h2 h3 => by
    rw [List.take_length] at h2
    exact ⟨v, w.heap.size, rfl, Nat.le_refl _, by rw [wof_len]; exact h2, h3⟩
  obtain ⟨P, hP⟩ : ∃ P, WsP (wof L) w = P := ⟨_, rfl⟩
  rw [hP] at hgoal ⊢
  have q1 := (show (w.alloc (.cells #[] 9)).ownsRow w.heap.size 9 1 (.slice (some ⟨w.heap.size, 0, none⟩) 0 0) 0 (strVs (wof (L.take 0))) from empty_at rfl (Nat.le_refl _))
  have q2 := (Below.refl w.heap.size w).alloc (Nat.le_refl _) (.cells #[] 9)
  have q3 : w.heap.size ≤ (w.alloc (.cells #[] 9)).heap.size := q2.size
  replace hgoal := Lib.hid hgoal
  replace q1 := Lib.hid q1
  replace q2 := Lib.hid q2
  replace q3 := Lib.hid q3
  clear hP hL hn
  show Calls _ _ _ _ (fun e w' => P e w')
  go_enter Tryd.func19, Tryd.ntmps19
  go_wp2_with fail
  refine (cS.out _).mono ?_
  rintro e w1 ⟨v0, rfl, hrow0, hb0⟩
  obtain ⟨A, cap, rfl, hc1, hc2, hc3⟩ := own2_slice hrow0
  have ht0 := Lib.hid (show w1.ownsRow w.heap.size 65 2 (.slice A L.length cap) L.length (cel L) from own_mono hrow0 q3.out)
  have o1 := Lib.hid (own_below q1.out hb0)
  have o2 := Lib.hid (q2.out.trans (hb0.mono q3.out))
  have hLl := Lib.hid (rfl : L.length = L.length)
  obtain ⟨n, hnl⟩ : ∃ n, L.length = n := ⟨_, rfl⟩
  rw [hnl] at ht0 hc1 hle hgoal ⊢
  have htake := Lib.hid (fun (k : Nat) (t : Tok) (h : L[k]? = some t) => wof_take h)
  replace hnl := Lib.hid hnl
  clear hrow0 hb0 q1 q2 q3 cS hLl hc2 hc3
  go_wp2
  go_loopw [3, 5] (fun tv iv wr => ∃ (k : Nat) (v : Value), v = tv ∧ iv = .int .i64 (k : Int) ∧ k ≤ n ∧ Hid (wr.ownsRow w.heap.size 9 1 v k (strVs (wof (L.take k)))) ∧ Hid (wr.ownsRow w.heap.size 65 2 (.slice A n cap) n (cel L)) ∧ Hid (Below w.heap.size w wr)) (fun _ iv _ => n - (intOf iv).toNat)
  case atStart => exact ⟨0, _, rfl, rfl, Nat.zero_le _, o1, ht0, o2⟩
  case round =>
    clear o1 o2 ht0
    obtain ⟨k, v, rfl, rfl, hk, hrow, htr, hb⟩ := hrel
    by_cases hlt : k < n
    · have dk : decide ((k : Int) < (n : Int)) = true := decide_eq_true (by omega)
      have k0 : (0 : Int) ≤ (k : Int) := by omega
      have k1 : (k : Int) < (n : Int) := by omega
      have k2 : (k : Int) ≤ 1000000 := by omega
      obtain ⟨T, ln, b, o, hT, rfl, hbl, g0, g1⟩ := IsPs.tok (cel_is htr.out hnl.out) hlt
      have ht := htake.out k _ hT
      unfold strV at g0
      dsimp only at ht
      unfold strV at ht
      obtain ⟨S, hS⟩ : ∃ S : ByteArray, ⟨T.toArray⟩ = S := ⟨_, rfl⟩
      rw [hS] at g0 ht
      have apart := own_apart htr.out hrow.out (by decide)
      have hro := hrow.out
      have hbo := hb.out
      have hbs := hbo.size
      replace ht := Lib.hid ht
      have hin := Lib.hid (And.intro htr.out apart)
      clear hT hS hrow hb hgoal htake htr apart g1 hbl
      go_wp2_with (at_builtin; refine wpList_append_own _ rfl _ _ 32 rfl w.heap.size 9 i0 (.string ⟨#[]⟩) 1 16 Tryd.underlying32 hi hz0 hz1 hz2 rfl (by decide) _ _ _ rfl (hro.alloc _) ⟨wr.heap.size, 0, none⟩ 1 1 [.string S] rfl rfl (one_new _ _ _) (one_str _) (by unfold maxLen; omega) (by omega) (by simp; omega) ?_; intro v' w6 hown' hgrow _)
      have hb6 := Lib.hid ((hbo.alloc hbs _).grown hgrow (by simp; omega) (fun j hj => (hro.lt j hj).1))
      have ht6 := Lib.hid ((hin.out.1.alloc _).kept hgrow hin.out.2)
      rw [← ht.out] at hown'
      replace hown' := Lib.hid hown'
      clear hgrow hro hbo hin
      go_wp2
      go_roundw
      case rel => exact ⟨k + 1, _, rfl, by go_num, by omega, hown', ht6, hb6⟩
      case measure => simp [intOf]; omega
    · obtain rfl : k = n := by omega
      have dk : decide ((k : Int) < (k : Int)) = false := decide_eq_false (by omega)
      have hfin := Lib.hid (hgoal.out v wr hrow.out hb.out)
      clear hgoal hrow hb htr htake
      go_wp2
      first | go_ret | skip
      exact hfin.out
/-! ### fault -/
theorem dfs_hit {L : List Tok} {j i : Nat} {t : Tok} {N : List UInt8} (h : L[j]? = some t) (hd : defN t.1 = some N) (hj : j < i) : N ∈ dfs (wof (L.take i)) := by
  unfold dfs
  rw [List.mem_filterMap]
  refine ⟨t.1, ?_, hd⟩
  unfold wof
  refine List.mem_map.2 ⟨t, ?_, rfl⟩
  rw [List.mem_iff_getElem?]
  exact ⟨j, by rw [List.getElem?_take_of_lt hj]; exact h⟩
theorem dfs_miss {L : List Tok} {i : Nat} {N : List UInt8} (h : ∀ (j : Nat) (t : Tok), j < i → L[j]? = some t → defN t.1 ≠ some N) : N ∉ dfs (wof (L.take i)) := fun hm => by
  unfold dfs at hm
  rw [List.mem_filterMap] at hm
  obtain ⟨x, hx, hd⟩ := hm
  obtain ⟨t, ht, rfl⟩ := List.mem_map.1 hx
  obtain ⟨j, hj⟩ := List.mem_iff_getElem?.1 ht
  have hji : j < i := by
    have := (List.getElem?_eq_some_iff.1 hj).1
    rw [List.length_take] at this
    omega
  rw [List.getElem?_take_of_lt hji] at hj
  exact h j t hji hj hd
theorem dfs_hit_all {L : List Tok} {j : Nat} {t : Tok} {N : List UInt8} (h : L[j]? = some t) (hd : defN t.1 = some N) : N ∈ dfs (wof L) := by
  have := dfs_hit (i := L.length) h hd (List.getElem?_eq_some_iff.1 h).1
  rwa [List.take_length] at this
theorem dfs_miss_all {L : List Tok} {N : List UInt8} (h : ∀ (j : Nat) (t : Tok), L[j]? = some t → defN t.1 ≠ some N) : N ∉ dfs (wof L) := by
  have := dfs_miss (L := L) (i := L.length) (N := N) (fun j t _ hj => h j t hj)
  rwa [List.take_length] at this
/-- A loop's test on the name that a token defines. -/
theorem opt_test (o : Option (List UInt8)) (N : List UInt8) : (o = some N) ∨ (∃ m, o = some m ∧ m ≠ N) ∨ o = none := by
  rcases o with _ | m
  · exact .inr (.inr rfl)
  · by_cases e : m = N
    · exact .inl (by rw [e])
    · exact .inr (.inl ⟨m, rfl, e⟩)
theorem optV_some (m : List UInt8) : optV (some m) = .tuple #[.string ⟨m.toArray⟩, .bool true] := rfl
theorem optV_no : optV none = .tuple #[.string ⟨#[]⟩, .bool false] := rfl
set_option maxHeartbeats 16000000 in
theorem rfault_any {A : Option Addr} {n cap : Nat} {L : List Tok} {w : World} (h : IsPs w A n cap (L.map tokI)) (hf : Fits L) (hn : n ≤ 1000000) {i : Nat} {t : Tok} (hi : L[i]? = some t) :
    Calls Tryd.prog 32 #[.slice A n cap, .int .i64 (i : Int)] w fun e w' => e = .returned (.int .i64 (flt (dfs (wof L)) (dfs (wof (L.take i))) t.1 : Int)) ∧ w = w' := by
  have hL : L.length = n := by have := h.len; simpa using this
  have hin : i < n := by have := (List.getElem?_eq_some_iff.1 hi).1; omega
  have hle := h.le
  have hget := Lib.hid (fun (k : Nat) (hk : k < n) => IsPs.tok h hk)
  have hfit := Lib.hid hf
  obtain ⟨T, ln, b0, o0, hT, rfl, hbl0, g0, g1⟩ := IsPs.tok h hin
  rw [hi] at hT
  injection hT with hT
  subst hT
  dsimp only
  have hTl := hf _ (List.mem_of_getElem? hi)
  dsimp only at hTl
  unfold strV at g0
  obtain ⟨S, hS⟩ : ∃ S : ByteArray, ⟨T.toArray⟩ = S := ⟨_, rfl⟩
  have hST : S.data.toList = T := by rw [← hS]
  have hSz : S.size ≤ 1000000 := by rw [← hS, str_size]; exact hTl
  rw [hS] at g0
  have cD := rdefines_any S hSz
  have cR := rrefers_any S hSz
  have cC := rcode_any S hSz
  rw [hST] at cD cR cC
  have cDx := Lib.hid (fun (x : List UInt8) (hx : x.length ≤ 1000000) W => show Calls Tryd.prog 64 #[.string ⟨x.toArray⟩] W fun e w' => e = .returned (optV (defN x)) ∧ W = w' from rdefines_any ⟨x.toArray⟩ (by rw [str_size]; exact hx) W)
  have i0 : (0 : Int) ≤ (i : Int) := by omega
  have i1 : (i : Int) < (n : Int) := by omega
  have i2 : (i : Int) ≤ 1000000 := by omega
  obtain ⟨F, hF⟩ : ∃ F, flt (dfs (wof L)) (dfs (wof (L.take i))) T = F := ⟨_, rfl⟩
  rw [hF]
  rcases hd : defN T with _ | N
  · rw [hd, optV_no] at cD
    rcases hr : refN T with _ | M
    · rw [hr, optV_no] at cR
      have hF2 : F = if codeB T = true then 0 else 3 := by rw [← hF]; unfold flt; rw [hd, hr]
      obtain ⟨q, hq⟩ : ∃ q, codeB T = q := ⟨_, rfl⟩
      rw [hq] at cC hF2
      subst hF2
      replace cD := Lib.hid cD
      replace cR := Lib.hid cR
      replace cC := Lib.hid cC
      clear hq hF hr hd cDx hget hfit hS hST hSz hTl hi h hf hL hbl0 g1
      cases q
      all_goals
        go_enter Tryd.func32, Tryd.ntmps32
        go_wp2_with fail
        refine (cD.out _).mono ?_
        rintro e w1 ⟨rfl, rfl⟩
        go_wp2_with fail
        refine (cR.out _).mono ?_
        rintro e w1 ⟨rfl, rfl⟩
        go_wp2_with fail
        refine (cC.out _).mono ?_
        rintro e w1 ⟨rfl, rfl⟩
        go_wp2
        first | go_ret | skip
        exact ⟨rfl, rfl⟩
    · rw [hr, optV_some] at cR
      have hF2 : F = if M ∈ dfs (wof L) then 0 else 7 := by rw [← hF]; unfold flt; rw [hd, hr]
      have hyes := Lib.hid (fun (j : Nat) (u : Tok) (hj : L[j]? = some u) (e : defN u.1 = some M) => show F = 0 by rw [hF2, if_pos (dfs_hit_all hj e)])
      have hno := Lib.hid (fun (hh : ∀ (j : Nat) (u : Tok), j < n → L[j]? = some u → defN u.1 ≠ some M) => show F = 7 by
        rw [hF2, if_neg (dfs_miss_all (fun j u hj => hh j u (by have := (List.getElem?_eq_some_iff.1 hj).1; omega) hj))])
      obtain ⟨SN, hSN⟩ : ∃ S : ByteArray, ⟨M.toArray⟩ = S := ⟨_, rfl⟩
      have hSNl : M = SN.data.toList := by rw [← hSN]
      rw [hSN] at cR
      have hcmp := Lib.hid (fun (m : List UInt8) => show ((⟨m.toArray⟩ : ByteArray).toList == SN.toList) = decide (m = M) by rw [str_inj2, hSNl])
      replace cD := Lib.hid cD
      replace cR := Lib.hid cR
      clear hF hF2 hr hd hS hST hSz hTl hi h hf hL hSN hSNl hbl0 g1 cC
      go_enter Tryd.func32, Tryd.ntmps32
      go_wp2_with fail
      refine (cD.out _).mono ?_
      rintro e w1 ⟨rfl, rfl⟩
      go_wp2_with fail
      refine (cR.out _).mono ?_
      rintro e w1 ⟨rfl, rfl⟩
      go_wp2
      clear cD cR
      go_loop [10] (fun iv => ∃ (k : Nat), iv = .int .i64 (k : Int) ∧ k ≤ n ∧ Hid (∀ (j : Nat) (u : Tok), j < k → L[j]? = some u → defN u.1 ≠ some M)) (fun iv => n - (intOf iv).toNat)
      case atStart => exact ⟨0, rfl, Nat.zero_le _, Lib.hid (fun j u hj => by omega)⟩
      case round =>
        obtain ⟨k, rfl, hk, hI⟩ := hrel
        by_cases hlt : k < n
        · have dk : decide ((k : Int) < (n : Int)) = true := decide_eq_true (by omega)
          have k0 : (0 : Int) ≤ (k : Int) := by omega
          have k1 : (k : Int) < (n : Int) := by omega
          have k2 : (k : Int) ≤ 1000000 := by omega
          obtain ⟨U, lu, b, o, hU, hbo, _, g3, g4⟩ := hget.out k hlt
          injection hbo with hbo
          injection hbo with hb1 hb2 _
          subst hb1 hb2
          have c1 := cDx.out U (hfit.out _ (List.mem_of_getElem? hU))
          have hy := fun e => hyes.out k _ hU e
          have hI2 : defN U ≠ some M → ∀ (j : Nat) (u : Tok), j < k + 1 → L[j]? = some u → defN u.1 ≠ some M := fun e j u hj hu => by
            by_cases e2 : j = k
            · subst e2
              rw [hU] at hu
              injection hu with hu
              rw [← hu]
              exact e
            · exact hI.out j u (by omega) hu
          unfold strV at g3
          obtain ⟨SU, hSU⟩ : ∃ S : ByteArray, ⟨U.toArray⟩ = S := ⟨_, rfl⟩
          rw [hSU] at g3 c1
          rcases opt_test (defN U) M with e | ⟨m, e, hm⟩ | e
          · have hf := Lib.hid (hy e)
            rw [e, optV_some] at c1
            have hc := hcmp.out M
            rw [decide_eq_true rfl] at hc
            obtain ⟨SM, hSM⟩ : ∃ S : ByteArray, ⟨M.toArray⟩ = S := ⟨_, rfl⟩
            rw [hSM] at c1 hc
            replace c1 := Lib.hid c1
            clear hy hI2 hI e hU hSU hSM hyes hno hget hfit cDx hcmp g4
            go_wp2_with fail
            refine (c1.out _).mono ?_
            rintro e w1 ⟨rfl, rfl⟩
            go_wp2
            first | go_ret | skip
            exact ⟨by rw [hf.out]; rfl, rfl⟩
          · have hf := Lib.hid (hI2 (by rw [e]; intro h; injection h with h; exact hm h))
            rw [e, optV_some] at c1
            have hc := hcmp.out m
            rw [decide_eq_false hm] at hc
            obtain ⟨SM, hSM⟩ : ∃ S : ByteArray, ⟨m.toArray⟩ = S := ⟨_, rfl⟩
            rw [hSM] at c1 hc
            replace c1 := Lib.hid c1
            clear hy hI2 hI e hU hSU hSM hm g4
            go_wp2_with fail
            refine (c1.out _).mono ?_
            rintro e w1 ⟨rfl, rfl⟩
            go_wp2
            go_round
            case rel => exact ⟨k + 1, by go_num, by omega, hf⟩
            case measure => simp [intOf]; omega
          · have hf := Lib.hid (hI2 (by rw [e]; intro h; cases h))
            rw [e, optV_no] at c1
            replace c1 := Lib.hid c1
            clear hy hI2 hI e hU hSU g4
            go_wp2_with fail
            refine (c1.out _).mono ?_
            rintro e w1 ⟨rfl, rfl⟩
            go_wp2
            go_round
            case rel => exact ⟨k + 1, by go_num, by omega, hf⟩
            case measure => simp [intOf]; omega
        · obtain rfl : k = n := by omega
          have dk : decide ((k : Int) < (k : Int)) = false := decide_eq_false (by omega)
          have hf := Lib.hid (hno.out hI.out)
          clear hI hyes hno hget hfit cDx hcmp
          go_wp2
          first | go_ret | skip
          exact ⟨by rw [hf.out]; rfl, rfl⟩
  · rw [hd, optV_some] at cD
    have hF2 : F = if N ∈ dfs (wof (L.take i)) then 8 else 0 := by rw [← hF]; unfold flt; rw [hd]
    have hyes := Lib.hid (fun (j : Nat) (u : Tok) (hji : j < i) (hj : L[j]? = some u) (e : defN u.1 = some N) => show F = 8 by rw [hF2, if_pos (dfs_hit hj e hji)])
    have hno := Lib.hid (fun (hh : ∀ (j : Nat) (u : Tok), j < i → L[j]? = some u → defN u.1 ≠ some N) => show F = 0 by rw [hF2, if_neg (dfs_miss hh)])
    obtain ⟨SN, hSN⟩ : ∃ S : ByteArray, ⟨N.toArray⟩ = S := ⟨_, rfl⟩
    have hSNl : N = SN.data.toList := by rw [← hSN]
    rw [hSN] at cD
    have hcmp := Lib.hid (fun (m : List UInt8) => show ((⟨m.toArray⟩ : ByteArray).toList == SN.toList) = decide (m = N) by rw [str_inj2, hSNl])
    replace cD := Lib.hid cD
    clear hF hF2 hd hS hST hSz hTl hi h hf hL hSN hSNl hbl0 g1 cC cR
    go_enter Tryd.func32, Tryd.ntmps32
    go_wp2_with fail
    refine (cD.out _).mono ?_
    rintro e w1 ⟨rfl, rfl⟩
    go_wp2
    clear cD
    go_loop [7] (fun iv => ∃ (k : Nat), iv = .int .i64 (k : Int) ∧ k ≤ i ∧ Hid (∀ (j : Nat) (u : Tok), j < k → L[j]? = some u → defN u.1 ≠ some N)) (fun iv => i - (intOf iv).toNat)
    case atStart => exact ⟨0, rfl, Nat.zero_le _, Lib.hid (fun j u hj => by omega)⟩
    case round =>
      obtain ⟨k, rfl, hk, hI⟩ := hrel
      by_cases hlt : k < i
      · have dk : decide ((k : Int) < (i : Int)) = true := decide_eq_true (by omega)
        have dk2 : decide (k < i) = true := decide_eq_true hlt
        have k0 : (0 : Int) ≤ (k : Int) := by omega
        have k1 : (k : Int) < (n : Int) := by omega
        have k2 : (k : Int) ≤ 1000000 := by omega
        obtain ⟨U, lu, b, o, hU, hbo, _, g3, g4⟩ := hget.out k (by omega)
        injection hbo with hbo
        injection hbo with hb1 hb2 _
        subst hb1 hb2
        have c1 := cDx.out U (hfit.out _ (List.mem_of_getElem? hU))
        have hy := fun e => hyes.out k _ hlt hU e
        have hI2 : defN U ≠ some N → ∀ (j : Nat) (u : Tok), j < k + 1 → L[j]? = some u → defN u.1 ≠ some N := fun e j u hj hu => by
          by_cases e2 : j = k
          · subst e2
            rw [hU] at hu
            injection hu with hu
            rw [← hu]
            exact e
          · exact hI.out j u (by omega) hu
        unfold strV at g3
        obtain ⟨SU, hSU⟩ : ∃ S : ByteArray, ⟨U.toArray⟩ = S := ⟨_, rfl⟩
        rw [hSU] at g3 c1
        rcases opt_test (defN U) N with e | ⟨m, e, hm⟩ | e
        · have hf := Lib.hid (hy e)
          rw [e, optV_some] at c1
          have hc := hcmp.out N
          rw [decide_eq_true rfl] at hc
          obtain ⟨SM, hSM⟩ : ∃ S : ByteArray, ⟨N.toArray⟩ = S := ⟨_, rfl⟩
          rw [hSM] at c1 hc
          replace c1 := Lib.hid c1
          clear hy hI2 hI e hU hSU hSM hyes hno hget hfit cDx hcmp g4
          go_wp2_with fail
          refine (c1.out _).mono ?_
          rintro e w1 ⟨rfl, rfl⟩
          go_wp2
          first | go_ret | skip
          exact ⟨by rw [hf.out]; rfl, rfl⟩
        · have hf := Lib.hid (hI2 (by rw [e]; intro h; injection h with h; exact hm h))
          rw [e, optV_some] at c1
          have hc := hcmp.out m
          rw [decide_eq_false hm] at hc
          obtain ⟨SM, hSM⟩ : ∃ S : ByteArray, ⟨m.toArray⟩ = S := ⟨_, rfl⟩
          rw [hSM] at c1 hc
          replace c1 := Lib.hid c1
          clear hy hI2 hI e hU hSU hSM hm g4
          go_wp2_with fail
          refine (c1.out _).mono ?_
          rintro e w1 ⟨rfl, rfl⟩
          go_wp2
          go_round
          case rel => exact ⟨k + 1, by go_num, by omega, hf⟩
          case measure => simp [intOf]; omega
        · have hf := Lib.hid (hI2 (by rw [e]; intro h; cases h))
          rw [e, optV_no] at c1
          replace c1 := Lib.hid c1
          clear hy hI2 hI e hU hSU g4
          go_wp2_with fail
          refine (c1.out _).mono ?_
          rintro e w1 ⟨rfl, rfl⟩
          go_wp2
          go_round
          case rel => exact ⟨k + 1, by go_num, by omega, hf⟩
          case measure => simp [intOf]; omega
      · obtain rfl : k = i := by omega
        have dk : decide ((k : Int) < (k : Int)) = false := decide_eq_false (by omega)
        have hf := Lib.hid (hno.out hI.out)
        clear hI hyes hno hget hfit cDx hcmp
        go_wp2
        first | go_ret | skip
        exact ⟨by rw [hf.out]; rfl, rfl⟩
end Go.Proofs.YthmgocjmfhpafaaDoor.A18
