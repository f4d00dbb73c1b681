/- The contracts of the reference's isDigit, isSign, Name, code, defines, refers, join, address, six (layer 18). -/
import Derived.Test.YthmgocjmfhpafaaDoorA18Own3
namespace Go.Proofs.YthmgocjmfhpafaaDoor.A18
set_option maxRecDepth 100000
open Go.RowKit Mem
set_option linter.unusedVariables false
set_option linter.unusedSimpArgs false

set_option maxHeartbeats 2000000 in
theorem rdigit_any (c : UInt8) (w : World) : Calls Tryd.prog 39 #[.int .u8 (c.toNat : Int)] w fun e w' => e = .returned (.bool (isDg c)) ∧ w = w' := by
  unfold isDg
  obtain ⟨m, hm⟩ : ∃ m, c.toNat = m := ⟨_, rfl⟩
  rw [hm]
  clear hm
  by_cases h1 : 48 ≤ m
  · have t1 : decide ((48 : Int) ≤ (m : Int)) = true := decide_eq_true (by omega)
    by_cases h2 : m ≤ 57
    · have t2 : decide ((m : Int) ≤ 57) = true := decide_eq_true (by omega)
      rw [decide_eq_true h1, decide_eq_true h2]
      clear h1 h2
      go_enter Tryd.func39, Tryd.ntmps39
      go_wp2
      first | go_ret | skip
      exact ⟨rfl, rfl⟩
    · have t2 : decide ((m : Int) ≤ 57) = false := decide_eq_false (by omega)
      rw [decide_eq_true h1, decide_eq_false h2]
      clear h1 h2
      go_enter Tryd.func39, Tryd.ntmps39
      go_wp2
      first | go_ret | skip
      exact ⟨rfl, rfl⟩
  · have t1 : decide ((48 : Int) ≤ (m : Int)) = false := decide_eq_false (by omega)
    rw [decide_eq_false h1]
    clear h1
    go_enter Tryd.func39, Tryd.ntmps39
    go_wp2
    first | go_ret | skip
    exact ⟨rfl, rfl⟩
theorem sg_at (k : Nat) (h : k < 15) : (ByteArray.mk #[43, 45, 42, 47, 37, 94, 60, 64, 33, 63, 58, 59, 44, 46, 36])[k]'h = sgs[k]'h := rfl
set_option maxHeartbeats 4000000 in
theorem rsign_any (c : UInt8) (w : World) : Calls Tryd.prog 40 #[.int .u8 (c.toNat : Int)] w fun e w' => e = .returned (.bool (isSg c)) ∧ w = w' := by
  obtain ⟨r, hr⟩ : ∃ r, isSg c = r := ⟨_, rfl⟩
  have hyes := Lib.hid (fun (k : Nat) (hk : k < 15) (e : sgs[k]'hk = c) => show r = true by rw [← hr, ← e]; unfold isSg; rw [List.contains_iff_mem]; exact List.getElem_mem _)
  have hno := Lib.hid (fun (h : ∀ k (hk : k < 15), sgs[k]'hk ≠ c) => show r = false by
    rw [← hr]
    rcases e : isSg c with _ | _
    · rfl
    · exfalso
      unfold isSg at e
      rw [List.contains_iff_mem] at e
      obtain ⟨k, hk, e⟩ := List.getElem_of_mem e
      exact h k hk e)
  rw [hr]
  clear hr
  go_enter Tryd.func40, Tryd.ntmps40
  go_wp2
  go_loop [3] (fun iv => ∃ (k : Nat), iv = .int .i64 (k : Int) ∧ k ≤ 15 ∧ Hid (∀ j (hj : j < 15), j < k → sgs[j]'hj ≠ c)) (fun iv => 15 - (intOf iv).toNat)
  case atStart => exact ⟨0, rfl, by decide, Lib.hid (fun j _ h => by omega)⟩
  case round =>
    obtain ⟨k, rfl, hk, hI⟩ := hrel
    by_cases hlt : k < 15
    · have dk : decide ((k : Int) < 15) = true := decide_eq_true (by omega)
      have k0 : (0 : Int) ≤ (k : Int) := by omega
      have k1 : (k : Int) < 15 := by omega
      have hlt2 : k < (ByteArray.mk #[43, 45, 42, 47, 37, 94, 60, 64, 33, 63, 58, 59, 44, 46, 36]).size := hlt
      have ht : ((((ByteArray.mk #[43, 45, 42, 47, 37, 94, 60, 64, 33, 63, 58, 59, 44, 46, 36])[k]'hlt2).toNat : Int) == (c.toNat : Int)) = decide (sgs[k]'hlt = c) := by
        rw [sg_at k hlt, Bool.eq_iff_iff, beq_iff_eq, decide_eq_true_eq]
        constructor
        · intro h; exact UInt8.toNat_inj.1 (by omega)
        · intro h; rw [h]
      obtain ⟨u, hu⟩ : ∃ u : UInt8, (ByteArray.mk #[43, 45, 42, 47, 37, 94, 60, 64, 33, 63, 58, 59, 44, 46, 36])[k]'hlt2 = u := ⟨_, rfl⟩
      have hrun : ∀ W : World, (Instr.index 9 (.string ⟨#[43, 45, 42, 47, 37, 94, 60, 64, 33, 63, 58, 59, 44, 46, 36]⟩) (.int .i64 (k : Int))).run Tryd.prog W = .ok (.int .u8 (u.toNat : Int)) W := fun W => by
        rw [← hu]
        go_simp
      by_cases e : sgs[k]'hlt = c
      · rw [decide_eq_true e, hu] at ht
        have hf := Lib.hid (hyes.out k hlt e)
        clear hyes hno hI e hu
        go_wp2
        first | go_ret | skip
        exact ⟨ret_bool hf.out.symm, rfl⟩
      · rw [decide_eq_false e, hu] at ht
        have hI2 := Lib.hid (show ∀ j (hj : j < 15), j < k + 1 → sgs[j]'hj ≠ c from fun j hj h => by
          by_cases e2 : j = k
          · subst e2; exact e
          · exact hI.out j hj (by omega))
        clear hyes hno hI e hu
        go_wp2
        go_round
        case rel => exact ⟨k + 1, by go_num, by omega, hI2⟩
        case measure => simp [intOf]; omega
    · obtain rfl : k = 15 := by omega
      have hf := Lib.hid (hno.out (fun j hj => hI.out j hj hj))
      clear hyes hno hI
      go_wp2
      first | go_ret | skip
      exact ⟨ret_bool hf.out.symm, rfl⟩
/-! ### Name -/
theorem name_bad {l : List UInt8} {c : UInt8} (hc : c ∈ l) (h : isNm c = false) : nameB l = false := by
  unfold nameB
  have : l.all isNm = false := by
    rw [List.all_eq_false]
    exact ⟨c, hc, by rw [h]; simp⟩
  rw [this, Bool.and_false]
theorem name_bad0 {l : List UInt8} (h0 : 0 < l.length) (h : isLt l[0] = false) : nameB l = false := by
  unfold nameB
  have : (l.take 1).all isLt = false := by
    rw [List.all_eq_false]
    exact ⟨l[0], by rw [List.take_succ_eq_append_getElem h0]; simp, by rw [h]; simp⟩
  rw [this, Bool.and_false, Bool.false_and]
theorem name_good {l : List UInt8} (h0 : ∀ (h : 0 < l.length), isLt l[0] = true) (h : ∀ c ∈ l, isNm c = true) : nameB l = (decide (l ≠ []) && decide (l.length ≤ 40)) := by
  unfold nameB
  have h1 : l.all isNm = true := List.all_eq_true.2 h
  have h2 : (l.take 1).all isLt = true := by
    rw [List.all_eq_true]
    intro c hc
    by_cases hl : 0 < l.length
    · rw [List.take_succ_eq_append_getElem hl] at hc
      simp at hc
      rw [hc]
      exact h0 hl
    · have : l = [] := List.eq_nil_of_length_eq_zero (by omega)
      subst this
      simp at hc
  rw [h1, h2, Bool.and_true, Bool.and_true]
theorem lt_nm {c : UInt8} (h : isLt c = true) : isNm c = true := by unfold isNm; rw [h]; rfl
set_option maxHeartbeats 8000000 in
theorem rName_any (s : ByteArray) (hs : s.size ≤ 1000000) (w : World) : Calls Tryd.prog 91 #[.string s] w fun e w' => e = .returned (.bool (nameB s.data.toList)) ∧ w = w' := by
  have hn : s.data.toList.length = s.size := by simp
  obtain ⟨r, hr⟩ : ∃ r, nameB s.data.toList = r := ⟨_, rfl⟩
  have hb := Lib.hid (fun (k : Nat) (hk : k < s.size) (h : isNm s[k] = false) => show r = false by rw [← hr]; exact name_bad (c := s[k]) (by rw [← ba_get s k hk]; exact List.getElem_mem _) h)
  have hb0 := Lib.hid (fun (hk : 0 < s.size) (h : isLt s[0] = false) => show r = false by rw [← hr]; exact name_bad0 (by omega) (by rw [ba_get s 0 hk]; exact h))
  have hg := Lib.hid (fun (h0 : ∀ (h : 0 < s.size), isLt s[0] = true) (h : ∀ j (hj : j < s.size), isNm s[j] = true) => show r = (decide (s.data.toList ≠ []) && decide (s.size ≤ 40)) by
    rw [← hr, name_good (fun h => by rw [ba_get s 0 (by omega)]; exact h0 (by omega)) (fun c hc => by
      obtain ⟨j, hj, rfl⟩ := List.getElem_of_mem hc
      rw [ba_get s j (by omega)]
      exact h j (by omega)), hn])
  have cD := Lib.hid rdigit_any
  rw [hr]
  clear hr hn
  go_enter Tryd.func91, Tryd.ntmps91
  go_wp2
  go_loop [3] (fun iv => ∃ (k : Nat), iv = .int .i64 (k : Int) ∧ k ≤ s.size ∧ Hid (∀ j (hj : j < s.size), j < k → isNm s[j] = true) ∧ Hid (∀ (h : 0 < s.size), 0 < k → isLt s[0] = true)) (fun iv => s.size - (intOf iv).toNat)
  case atStart => exact ⟨0, rfl, Nat.zero_le _, Lib.hid (fun j _ h => by omega), Lib.hid (fun _ h => by omega)⟩
  case round =>
    obtain ⟨k, rfl, hk, hI, hJ⟩ := hrel
    by_cases hlt : k < s.size
    · have dk : decide ((k : Int) < (s.size : Int)) = true := decide_eq_true (by omega)
      have dk2 : decide (k < s.size) = true := decide_eq_true hlt
      have k0 : (0 : Int) ≤ (k : Int) := by omega
      have k1 : (k : Int) < (s.size : Int) := by omega
      have k2 : (k : Int) ≤ 1000000 := by omega
      have hbk := hb.out k hlt
      have c1 := cD.out s[k]
      have t95 := tsn s[k] 95 (by decide)
      rw [show ((95 : Nat) : Int) = 95 from rfl, show UInt8.ofNat 95 = 95 from rfl] at t95
      have nextI : isNm s[k] = true → ∀ j (hj : j < s.size), j < k + 1 → isNm s[j] = true := fun h j hj h1 => by
        by_cases e2 : j = k
        · subst e2; exact h
        · exact hI.out j hj (by omega)
      have nextJ : (k = 0 → isLt s[k] = true) → ∀ (h : 0 < s.size), 0 < k + 1 → isLt s[0] = true := fun h h0 _ => by
        by_cases e2 : k = 0
        · subst e2; exact h rfl
        · exact hJ.out h0 (by omega)
      have hb0k : k = 0 → isLt s[k] = false → r = false := fun e h => by subst e; exact hb0.out hlt h
      obtain ⟨c, hc⟩ : ∃ c, s[k] = c := ⟨_, rfl⟩
      rw [hc] at hbk c1 t95 nextI nextJ hb0k
      have hlt97 : isLt c = (decide (97 ≤ c.toNat) && decide (c.toNat ≤ 122)) := rfl
      obtain ⟨m, hm⟩ : ∃ m, c.toNat = m := ⟨_, rfl⟩
      rw [hm] at t95 c1 hlt97
      by_cases m1 : 97 ≤ m ∧ m ≤ 122
      · have u1 : decide ((97 : Int) ≤ (m : Int)) = true := decide_eq_true (by omega)
        have u2 : decide ((m : Int) ≤ 122) = true := decide_eq_true (by omega)
        have hL : isLt c = true := by rw [hlt97, decide_eq_true m1.1, decide_eq_true m1.2]; rfl
        have nI := Lib.hid (nextI (lt_nm hL))
        have nJ := Lib.hid (nextJ (fun _ => hL))
        clear hbk c1 t95 nextI nextJ hb0k hlt97 m1 hL hI hJ hb hb0 hg cD
        go_wp2
        go_round
        case rel => exact ⟨k + 1, by go_num, by omega, nI, nJ⟩
        case measure => simp [intOf]; omega
      · have hL : isLt c = false := by
          rw [hlt97]
          by_cases e : 97 ≤ m
          · rw [decide_eq_false (show ¬ m ≤ 122 by omega), Bool.and_false]
          · rw [decide_eq_false e, Bool.false_and]
        have us : (decide ((97 : Int) ≤ (m : Int)) = true ∧ decide ((m : Int) ≤ 122) = false) ∨ decide ((97 : Int) ≤ (m : Int)) = false := by
          by_cases e : 97 ≤ m
          · exact .inl ⟨decide_eq_true (by omega), decide_eq_false (by omega)⟩
          · exact .inr (decide_eq_false (by omega))
        by_cases hk0 : k = 0
        · have hf := Lib.hid (hb0k hk0 hL)
          have z1 : ((k : Int) == 0) = true := by simpa using hk0
          clear hbk c1 t95 nextI nextJ hb0k hlt97 m1 hL hI hJ hb hb0 hg cD hk0
          rcases us with ⟨u1, u2⟩ | u1
          all_goals
            go_wp2
            first | go_ret | skip
            exact ⟨ret_bool hf.out.symm, rfl⟩
        · have z1 : ((k : Int) == 0) = false := by simpa using hk0
          have nJ := Lib.hid (nextJ (fun e => absurd e hk0))
          rcases x1 : isDg c with _ | _
          · rw [x1] at c1
            rcases x2 : (c == 95) with _ | _
            · rw [x2] at t95
              have t95 : ((m : Int) != 95) = true := t95
              have hf := Lib.hid (hbk (by unfold isNm; rw [hL, x1, x2]; rfl))
              have c1 := Lib.hid c1
              clear hbk nextI nextJ hb0k hlt97 m1 hL hI hJ hb hb0 hg cD hk0 nJ
              rcases us with ⟨u1, u2⟩ | u1
              all_goals
                go_wp2_with fail
                refine (c1.out _).mono ?_
                rintro e w1 ⟨rfl, rfl⟩
                go_wp2
                first | go_ret | skip
                exact ⟨ret_bool hf.out.symm, rfl⟩
            · rw [x2] at t95
              have t95 : ((m : Int) != 95) = false := t95
              have nI := Lib.hid (nextI (by unfold isNm; rw [x2]; simp))
              have c1 := Lib.hid c1
              clear hbk nextI nextJ hb0k hlt97 m1 hL hI hJ hb hb0 hg cD hk0
              rcases us with ⟨u1, u2⟩ | u1
              all_goals
                go_wp2_with fail
                refine (c1.out _).mono ?_
                rintro e w1 ⟨rfl, rfl⟩
                go_wp2
                go_round
                case rel => exact ⟨k + 1, by go_num, by omega, nI, nJ⟩
                case measure => simp [intOf]; omega
          · rw [x1] at c1
            have nI := Lib.hid (nextI (by unfold isNm; rw [x1]; simp))
            have c1 := Lib.hid c1
            clear hbk nextI nextJ hb0k hlt97 m1 hL hI hJ hb hb0 hg cD hk0 t95
            rcases us with ⟨u1, u2⟩ | u1
            all_goals
              go_wp2_with fail
              refine (c1.out _).mono ?_
              rintro e w1 ⟨rfl, rfl⟩
              go_wp2
              go_round
              case rel => exact ⟨k + 1, by go_num, by omega, nI, nJ⟩
              case measure => simp [intOf]; omega
    · obtain rfl : k = s.size := by omega
      have dk : decide ((s.size : Int) < (s.size : Int)) = false := decide_eq_false (by omega)
      have hf := hg.out (fun h => hJ.out h h) (fun j hj => hI.out j hj hj)
      by_cases h0 : s.size = 0
      · obtain rfl := str_empty h0
        replace hf := Lib.hid (show r = false by rw [hf]; rfl)
        clear hI hJ hb hb0 hg h0
        go_wp2
        first | go_ret | skip
        exact ⟨ret_bool hf.out.symm, rfl⟩
      · obtain ⟨e1, e2, e3⟩ := str_ne h0
        rw [decide_eq_true (show s.data.toList ≠ [] by rw [← str_toList]; exact e3), Bool.true_and] at hf
        by_cases h40 : s.size ≤ 40
        · have d1 : decide ((s.size : Int) ≤ 40) = true := decide_eq_true (by omega)
          rw [decide_eq_true h40] at hf
          replace hf := Lib.hid hf
          clear hI hJ hb hb0 hg h0 h40
          go_wp2
          first | go_ret | skip
          exact ⟨ret_bool hf.out.symm, rfl⟩
        · have d1 : decide ((s.size : Int) ≤ 40) = false := decide_eq_false (by omega)
          rw [decide_eq_false h40] at hf
          replace hf := Lib.hid hf
          clear hI hJ hb hb0 hg h0 h40
          go_wp2
          first | go_ret | skip
          exact ⟨ret_bool hf.out.symm, rfl⟩
/-! ### code -/
theorem code_bad {l : List UInt8} {c : UInt8} (hc : c ∈ l) (h : isIn c = false) : codeB l = false := by
  unfold codeB
  have : l.all isIn = false := by
    rw [List.all_eq_false]
    exact ⟨c, hc, by rw [h]; simp⟩
  rw [this, Bool.and_false]
set_option maxHeartbeats 8000000 in
theorem rcode_any (s : ByteArray) (hs : s.size ≤ 1000000) (w : World) : Calls Tryd.prog 66 #[.string s] w fun e w' => e = .returned (.bool (codeB s.data.toList)) ∧ w = w' := by
  have hn : s.data.toList.length = s.size := by simp
  obtain ⟨r, hr⟩ : ∃ r, codeB s.data.toList = r := ⟨_, rfl⟩
  have hb := Lib.hid (fun (k : Nat) (hk : k < s.size) (h : isIn s[k] = false) => show r = false by rw [← hr]; exact code_bad (c := s[k]) (by rw [← ba_get s k hk]; exact List.getElem_mem _) h)
  have hg := Lib.hid (fun (h : ∀ j (hj : j < s.size), isIn s[j] = true) => show r = decide (s.data.toList ≠ []) by
    rw [← hr]
    unfold codeB
    have : s.data.toList.all isIn = true := List.all_eq_true.2 (fun c hc => by
      obtain ⟨j, hj, rfl⟩ := List.getElem_of_mem hc
      rw [ba_get s j (by omega)]
      exact h j (by omega))
    rw [this, Bool.and_true])
  have cD := Lib.hid rdigit_any
  have cS := Lib.hid rsign_any
  rw [hr]
  clear hr hn
  go_enter Tryd.func66, Tryd.ntmps66
  go_wp2
  go_loop [3] (fun iv => ∃ (k : Nat), iv = .int .i64 (k : Int) ∧ k ≤ s.size ∧ Hid (∀ j (hj : j < s.size), j < k → isIn s[j] = true)) (fun iv => s.size - (intOf iv).toNat)
  case atStart => exact ⟨0, rfl, Nat.zero_le _, Lib.hid (fun j _ h => by omega)⟩
  case round =>
    obtain ⟨k, rfl, hk, hI⟩ := hrel
    by_cases hlt : k < s.size
    · have dk : decide ((k : Int) < (s.size : Int)) = true := decide_eq_true (by omega)
      have dk2 : decide (k < s.size) = true := decide_eq_true hlt
      have k0 : (0 : Int) ≤ (k : Int) := by omega
      have k1 : (k : Int) < (s.size : Int) := by omega
      have k2 : (k : Int) ≤ 1000000 := by omega
      have hbk := hb.out k hlt
      have c1 := cD.out s[k]
      have c2 := cS.out s[k]
      have nextI : isIn s[k] = true → ∀ j (hj : j < s.size), j < k + 1 → isIn s[j] = true := fun h j hj h1 => by
        by_cases e2 : j = k
        · subst e2; exact h
        · exact hI.out j hj (by omega)
      obtain ⟨c, hc⟩ : ∃ c, s[k] = c := ⟨_, rfl⟩
      rw [hc] at hbk c1 c2 nextI
      rcases x1 : isDg c with _ | _
      · rw [x1] at c1
        rcases x2 : isSg c with _ | _
        · rw [x2] at c2
          have hf := Lib.hid (hbk (by unfold isIn; rw [x1, x2]; rfl))
          have c1 := Lib.hid c1
          have c2 := Lib.hid c2
          clear hbk nextI hI hb hg cD cS x1 x2
          go_wp2_with fail
          refine (c1.out _).mono ?_
          rintro e w1 ⟨rfl, rfl⟩
          go_wp2_with fail
          refine (c2.out _).mono ?_
          rintro e w1 ⟨rfl, rfl⟩
          go_wp2
          first | go_ret | skip
          exact ⟨ret_bool hf.out.symm, rfl⟩
        · rw [x2] at c2
          have nI := Lib.hid (nextI (by unfold isIn; rw [x2]; simp))
          have c1 := Lib.hid c1
          have c2 := Lib.hid c2
          clear hbk nextI hI hb hg cD cS x1 x2
          go_wp2_with fail
          refine (c1.out _).mono ?_
          rintro e w1 ⟨rfl, rfl⟩
          go_wp2_with fail
          refine (c2.out _).mono ?_
          rintro e w1 ⟨rfl, rfl⟩
          go_wp2
          go_round
          case rel => exact ⟨k + 1, by go_num, by omega, nI⟩
          case measure => simp [intOf]; omega
      · rw [x1] at c1
        have nI := Lib.hid (nextI (by unfold isIn; rw [x1]; simp))
        have c1 := Lib.hid c1
        clear hbk nextI hI hb hg cD cS x1 c2
        go_wp2_with fail
        refine (c1.out _).mono ?_
        rintro e w1 ⟨rfl, rfl⟩
        go_wp2
        go_round
        case rel => exact ⟨k + 1, by go_num, by omega, nI⟩
        case measure => simp [intOf]; omega
    · obtain rfl : k = s.size := by omega
      have dk : decide ((s.size : Int) < (s.size : Int)) = false := decide_eq_false (by omega)
      have hf := hg.out (fun j hj => hI.out j hj hj)
      by_cases h0 : s.size = 0
      · obtain rfl := str_empty h0
        replace hf := Lib.hid (show r = false by rw [hf]; rfl)
        clear hI hb hg h0
        go_wp2
        first | go_ret | skip
        exact ⟨ret_bool hf.out.symm, rfl⟩
      · obtain ⟨e1, e2, e3⟩ := str_ne h0
        rw [decide_eq_true (show s.data.toList ≠ [] by rw [← str_toList]; exact e3)] at hf
        replace hf := Lib.hid hf
        clear hI hb hg h0
        go_wp2
        first | go_ret | skip
        exact ⟨ret_bool hf.out.symm, rfl⟩
/-! ### defines, refers -/
theorem last_get (s : ByteArray) (h : 0 < s.size) : s.data.toList.getLast? = some (s[s.size - 1]'(by omega)) := by
  rw [List.getLast?_eq_getElem?, List.getElem?_eq_getElem (by simp; omega)]
  congr 1
theorem head_get (s : ByteArray) (h : 0 < s.size) : s.data.toList.head? = some s[0] := by have := drop_get s 0 h; rw [List.drop_zero] at this; rw [this]; rfl
set_option maxHeartbeats 8000000 in
theorem rdefines_any (s : ByteArray) (hs : s.size ≤ 1000000) (w : World) : Calls Tryd.prog 64 #[.string s] w fun e w' => e = .returned (optV (defN s.data.toList)) ∧ w = w' := by
  by_cases h0 : s.size = 0
  · obtain rfl := str_empty h0
    go_enter Tryd.func64, Tryd.ntmps64
    go_wp2
    first | go_ret2 | skip
    exact ⟨rfl, rfl⟩
  obtain ⟨e1, e2, e3⟩ := str_ne h0
  have hp : 0 < s.size := by omega
  have hl := last_get s hp
  obtain ⟨J, hJ⟩ : ∃ J, s.size - 1 = J := ⟨_, rfl⟩
  have hJs : J < s.size := by omega
  have hl : s.data.toList.getLast? = some s[J] := by rw [hl]; simp only [hJ]
  have eJ : (s.size : Int) - 1 = (J : Int) := by omega
  have J0 : (0 : Int) ≤ (J : Int) := by omega
  have J1 : (J : Int) < (s.size : Int) := by omega
  have J2 : (J : Int) ≤ (s.size : Int) := by omega
  have J3 : J ≤ s.size := by omega
  have t58 := tsn s[J] 58 (by decide)
  rw [show ((58 : Nat) : Int) = 58 from rfl, show UInt8.ofNat 58 = 58 from rfl] at t58
  have hdl : (s.extract 0 J).data.toList = s.data.toList.dropLast := by
    rw [ext_list, List.drop_zero, List.dropLast_eq_take, show J - 0 = s.data.toList.length - 1 by simp; omega]
  by_cases h58 : s[J] = 58
  · have f58 : (s[J] == 58) = true := by simpa using h58
    rw [f58] at t58
    have t58 : ((s[J].toNat : Int) != 58) = false := t58
    have hN : (s.extract 0 J).size ≤ 1000000 := by rw [ByteArray.size_extract]; omega
    have cN := rName_any (s.extract 0 J) hN
    rw [hdl] at cN
    have hdef : defN s.data.toList = if nameB s.data.toList.dropLast = true then some s.data.toList.dropLast else none := by
      unfold defN
      rw [hl, h58]
      by_cases h2 : nameB s.data.toList.dropLast = true
      · rw [if_pos ⟨rfl, h2⟩, if_pos h2]
      · rw [if_neg (fun h => h2 h.2), if_neg h2]
    rw [hdef]
    have hst : strV s.data.toList.dropLast = .string (s.extract 0 J) := by unfold strV; rw [str_of _ _ hdl]
    rcases hb : nameB s.data.toList.dropLast with _ | _
    · rw [hb] at cN
      rw [if_neg (by simp)]
      have cN := Lib.hid cN
      clear hdef hdl hN hst hb h58 f58 hl hJ h0
      go_enter Tryd.func64, Tryd.ntmps64
      go_wp2_with fail
      refine (cN.out _).mono ?_
      rintro e w1 ⟨rfl, rfl⟩
      go_wp2
      first | go_ret2 | skip
      exact ⟨rfl, rfl⟩
    · rw [hb] at cN
      rw [if_pos rfl]
      have cN := Lib.hid cN
      have hfin := Lib.hid (show optV (some s.data.toList.dropLast) = .tuple #[.string (s.extract 0 J), .bool true] by unfold optV; rw [← hst]; rfl)
      clear hdef hdl hN hst hb h58 f58 hl hJ h0
      go_enter Tryd.func64, Tryd.ntmps64
      go_wp2_with fail
      refine (cN.out _).mono ?_
      rintro e w1 ⟨rfl, rfl⟩
      go_wp2
      first | go_ret2 | skip
      exact ⟨by rw [hfin.out]; rfl, rfl⟩
  · have f58 : (s[J] == 58) = false := by simpa using h58
    rw [f58] at t58
    have t58 : ((s[J].toNat : Int) != 58) = true := t58
    have hdef : defN s.data.toList = none := by
      unfold defN
      rw [hl, if_neg (fun h => h58 (by have := h.1; injection this))]
    rw [hdef]
    clear hdef hdl h58 f58 hl hJ h0
    go_enter Tryd.func64, Tryd.ntmps64
    go_wp2
    first | go_ret2 | skip
    exact ⟨rfl, rfl⟩
set_option maxHeartbeats 8000000 in
theorem rrefers_any (s : ByteArray) (hs : s.size ≤ 1000000) (w : World) : Calls Tryd.prog 65 #[.string s] w fun e w' => e = .returned (optV (refN s.data.toList)) ∧ w = w' := by
  by_cases h0 : s.size = 0
  · obtain rfl := str_empty h0
    go_enter Tryd.func65, Tryd.ntmps65
    go_wp2
    first | go_ret2 | skip
    exact ⟨rfl, rfl⟩
  obtain ⟨e1, e2, e3⟩ := str_ne h0
  have hp : 0 < s.size := by omega
  have hpI : (0 : Int) < (s.size : Int) := by omega
  have hp1 : (1 : Int) ≤ (s.size : Int) := by omega
  have hp1n : 1 ≤ s.size := by omega
  have hl := head_get s hp
  have t38 := tsn s[0] 38 (by decide)
  rw [show ((38 : Nat) : Int) = 38 from rfl, show UInt8.ofNat 38 = 38 from rfl] at t38
  have hdl : (s.extract 1 s.size).data.toList = s.data.toList.tail := by
    rw [ext_list, ← List.drop_one]
    exact List.take_of_length_le (by rw [List.length_drop]; simp)
  by_cases h38 : s[0] = 38
  · have f38 : (s[0] == 38) = true := by simpa using h38
    rw [f38] at t38
    have t38 : ((s[0].toNat : Int) != 38) = false := t38
    have hN : (s.extract 1 s.size).size ≤ 1000000 := by rw [ByteArray.size_extract]; omega
    have cN := rName_any (s.extract 1 s.size) hN
    rw [hdl] at cN
    have hdef : refN s.data.toList = if nameB s.data.toList.tail = true then some s.data.toList.tail else none := by
      unfold refN
      rw [hl, h38]
      by_cases h2 : nameB s.data.toList.tail = true
      · rw [if_pos ⟨rfl, h2⟩, if_pos h2]
      · rw [if_neg (fun h => h2 h.2), if_neg h2]
    rw [hdef]
    have hst : strV s.data.toList.tail = .string (s.extract 1 s.size) := by unfold strV; rw [str_of _ _ hdl]
    rcases hb : nameB s.data.toList.tail with _ | _
    · rw [hb] at cN
      rw [if_neg (by simp)]
      have cN := Lib.hid cN
      clear hdef hdl hN hst hb h38 f38 hl h0
      go_enter Tryd.func65, Tryd.ntmps65
      go_wp2_with fail
      refine (cN.out _).mono ?_
      rintro e w1 ⟨rfl, rfl⟩
      go_wp2
      first | go_ret2 | skip
      exact ⟨rfl, rfl⟩
    · rw [hb] at cN
      rw [if_pos rfl]
      have cN := Lib.hid cN
      have hfin := Lib.hid (show optV (some s.data.toList.tail) = .tuple #[.string (s.extract 1 s.size), .bool true] by unfold optV; rw [← hst]; rfl)
      clear hdef hdl hN hst hb h38 f38 hl h0
      go_enter Tryd.func65, Tryd.ntmps65
      go_wp2_with fail
      refine (cN.out _).mono ?_
      rintro e w1 ⟨rfl, rfl⟩
      go_wp2
      first | go_ret2 | skip
      exact ⟨by rw [hfin.out]; rfl, rfl⟩
  · have f38 : (s[0] == 38) = false := by simpa using h38
    rw [f38] at t38
    have t38 : ((s[0].toNat : Int) != 38) = true := t38
    have hdef : refN s.data.toList = none := by
      unfold refN
      rw [hl, if_neg (fun h => h38 (by have := h.1; injection this))]
    rw [hdef]
    clear hdef hdl h38 f38 hl h0
    go_enter Tryd.func65, Tryd.ntmps65
    go_wp2
    first | go_ret2 | skip
    exact ⟨rfl, rfl⟩
end Go.Proofs.YthmgocjmfhpafaaDoor.A18
