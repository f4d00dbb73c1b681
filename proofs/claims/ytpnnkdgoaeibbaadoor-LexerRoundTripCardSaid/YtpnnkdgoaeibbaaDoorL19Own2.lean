/- The contracts of the landed isTooLarge, number, character (layer 19). -/
import Derived.Test.YtpnnkdgoaeibbaaDoorL19Own1
import Derived.Test.YtpnnkdgoaeibbaaDoorL19Big
namespace Go.Proofs.YtpnnkdgoaeibbaaDoor.L19
set_option maxRecDepth 100000
open Go.RowKit Mem
open A18 (ba_get drop_get ext_list str_of)
open M17 (Laid Laid.below)
set_option linter.unusedVariables false
set_option linter.unusedSimpArgs false

theorem str_empty {s : ByteArray} (h : s.size = 0) : s = ByteArray.empty := by
  apply ByteArray.ext
  apply Array.eq_empty_of_size_eq_zero h
theorem str_ne {s : ByteArray} (h : ¬ s.size = 0) : s.toList.isEmpty = false ∧ (s.toList == []) = false ∧ ¬ s.toList = [] := by
  have : s.toList ≠ [] := by
    rw [str_toList]
    intro e
    apply h
    have h2 : s.data.toList.length = s.size := by simp
    rw [← h2, e]; rfl
  exact ⟨by simpa using this, beq_eq_false_iff_ne.2 this, this⟩
set_option maxHeartbeats 4000000 in
theorem isTooLarge_any (s : ByteArray) (hs : s.size ≤ 1000000) (h1 : ∀ c ∈ s.data.toList, isDg c = true) (h2 : s.data.toList ≠ []) (h3 : s.data.toList.head? = some 48 → s.data.toList = [48]) (w : World) :
    Calls Tryd.prog 35 #[.string s] w fun e w' => e = .returned (.bool (decide (4294967295 < nval s.data.toList))) ∧ w = w' := by
  have hn : s.data.toList.length = s.size := by simp
  by_cases h : s.size = 10
  · have t1 : ((s.size : Int) != 10) = false := by rw [h]; rfl
    have hb := big_lex h1 (by omega)
    rw [← str_toList] at hb
    rw [show lrg = [52, 50, 57, 52, 57, 54, 55, 50, 57, 53] from rfl] at hb
    rw [str_toList] at hb
    obtain ⟨b, hbb⟩ : ∃ b, decide (4294967295 < nval s.data.toList) = b := ⟨_, rfl⟩
    rw [hbb] at hb ⊢
    rw [← str_toList] at hb
    clear hbb h1 h2 h3 hn h
    go_enter Tryd.func35, Tryd.ntmps35
    go_wp2
    first | go_ret | skip
    exact ⟨rfl, rfl⟩
  · have t1 : ((s.size : Int) != 10) = true := bne_iff_ne.2 (by omega)
    have hb := big_len h1 h2 h3 (by omega)
    rw [hn] at hb
    rw [hb]
    have t2 : decide ((10 : Int) < (s.size : Int)) = decide (10 < s.size) := decide_eq_decide.2 (by omega)
    obtain ⟨b, hbb⟩ : ∃ b, decide (10 < s.size) = b := ⟨_, rfl⟩
    rw [hbb] at t2 ⊢
    clear hbb h1 h2 h3 hn h hb
    go_enter Tryd.func35, Tryd.ntmps35
    go_wp2
    first | go_ret | skip
    exact ⟨rfl, rfl⟩
theorem list_len (s : ByteArray) : s.data.toList.length = s.size := by simp
-- BEGIN number
theorem head_drop {l : List UInt8} {k : Nat} (h : k < l.length) : (l.drop k).head? = some l[k] := by
  rw [← List.getElem_cons_drop h]; rfl
theorem num_al {s : ByteArray} {k : Nat} (h : k < s.size) (hk : pre isDg s.data.toList = k) (ha : isAl s[k] = true) : num s.data.toList = bad 3 := by
  unfold num
  rw [hk, head_drop (by rw [list_len]; exact h), ba_get s k h]
  show (if isAl s[k] = true then _ else _) = _
  rw [if_pos ha]
theorem num_no {s : ByteArray} {k : Nat} (hk : pre isDg s.data.toList = k) (ha : ∀ h : k < s.size, isAl s[k] = false) : num s.data.toList = if 4294967295 < nval (val0 (s.data.toList.take k)) then bad 2 else good 1 (val0 (s.data.toList.take k)) k := by
  unfold num
  rw [hk]
  have : ¬ (((s.data.toList.drop k).head?.map isAl).getD false = true) := by
    by_cases h : k < s.size
    · rw [head_drop (by rw [list_len]; exact h), ba_get s k h]
      show ¬ (isAl s[k] = true)
      rw [ha h]; simp
    · rw [List.drop_of_length_le (by rw [list_len]; omega)]
      simp
  rw [if_neg this]
theorem strV_of {s : ByteArray} {l : List UInt8} (h : s.data.toList = l) : strV l = .string s := by subst h; rfl
set_option maxHeartbeats 16000000 in
theorem number_any (s : ByteArray) (hs : s.size ≤ 1000000) (w : World) : Calls Tryd.prog 26 #[.string s] w fun e w' => e = .returned (fV (num s.data.toList)) ∧ Below w.heap.size w w' := by
  have hle := pre_le isDg s.data.toList
  rw [list_len] at hle
  obtain ⟨Z, hZ⟩ : ∃ Z, pre isDg s.data.toList = Z := ⟨_, rfl⟩
  have hdg : ∀ c ∈ s.data.toList.take Z, isDg c = true := by rw [← hZ, take_pre]; exact while_mem
  have cP := Lib.hid (fun W => prefix_any isDigit_any ent_digit s hs W)
  rw [hZ] at cP hle
  obtain ⟨R, hR⟩ : ∃ R, fV (num s.data.toList) = R := ⟨_, rfl⟩
  have hy : ∀ h : Z < s.size, isAl s[Z] = true → R = fV (bad 3) := fun h ha => by rw [← hR, num_al h hZ ha]
  have hn2 : (∀ h : Z < s.size, isAl s[Z] = false) → R = fV (if 4294967295 < nval (val0 (s.data.toList.take Z)) then bad 2 else good 1 (val0 (s.data.toList.take Z)) Z) := fun ha => by rw [← hR, num_no hZ ha]
  rw [hR]
  obtain ⟨g1, g2, g3⟩ := val0_good hdg
  have cT := fun W => Tryd.strings_TrimLeft_one (s.extract 0 Z) 48 (by decide) W
  rw [ext_list, List.drop_zero, Nat.sub_zero] at cT
  have hv : val0 (s.data.toList.take Z) = if (s.data.toList.take Z).dropWhile (· == 48) = [] then [48] else (s.data.toList.take Z).dropWhile (· == 48) := rfl
  rw [show Lib.trimLeftB (s.data.toList.take Z) 48 = (s.data.toList.take Z).dropWhile (· == 48) from rfl] at cT
  have hvl := drop_while_le (· == 48) (s.data.toList.take Z)
  rw [List.length_take, list_len] at hvl
  obtain ⟨V, hV⟩ : ∃ V, (s.data.toList.take Z).dropWhile (· == 48) = V := ⟨_, rfl⟩
  rw [hV] at cT hv hvl
  replace hvl := Nat.le_trans hvl (Nat.min_le_right _ _)
  obtain ⟨U, hU⟩ : ∃ U, val0 (s.data.toList.take Z) = U := ⟨_, rfl⟩
  rw [hU] at g1 g2 g3 hv hn2
  obtain ⟨SV, hSV⟩ : ∃ S : ByteArray, ⟨V.toArray⟩ = S := ⟨_, rfl⟩
  have hSz : SV.size = V.length := by rw [← hSV, str_size]
  have hSl : SV.data.toList = V := by rw [← hSV]
  rw [hSV] at cT
  have cB : ∀ v : ByteArray, v.data.toList = U → v.size ≤ 1000000 → ∀ W, Calls Tryd.prog 35 #[.string v] W fun e w' => e = .returned (.bool (decide (4294967295 < nval U))) ∧ W = w' := fun v hv hz W => by
    have := isTooLarge_any v hz (by rw [hv]; exact g1) (by rw [hv]; exact g2) (by rw [hv]; exact g3) W
    rw [hv] at this
    exact this
  have Z0 : (0 : Int) ≤ (Z : Int) := by omega
  have Z1 : (Z : Int) ≤ (s.size : Int) := by omega
  have hSs : SV.size ≤ 1000000 := by omega
  replace cT := Lib.hid cT
  have hb0 := Lib.hid (boxed w (.cells #[.int .i64 0, .string ⟨#[]⟩, .int .i64 0] 33))
  have hk0 := Lib.hid (Blk.new w 33 [.int .i64 0, .string ⟨#[]⟩, .int .i64 0])
  replace hn2 := Lib.hid hn2
  clear g1 g2 g3 hR hdg hZ hV hU hvl hSV
  by_cases hlt : Z < s.size
  · have dk : decide ((Z : Int) < (s.size : Int)) = true := decide_eq_true (by omega)
    have dk2 : decide (Z < s.size) = true := decide_eq_true hlt
    have k1 : (Z : Int) < (s.size : Int) := by omega
    have cL := isLetter_any s[Z]
    have t1 := tst s[Z] 95 (by decide)
    rw [show ((95 : Nat) : Int) = 95 from rfl, show UInt8.ofNat 95 = 95 from rfl] at t1
    replace hy := hy hlt
    replace hn2 := Lib.hid (fun h : isAl s[Z] = false => hn2.out (fun _ => h))
    unfold isAl at hy hn2
    obtain ⟨c, hc⟩ : ∃ c, s[Z] = c := ⟨_, rfl⟩
    rw [hc] at cL t1 hy hn2
    rcases b1 : isLa c with _ | _ <;> rw [b1] at cL hy hn2 <;> replace cL := Lib.hid cL
    · rcases b2 : (c == 95) with _ | _ <;> rw [b2] at t1 hy hn2
      · clear b1 b2
        have hal : (false || false) = false := rfl
        have hR := hn2.out hal
        clear hn2 hal
        by_cases hz : SV.size = 0
        · obtain rfl := str_empty hz
          have hVe : V = [] := List.eq_nil_of_length_eq_zero (by omega)
          rw [if_pos hVe] at hv
          subst hv
          have c2 := Lib.hid (fun W => cB ⟨#[48]⟩ rfl (by decide) W)
          by_cases hbig : 4294967295 < nval [48]
          · rw [if_pos hbig] at hR
            rw [decide_eq_true hbig] at c2
            replace hR := Lib.hid hR
            clear cB hbig hVe hy hSz hSl
            go_enter Tryd.func26, Tryd.ntmps26
            go_wp2_with fail
            refine (cP.out _).mono ?_
            rintro e w1 ⟨rfl, rfl⟩
            go_wp2_with fail
            refine (cL.out _).mono ?_
            rintro e w1 ⟨rfl, rfl⟩
            go_wp2_with fail
            refine (cT.out _).mono ?_
            rintro e w1 ⟨rfl, rfl⟩
            go_wp2_with fail
            refine (c2.out _).mono ?_
            rintro e w1 ⟨rfl, rfl⟩
            go_wp2
            exact fst_ret (fn := Tryd.f26) (by rfl) rfl rfl rfl hk0.out ⟨by rw [hR.out]; rfl, hb0.out⟩
          · rw [if_neg hbig] at hR
            rw [decide_eq_false hbig] at c2
            have hG : fV (good 1 [48] Z) = .tuple #[.agg #[.int .i64 1, .string ⟨#[48]⟩, .int .i64 0], .int .i64 (Z : Int), .int .i64 0] := rfl
            have hbf := Lib.hid (boxed w (.cells #[.int .i64 1, .string ⟨#[48]⟩, .int .i64 0] 33))
            have hkf := Lib.hid (Blk.new w 33 [.int .i64 1, .string ⟨#[48]⟩, .int .i64 0])
            replace hG := Lib.hid (hR.trans hG)
            clear hR
            clear cB hbig hVe hy hSz hSl
            go_enter Tryd.func26, Tryd.ntmps26
            go_wp2_with fail
            refine (cP.out _).mono ?_
            rintro e w1 ⟨rfl, rfl⟩
            go_wp2_with fail
            refine (cL.out _).mono ?_
            rintro e w1 ⟨rfl, rfl⟩
            go_wp2_with fail
            refine (cT.out _).mono ?_
            rintro e w1 ⟨rfl, rfl⟩
            go_wp2_with fail
            refine (c2.out _).mono ?_
            rintro e w1 ⟨rfl, rfl⟩
            go_wp2
            exact fst_ret (fn := Tryd.f26) (by rfl) rfl rfl rfl hkf.out ⟨by rw [hG.out], hbf.out⟩
        · obtain ⟨e1, e2, e3⟩ := str_ne hz
          have hVe : ¬ V = [] := fun e => hz (by rw [hSz, e]; rfl)
          rw [if_neg hVe] at hv
          subst hv
          have c2 := Lib.hid (fun W => cB SV hSl hSs W)
          by_cases hbig : 4294967295 < nval U
          · rw [if_pos hbig] at hR
            rw [decide_eq_true hbig] at c2
            replace hR := Lib.hid hR
            clear cB hbig hVe hy hSz hSl
            go_enter Tryd.func26, Tryd.ntmps26
            go_wp2_with fail
            refine (cP.out _).mono ?_
            rintro e w1 ⟨rfl, rfl⟩
            go_wp2_with fail
            refine (cL.out _).mono ?_
            rintro e w1 ⟨rfl, rfl⟩
            go_wp2_with fail
            refine (cT.out _).mono ?_
            rintro e w1 ⟨rfl, rfl⟩
            go_wp2_with fail
            refine (c2.out _).mono ?_
            rintro e w1 ⟨rfl, rfl⟩
            go_wp2
            exact fst_ret (fn := Tryd.f26) (by rfl) rfl rfl rfl hk0.out ⟨by rw [hR.out]; rfl, hb0.out⟩
          · rw [if_neg hbig] at hR
            rw [decide_eq_false hbig] at c2
            have hG : fV (good 1 U Z) = .tuple #[.agg #[.int .i64 1, .string SV, .int .i64 0], .int .i64 (Z : Int), .int .i64 0] := by unfold fV good; dsimp only; rw [strV_of hSl]; rfl
            have hbf := Lib.hid (boxed w (.cells #[.int .i64 1, .string SV, .int .i64 0] 33))
            have hkf := Lib.hid (Blk.new w 33 [.int .i64 1, .string SV, .int .i64 0])
            replace hG := Lib.hid (hR.trans hG)
            clear hR
            clear cB hbig hVe hy hSz hSl
            go_enter Tryd.func26, Tryd.ntmps26
            go_wp2_with fail
            refine (cP.out _).mono ?_
            rintro e w1 ⟨rfl, rfl⟩
            go_wp2_with fail
            refine (cL.out _).mono ?_
            rintro e w1 ⟨rfl, rfl⟩
            go_wp2_with fail
            refine (cT.out _).mono ?_
            rintro e w1 ⟨rfl, rfl⟩
            go_wp2_with fail
            refine (c2.out _).mono ?_
            rintro e w1 ⟨rfl, rfl⟩
            go_wp2
            exact fst_ret (fn := Tryd.f26) (by rfl) rfl rfl rfl hkf.out ⟨by rw [hG.out], hbf.out⟩
      · replace hy := Lib.hid (hy rfl)
        clear b1 b2 hn2 cB hv hSz hSl cT
        go_enter Tryd.func26, Tryd.ntmps26
        go_wp2_with fail
        refine (cP.out _).mono ?_
        rintro e w1 ⟨rfl, rfl⟩
        go_wp2_with fail
        refine (cL.out _).mono ?_
        rintro e w1 ⟨rfl, rfl⟩
        go_wp2
        exact fst_ret (fn := Tryd.f26) (by rfl) rfl rfl rfl hk0.out ⟨by rw [hy.out]; rfl, hb0.out⟩
    · replace hy := Lib.hid (hy rfl)
      clear b1 t1 hn2 cB hv hSz hSl cT
      go_enter Tryd.func26, Tryd.ntmps26
      go_wp2_with fail
      refine (cP.out _).mono ?_
      rintro e w1 ⟨rfl, rfl⟩
      go_wp2_with fail
      refine (cL.out _).mono ?_
      rintro e w1 ⟨rfl, rfl⟩
      go_wp2
      exact fst_ret (fn := Tryd.f26) (by rfl) rfl rfl rfl hk0.out ⟨by rw [hy.out]; rfl, hb0.out⟩
  · have dk : decide ((Z : Int) < (s.size : Int)) = false := decide_eq_false (by omega)
    have hal : ∀ h : Z < s.size, isAl s[Z] = false := fun h => absurd h hlt
    have hR := hn2.out hal
    clear hn2 hal
    by_cases hz : SV.size = 0
    · obtain rfl := str_empty hz
      have hVe : V = [] := List.eq_nil_of_length_eq_zero (by omega)
      rw [if_pos hVe] at hv
      subst hv
      have c2 := Lib.hid (fun W => cB ⟨#[48]⟩ rfl (by decide) W)
      by_cases hbig : 4294967295 < nval [48]
      · rw [if_pos hbig] at hR
        rw [decide_eq_true hbig] at c2
        replace hR := Lib.hid hR
        clear cB hbig hVe hy hSz hSl
        go_enter Tryd.func26, Tryd.ntmps26
        go_wp2_with fail
        refine (cP.out _).mono ?_
        rintro e w1 ⟨rfl, rfl⟩
        go_wp2_with fail
        refine (cT.out _).mono ?_
        rintro e w1 ⟨rfl, rfl⟩
        go_wp2_with fail
        refine (c2.out _).mono ?_
        rintro e w1 ⟨rfl, rfl⟩
        go_wp2
        exact fst_ret (fn := Tryd.f26) (by rfl) rfl rfl rfl hk0.out ⟨by rw [hR.out]; rfl, hb0.out⟩
      · rw [if_neg hbig] at hR
        rw [decide_eq_false hbig] at c2
        have hG : fV (good 1 [48] Z) = .tuple #[.agg #[.int .i64 1, .string ⟨#[48]⟩, .int .i64 0], .int .i64 (Z : Int), .int .i64 0] := rfl
        have hbf := Lib.hid (boxed w (.cells #[.int .i64 1, .string ⟨#[48]⟩, .int .i64 0] 33))
        have hkf := Lib.hid (Blk.new w 33 [.int .i64 1, .string ⟨#[48]⟩, .int .i64 0])
        replace hG := Lib.hid (hR.trans hG)
        clear hR
        clear cB hbig hVe hy hSz hSl
        go_enter Tryd.func26, Tryd.ntmps26
        go_wp2_with fail
        refine (cP.out _).mono ?_
        rintro e w1 ⟨rfl, rfl⟩
        go_wp2_with fail
        refine (cT.out _).mono ?_
        rintro e w1 ⟨rfl, rfl⟩
        go_wp2_with fail
        refine (c2.out _).mono ?_
        rintro e w1 ⟨rfl, rfl⟩
        go_wp2
        exact fst_ret (fn := Tryd.f26) (by rfl) rfl rfl rfl hkf.out ⟨by rw [hG.out], hbf.out⟩
    · obtain ⟨e1, e2, e3⟩ := str_ne hz
      have hVe : ¬ V = [] := fun e => hz (by rw [hSz, e]; rfl)
      rw [if_neg hVe] at hv
      subst hv
      have c2 := Lib.hid (fun W => cB SV hSl hSs W)
      by_cases hbig : 4294967295 < nval U
      · rw [if_pos hbig] at hR
        rw [decide_eq_true hbig] at c2
        replace hR := Lib.hid hR
        clear cB hbig hVe hy hSz hSl
        go_enter Tryd.func26, Tryd.ntmps26
        go_wp2_with fail
        refine (cP.out _).mono ?_
        rintro e w1 ⟨rfl, rfl⟩
        go_wp2_with fail
        refine (cT.out _).mono ?_
        rintro e w1 ⟨rfl, rfl⟩
        go_wp2_with fail
        refine (c2.out _).mono ?_
        rintro e w1 ⟨rfl, rfl⟩
        go_wp2
        exact fst_ret (fn := Tryd.f26) (by rfl) rfl rfl rfl hk0.out ⟨by rw [hR.out]; rfl, hb0.out⟩
      · rw [if_neg hbig] at hR
        rw [decide_eq_false hbig] at c2
        have hG : fV (good 1 U Z) = .tuple #[.agg #[.int .i64 1, .string SV, .int .i64 0], .int .i64 (Z : Int), .int .i64 0] := by unfold fV good; dsimp only; rw [strV_of hSl]; rfl
        have hbf := Lib.hid (boxed w (.cells #[.int .i64 1, .string SV, .int .i64 0] 33))
        have hkf := Lib.hid (Blk.new w 33 [.int .i64 1, .string SV, .int .i64 0])
        replace hG := Lib.hid (hR.trans hG)
        clear hR
        clear cB hbig hVe hy hSz hSl
        go_enter Tryd.func26, Tryd.ntmps26
        go_wp2_with fail
        refine (cP.out _).mono ?_
        rintro e w1 ⟨rfl, rfl⟩
        go_wp2_with fail
        refine (cT.out _).mono ?_
        rintro e w1 ⟨rfl, rfl⟩
        go_wp2_with fail
        refine (c2.out _).mono ?_
        rintro e w1 ⟨rfl, rfl⟩
        go_wp2
        exact fst_ret (fn := Tryd.f26) (by rfl) rfl rfl rfl hkf.out ⟨by rw [hG.out], hbf.out⟩
-- END number
set_option maxHeartbeats 8000000 in
theorem character_any (s : ByteArray) (hs : s.size ≤ 1000000) (h0 : 0 < s.size) (w : World) (hL : Laid w) : Calls Tryd.prog 29 #[.string s] w fun e w' => e = .returned (fV (chr s.data.toList)) ∧ Below w.heap.size w w' := by
  have hbad : (∀ x c d r, s.data.toList = x :: c :: d :: r → (isQt c && d == 39) = false) → chr s.data.toList = bad 3 := fun h => by
    unfold chr
    split
    · rename_i x c d r e
      rw [h x c d r e]
      simp
    · rfl
  have hb0 := Lib.hid (boxed w (.cells #[.int .i64 0, .string ⟨#[]⟩, .int .i64 0] 33))
  have hk0 := Lib.hid (Blk.new w 33 [.int .i64 0, .string ⟨#[]⟩, .int .i64 0])
  by_cases h3 : 3 ≤ s.size
  · have t1 : decide ((s.size : Int) < 3) = false := decide_eq_false (by omega)
    have i1 : (1 : Int) < (s.size : Int) := by omega
    have i2 : (2 : Int) < (s.size : Int) := by omega
    have n1 : 1 < s.size := by omega
    have n2 : 2 < s.size := by omega
    have d1 : decide (1 < s.size) = true := decide_eq_true n1
    have d2 : decide (2 < s.size) = true := decide_eq_true n2
    have hl : s.data.toList = s[0] :: s[1] :: s[2] :: s.data.toList.drop 3 := by
      rw [← drop_get s 2 n2, ← drop_get s 1 n1, ← drop_get s 0 h0]; rfl
    have hc : chr s.data.toList = if isQt s[1] && s[2] == 39 then good 1 (dec s[1].toNat) 3 else bad 3 := by
      conv => lhs; rw [hl]
      rfl
    rw [hc]
    have cQ := isQuotable_any s[1]
    have cI := fun (w : World) (hL : Laid w) => Tryd.strconv_Itoa (s[1].toNat : Int) (by omega) (by have := s[1].toNat_lt; omega) w hL
    rw [show Lib.itoa (s[1].toNat : Int) = Lib.decDigits s[1].toNat by unfold Lib.itoa; rw [if_neg (by omega)]; rfl] at cI
    have tq := tsn s[2] 39 (by decide)
    rw [show ((39 : Nat) : Int) = 39 from rfl, show UInt8.ofNat 39 = 39 from rfl] at tq
    have c1 := s[1].toNat_lt
    obtain ⟨x, hx⟩ : ∃ x, s[1] = x := ⟨_, rfl⟩
    obtain ⟨y, hy⟩ : ∃ y, s[2] = y := ⟨_, rfl⟩
    rw [hx] at cQ cI c1 ⊢
    rw [hy] at tq ⊢
    rcases q1 : isQt x with _ | _ <;> rw [q1] at cQ
    · replace cQ := Lib.hid cQ
      clear cI hc hl hbad q1 tq c1
      go_enter Tryd.func29, Tryd.ntmps29
      go_wp2_with fail
      refine (cQ.out _).mono ?_
      rintro e w1 ⟨rfl, rfl⟩
      go_wp2
      exact fst_ret (by rfl) rfl rfl rfl hk0.out ⟨rfl, hb0.out⟩
    rcases q2 : (y == 39) with _ | _ <;> rw [q2] at tq
    · replace cQ := Lib.hid cQ
      clear cI hc hl hbad q1 c1 q2
      go_enter Tryd.func29, Tryd.ntmps29
      go_wp2_with fail
      refine (cQ.out _).mono ?_
      rintro e w1 ⟨rfl, rfl⟩
      go_wp2
      exact fst_ret (by rfl) rfl rfl rfl hk0.out ⟨rfl, hb0.out⟩
    · have cI := Lib.hid (cI _ (hL.below hb0.out))
      replace cQ := Lib.hid cQ
      clear hL hc hl hbad q1 q2
      go_enter Tryd.func29, Tryd.ntmps29
      go_wp2_with fail
      refine (cQ.out _).mono ?_
      rintro e w1 ⟨rfl, rfl⟩
      go_wp2_with fail
      refine (cI.out).mono ?_
      rintro e w1 ⟨rfl, q, os, rfl⟩
      have hb1 := Lib.below_grow _ (w.alloc (.cells #[.int .i64 0, .string ⟨#[]⟩, .int .i64 0] 33)) (Nat.le_refl _) q os
      have hk1 := hk0.out.below hb1
      have hb2 := hb0.out.trans (hb1.mono (by have := hk0.out.lt; omega))
      obtain ⟨W1, hW1⟩ : ∃ W, Sort.grow ((w.alloc (.cells #[.int .i64 0, .string ⟨#[]⟩, .int .i64 0] 33)).drewN q) os = W := ⟨_, rfl⟩
      rw [hW1] at hb1 hk1 hb2 ⊢
      obtain ⟨SD, hSD⟩ : ∃ S : ByteArray, ⟨(Lib.decDigits x.toNat).toArray⟩ = S := ⟨_, rfl⟩
      have hfin : (fun e w' => e = Ending.returned (fV (good 1 (dec x.toNat) 3)) ∧ Below w.heap.size w w') (.returned (.tuple #[.agg #[.int .i64 1, .string SD, .int .i64 0], .int .i64 3, .int .i64 0])) (((W1.setCell ⟨w.heap.size, 0, none⟩ (.int .i64 1)).setCell ⟨w.heap.size, 1, none⟩ (.string SD)).setCell ⟨w.heap.size, 2, none⟩ (.int .i64 0)) :=
        ⟨by rw [← hSD]; rfl, ((hb2.setCell (p := ⟨w.heap.size, 0, none⟩) (Nat.le_refl _) _).setCell (p := ⟨w.heap.size, 1, none⟩) (Nat.le_refl _) _).setCell (p := ⟨w.heap.size, 2, none⟩) (Nat.le_refl _) _⟩
      have hbk := ((hk1.set 0 (.int .i64 1)).set 1 (.string SD)).set 2 (.int .i64 0)
      rw [hSD]
      have k0 := hk1.frz 0
      have k1 := hk1.frz 1
      have k2 := hk1.frz 2
      have j0 := hk1.cell 0
      have j1 := hk1.cell 1
      have j2 := hk1.cell 2
      simp only [List.getElem?_cons_zero, List.getElem?_cons_succ] at j0 j1 j2
      replace hfin := Lib.hid hfin
      replace hbk := Lib.hid hbk
      clear hb1 hk1 hb2 hW1 hb0 hk0 hSD cQ cI
      go_wp2
      exact fst_ret (fn := Tryd.f29) (by rfl) rfl rfl rfl hbk.out hfin.out
  · have t1 : decide ((s.size : Int) < 3) = true := decide_eq_true (by omega)
    rw [hbad (fun x c d r e => by have := list_len s; rw [e] at this; simp at this; omega)]
    clear hL hbad
    go_enter Tryd.func29, Tryd.ntmps29
    go_wp2
    exact fst_ret (by rfl) rfl rfl rfl hk0.out ⟨rfl, hb0.out⟩
end Go.Proofs.YtpnnkdgoaeibbaaDoor.L19
