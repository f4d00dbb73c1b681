/- The contracts of the landed first, gap, Tokens (layer 19). -/
import Derived.Test.YtpnnkdgoaeibbaaDoorL19Own3
namespace Go.Proofs.YtpnnkdgoaeibbaaDoor.L19
set_option maxRecDepth 100000
open Go.RowKit Mem
open A18 (ba_get drop_get ext_list str_of)
open M17 (Laid Laid.below)
set_option linter.unusedVariables false
set_option linter.unusedSimpArgs false

theorem fst_at {s : ByteArray} (h : 0 < s.size) : fst s.data.toList = if isDg s[0] then num s.data.toList else if isLt s[0] then wrd s.data.toList else if s[0] == 39 then chr s.data.toList else sgn s.data.toList := by
  have hl := drop_get s 0 h
  rw [List.drop_zero] at hl
  rw [hl]
  rfl
set_option maxHeartbeats 8000000 in
theorem first_any (s : ByteArray) (hs : s.size ≤ 1000000) (h0 : 0 < s.size) (w : World) (hL : Laid w) : Calls Tryd.prog 17 #[.string s] w fun e w' => e = .returned (fV (fst s.data.toList)) ∧ Below w.heap.size w w' := by
  have n0 : (0 : Int) < (s.size : Int) := by omega
  have d0 : decide (0 < s.size) = true := decide_eq_true h0
  have hf := fst_at h0
  have c1 := isDigit_any s[0]
  have c2 := isSmall_any s[0]
  have t3 := tst s[0] 39 (by decide)
  rw [show ((39 : Nat) : Int) = 39 from rfl, show UInt8.ofNat 39 = 39 from rfl] at t3
  have hb0 := Lib.hid (boxed w (.cells #[.int .i64 0, .string ⟨#[]⟩, .int .i64 0] 33))
  have hk0 := Lib.hid (Blk.new w 33 [.int .i64 0, .string ⟨#[]⟩, .int .i64 0])
  have cN := number_any s hs (w.alloc (.cells #[.int .i64 0, .string ⟨#[]⟩, .int .i64 0] 33))
  have cW := word_any s hs (w.alloc (.cells #[.int .i64 0, .string ⟨#[]⟩, .int .i64 0] 33))
  have cC := character_any s hs h0 (w.alloc (.cells #[.int .i64 0, .string ⟨#[]⟩, .int .i64 0] 33)) (hL.below hb0.out)
  have cS := sign_any s hs h0 (w.alloc (.cells #[.int .i64 0, .string ⟨#[]⟩, .int .i64 0] 33))
  obtain ⟨c, hc⟩ : ∃ c, s[0] = c := ⟨_, rfl⟩
  rw [hc] at c1 c2 t3 hf
  obtain ⟨f, hff⟩ : ∃ f, fst s.data.toList = f := ⟨_, rfl⟩
  rw [hff] at hf ⊢
  have hfV : fV f = .tuple #[.agg #[.int .i64 (f.k : Int), .string ⟨f.T.toArray⟩, .int .i64 0], .int .i64 (f.m : Int), .int .i64 (f.e : Int)] := rfl
  clear hff hL
  rcases q1 : isDg c with _ | _ <;> rw [q1] at c1 hf <;> replace c1 := Lib.hid c1
  · rw [if_neg (by decide)] at hf
    rcases q2 : isLt c with _ | _ <;> rw [q2] at c2 hf <;> replace c2 := Lib.hid c2
    · rw [if_neg (by decide)] at hf
      rcases q3 : (c == 39) with _ | _ <;> rw [q3] at t3 hf
      · rw [if_neg (by decide)] at hf
        subst hf
        clear cN cW cC
        obtain ⟨k, m, e0, S, hV⟩ : ∃ (k m e0 : Int) (S : ByteArray), fV (sgn s.data.toList) = .tuple #[.agg #[.int .i64 k, .string S, .int .i64 0], .int .i64 m, .int .i64 e0] := ⟨_, _, _, _, hfV⟩
        clear hfV
        rw [hV] at cS ⊢
        replace cS := Lib.hid cS
        clear hV
        go_enter Tryd.func17, Tryd.ntmps17
        go_wp2_with fail
        refine (c1.out _).mono ?_
        rintro e w1 ⟨rfl, rfl⟩
        go_wp2_with fail
        refine (c2.out _).mono ?_
        rintro e w1 ⟨rfl, rfl⟩
        go_wp2_with fail
        refine (cS.out).mono ?_
        rintro e w1 ⟨rfl, hb1⟩
        have hk1 := hk0.out.below hb1
        have hb2 := hb0.out.trans (hb1.mono (by have := hk0.out.lt; omega))
        have hfin := Lib.hid (show Below w.heap.size w (((w1.setCell ⟨w.heap.size, 0, none⟩ (.int .i64 k)).setCell ⟨w.heap.size, 1, none⟩ (.string S)).setCell ⟨w.heap.size, 2, none⟩ (.int .i64 0)) from ((hb2.setCell (p := ⟨w.heap.size, 0, none⟩) (Nat.le_refl _) _).setCell (p := ⟨w.heap.size, 1, none⟩) (Nat.le_refl _) _).setCell (p := ⟨w.heap.size, 2, none⟩) (Nat.le_refl _) _)
        have hbk := Lib.hid (((hk1.set 0 (.int .i64 k)).set 1 (.string S)).set 2 (.int .i64 0))
        have k0 := hk1.frz 0
        have k1 := hk1.frz 1
        have k2 := hk1.frz 2
        have j0 := hk1.cell 0
        have j1 := hk1.cell 1
        have j2 := hk1.cell 2
        simp only [List.getElem?_cons_zero, List.getElem?_cons_succ] at j0 j1 j2
        clear hb1 hk1 hb2 hb0 hk0
        go_wp2
        exact fst_ret (fn := Tryd.f17) (by rfl) rfl rfl rfl hbk.out ⟨rfl, hfin.out⟩
      · rw [if_pos rfl] at hf
        subst hf
        clear cN cW cS
        obtain ⟨k, m, e0, S, hV⟩ : ∃ (k m e0 : Int) (S : ByteArray), fV (chr s.data.toList) = .tuple #[.agg #[.int .i64 k, .string S, .int .i64 0], .int .i64 m, .int .i64 e0] := ⟨_, _, _, _, hfV⟩
        clear hfV
        rw [hV] at cC ⊢
        replace cC := Lib.hid cC
        clear hV
        go_enter Tryd.func17, Tryd.ntmps17
        go_wp2_with fail
        refine (c1.out _).mono ?_
        rintro e w1 ⟨rfl, rfl⟩
        go_wp2_with fail
        refine (c2.out _).mono ?_
        rintro e w1 ⟨rfl, rfl⟩
        go_wp2_with fail
        refine (cC.out).mono ?_
        rintro e w1 ⟨rfl, hb1⟩
        have hk1 := hk0.out.below hb1
        have hb2 := hb0.out.trans (hb1.mono (by have := hk0.out.lt; omega))
        have hfin := Lib.hid (show Below w.heap.size w (((w1.setCell ⟨w.heap.size, 0, none⟩ (.int .i64 k)).setCell ⟨w.heap.size, 1, none⟩ (.string S)).setCell ⟨w.heap.size, 2, none⟩ (.int .i64 0)) from ((hb2.setCell (p := ⟨w.heap.size, 0, none⟩) (Nat.le_refl _) _).setCell (p := ⟨w.heap.size, 1, none⟩) (Nat.le_refl _) _).setCell (p := ⟨w.heap.size, 2, none⟩) (Nat.le_refl _) _)
        have hbk := Lib.hid (((hk1.set 0 (.int .i64 k)).set 1 (.string S)).set 2 (.int .i64 0))
        have k0 := hk1.frz 0
        have k1 := hk1.frz 1
        have k2 := hk1.frz 2
        have j0 := hk1.cell 0
        have j1 := hk1.cell 1
        have j2 := hk1.cell 2
        simp only [List.getElem?_cons_zero, List.getElem?_cons_succ] at j0 j1 j2
        clear hb1 hk1 hb2 hb0 hk0
        go_wp2
        exact fst_ret (fn := Tryd.f17) (by rfl) rfl rfl rfl hbk.out ⟨rfl, hfin.out⟩
    · rw [if_pos rfl] at hf
      subst hf
      clear cN cC cS
      obtain ⟨k, m, e0, S, hV⟩ : ∃ (k m e0 : Int) (S : ByteArray), fV (wrd s.data.toList) = .tuple #[.agg #[.int .i64 k, .string S, .int .i64 0], .int .i64 m, .int .i64 e0] := ⟨_, _, _, _, hfV⟩
      clear hfV
      rw [hV] at cW ⊢
      replace cW := Lib.hid cW
      clear hV
      go_enter Tryd.func17, Tryd.ntmps17
      go_wp2_with fail
      refine (c1.out _).mono ?_
      rintro e w1 ⟨rfl, rfl⟩
      go_wp2_with fail
      refine (c2.out _).mono ?_
      rintro e w1 ⟨rfl, rfl⟩
      go_wp2_with fail
      refine (cW.out).mono ?_
      rintro e w1 ⟨rfl, hb1⟩
      have hk1 := hk0.out.below hb1
      have hb2 := hb0.out.trans (hb1.mono (by have := hk0.out.lt; omega))
      have hfin := Lib.hid (show Below w.heap.size w (((w1.setCell ⟨w.heap.size, 0, none⟩ (.int .i64 k)).setCell ⟨w.heap.size, 1, none⟩ (.string S)).setCell ⟨w.heap.size, 2, none⟩ (.int .i64 0)) from ((hb2.setCell (p := ⟨w.heap.size, 0, none⟩) (Nat.le_refl _) _).setCell (p := ⟨w.heap.size, 1, none⟩) (Nat.le_refl _) _).setCell (p := ⟨w.heap.size, 2, none⟩) (Nat.le_refl _) _)
      have hbk := Lib.hid (((hk1.set 0 (.int .i64 k)).set 1 (.string S)).set 2 (.int .i64 0))
      have k0 := hk1.frz 0
      have k1 := hk1.frz 1
      have k2 := hk1.frz 2
      have j0 := hk1.cell 0
      have j1 := hk1.cell 1
      have j2 := hk1.cell 2
      simp only [List.getElem?_cons_zero, List.getElem?_cons_succ] at j0 j1 j2
      clear hb1 hk1 hb2 hb0 hk0
      go_wp2
      exact fst_ret (fn := Tryd.f17) (by rfl) rfl rfl rfl hbk.out ⟨rfl, hfin.out⟩
  · rw [if_pos rfl] at hf
    subst hf
    clear cW cC cS
    obtain ⟨k, m, e0, S, hV⟩ : ∃ (k m e0 : Int) (S : ByteArray), fV (num s.data.toList) = .tuple #[.agg #[.int .i64 k, .string S, .int .i64 0], .int .i64 m, .int .i64 e0] := ⟨_, _, _, _, hfV⟩
    clear hfV
    rw [hV] at cN ⊢
    replace cN := Lib.hid cN
    clear hV
    go_enter Tryd.func17, Tryd.ntmps17
    go_wp2_with fail
    refine (c1.out _).mono ?_
    rintro e w1 ⟨rfl, rfl⟩
    go_wp2_with fail
    refine (cN.out).mono ?_
    rintro e w1 ⟨rfl, hb1⟩
    have hk1 := hk0.out.below hb1
    have hb2 := hb0.out.trans (hb1.mono (by have := hk0.out.lt; omega))
    have hfin := Lib.hid (show Below w.heap.size w (((w1.setCell ⟨w.heap.size, 0, none⟩ (.int .i64 k)).setCell ⟨w.heap.size, 1, none⟩ (.string S)).setCell ⟨w.heap.size, 2, none⟩ (.int .i64 0)) from ((hb2.setCell (p := ⟨w.heap.size, 0, none⟩) (Nat.le_refl _) _).setCell (p := ⟨w.heap.size, 1, none⟩) (Nat.le_refl _) _).setCell (p := ⟨w.heap.size, 2, none⟩) (Nat.le_refl _) _)
    have hbk := Lib.hid (((hk1.set 0 (.int .i64 k)).set 1 (.string S)).set 2 (.int .i64 0))
    have k0 := hk1.frz 0
    have k1 := hk1.frz 1
    have k2 := hk1.frz 2
    have j0 := hk1.cell 0
    have j1 := hk1.cell 1
    have j2 := hk1.cell 2
    simp only [List.getElem?_cons_zero, List.getElem?_cons_succ] at j0 j1 j2
    clear hb1 hk1 hb2 hb0 hk0
    go_wp2
    exact fst_ret (fn := Tryd.f17) (by rfl) rfl rfl rfl hbk.out ⟨rfl, hfin.out⟩
-- END first
theorem slashes (l : List UInt8) : Lib.hasPrefix l [47, 47] = decide (l.take 2 = [47, 47]) := by
  unfold Lib.hasPrefix
  rw [Bool.eq_iff_iff, decide_eq_true_eq, List.isPrefixOf_iff_prefix, List.prefix_iff_eq_take]
  exact eq_comm
set_option maxHeartbeats 8000000 in
theorem gap_any (s : ByteArray) (hs : s.size ≤ 1000000) (w : World) : Calls Tryd.prog 15 #[.string s] w fun e w' => e = .returned (.int .i64 (gp s.data.toList : Int)) ∧ w = w' := by
  have cH := fun W => Tryd.strings_HasPrefix s ⟨#[47, 47]⟩ W
  rw [show (ByteArray.mk #[47, 47]).data.toList = [47, 47] from rfl, slashes] at cH
  have c1 := Lib.hid (fun W => prefix_any gap1_any ent_gap1 s hs W)
  have c2 := Lib.hid (fun W => prefix_any gap2_any ent_gap2 s hs W)
  unfold gp
  by_cases h : s.data.toList.take 2 = [47, 47]
  · rw [if_pos h]
    rw [decide_eq_true h] at cH
    obtain ⟨Z, hZ⟩ : ∃ Z, pre isLn s.data.toList = Z := ⟨_, rfl⟩
    rw [hZ] at c1 ⊢
    replace cH := Lib.hid cH
    clear h hZ c2
    go_enter Tryd.func15, Tryd.ntmps15
    go_wp2_with fail
    refine (cH.out _).mono ?_
    rintro e w1 ⟨rfl, rfl⟩
    go_wp2_with fail
    refine (c1.out _).mono ?_
    rintro e w1 ⟨rfl, rfl⟩
    go_wp2
    first | go_ret | skip
    exact ⟨rfl, rfl⟩
  · rw [if_neg h]
    rw [decide_eq_false h] at cH
    obtain ⟨Z, hZ⟩ : ∃ Z, pre isBl s.data.toList = Z := ⟨_, rfl⟩
    rw [hZ] at c2 ⊢
    replace cH := Lib.hid cH
    clear h hZ c1
    go_enter Tryd.func15, Tryd.ntmps15
    go_wp2_with fail
    refine (cH.out _).mono ?_
    rintro e w1 ⟨rfl, rfl⟩
    go_wp2_with fail
    refine (c2.out _).mono ?_
    rintro e w1 ⟨rfl, rfl⟩
    go_wp2
    first | go_ret | skip
    exact ⟨rfl, rfl⟩
end Go.Proofs.YtpnnkdgoaeibbaaDoor.L19
