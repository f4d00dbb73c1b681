/- The contract of the landed Tokens (layer 19). -/
import Derived.Test.YtpnnkdgoaeibbaaDoorL19Own4
namespace Go.Proofs.YtpnnkdgoaeibbaaDoor.L19
set_option maxRecDepth 100000
open Go.RowKit Mem
open A18 (ba_get drop_get ext_list str_of own_none list_new)
open M17 (Laid Laid.below)
set_option linter.unusedVariables false
set_option linter.unusedSimpArgs false

theorem info_token : (Tryd.prog.info? 33).map (fun i => (i.zero, i.size, i.bytes)) = some (some (.agg #[.int .i64 0, .string ⟨#[]⟩, .int .i64 0]), 3, 32) := by kernel_rfl
set_option maxHeartbeats 8000000 in
theorem Tokens_any (s : ByteArray) (w : World) (hL : Laid w) : Calls Tryd.prog 9 #[.string s] w (TkP 33 (ans s.data.toList) w) := by
  have hn := list_len s
  by_cases hbig : 60000 < s.size
  · have t1 : decide ((60000 : Int) < (s.size : Int)) = true := decide_eq_true (by omega)
    have ha : ans s.data.toList = ([], 0, 6) := by unfold ans; rw [if_pos (by omega)]
    rw [ha]
    have hfin : TkP 33 ([], 0, 6) w (.returned (.tuple #[.slice none 0 0, .int .i64 0, .int .i64 6])) w := ⟨_, rfl, own_none w _ _ _, Below.refl _ _⟩
    replace hfin := Lib.hid hfin
    clear hL ha hn
    go_enter Tryd.func9, Tryd.ntmps9
    go_wp2
    exact bodyPost_ret (v := .tuple #[.slice none 0 0, .int .i64 0, .int .i64 6]) (by simp [results, Tryd.results9, go_sem]) rfl hfin.out
  · have t1 : decide ((60000 : Int) < (s.size : Int)) = false := decide_eq_false (by omega)
    have hsz : s.size ≤ 60000 := by omega
    obtain ⟨i0, hi, hz0, hz1, hz2⟩ := info_parts info_token
    have ha : ans s.data.toList = if (tk 1 s.data.toList).2.2 = 0 then ((tk 1 s.data.toList).1, 0, 0) else ([], (tk 1 s.data.toList).2) := by unfold ans; rw [if_neg (by omega)]
    rw [ha]
    obtain ⟨L, hLL⟩ : ∃ L, tk 1 s.data.toList = L := ⟨_, rfl⟩
    have hstart : L = addL [] (tk 1 (s.data.toList.drop 0)) := by rw [← hLL]; rfl
    rw [hLL]
    have cG := Lib.hid (fun (x : ByteArray) (hx : x.size ≤ 1000000) W => gap_any x hx W)
    have cF := Lib.hid (fun (x : ByteArray) (hx : x.size ≤ 1000000) (h0 : 0 < x.size) W (hL : Laid W) => first_any x hx h0 W hL)
    obtain ⟨P, hP⟩ : ∃ P, TkP 33 (if L.2.2 = 0 then (L.1, 0, 0) else ([], L.2)) w = P := ⟨_, rfl⟩
    have hgood : ∀ (v : Value) (acc : List Tok) (w' : World), w'.ownsRow w.heap.size 33 3 v acc.length (acc.flatMap enc3) → Below w.heap.size w w' → L = addL acc ([], 0, 0) → P (.returned (.tuple #[v, .int .i64 0, .int .i64 0])) w' := fun v acc w' h1 h2 h3 => by
      rw [← hP, h3]
      show TkP _ (if (0 : Nat) = 0 then (acc ++ [], 0, 0) else _) _ _ _
      rw [if_pos rfl, List.append_nil]
      exact ⟨v, rfl, h1, h2⟩
    have hbad : ∀ (acc : List Tok) (n e : Nat) (w' : World), Below w.heap.size w w' → L = addL acc ([], n, e) → e ≠ 0 → P (.returned (.tuple #[.slice none 0 0, .int .i64 (n : Int), .int .i64 (e : Int)])) w' := fun acc n e w' h2 h3 he => by
      rw [← hP, h3]
      show TkP _ (if e = 0 then _ else ([], n, e)) _ _ _
      rw [if_neg he]
      exact ⟨_, rfl, own_none w' _ _ _, h2⟩
    rw [hP]
    have o1 := own_none w w.heap.size 33 3
    replace hgood := Lib.hid hgood
    replace hbad := Lib.hid hbad
    replace hn := Lib.hid hn
    replace hstart := Lib.hid hstart
    replace o1 := Lib.hid o1
    replace hL := Lib.hid hL
    clear hP hLL ha hbig
    show Calls _ _ _ _ (fun e w' => P e w')
    go_enter Tryd.func9, Tryd.ntmps9
    go_wp2
    go_loopw [5, 6, 7] (fun tv nv iv wr => ∃ (k n : Nat) (v : Value) (acc : List Tok), v = tv ∧ nv = .int .i64 (n : Int) ∧ iv = .int .i64 (k : Int) ∧ k ≤ s.size ∧ acc.length ≤ k ∧ n ≤ k + 1 ∧ Hid (L = addL acc (tk n (s.data.toList.drop k))) ∧ Hid (wr.ownsRow w.heap.size 33 3 v acc.length (acc.flatMap enc3)) ∧ Hid (Below w.heap.size w wr)) (fun _ _ iv _ => s.size - (intOf iv).toNat)
    case atStart => exact ⟨0, 1, _, [], rfl, rfl, rfl, Nat.zero_le _, Nat.zero_le _, by omega, hstart, o1, Lib.hid (Below.refl _ _)⟩
    case round =>
      clear o1 hstart
      obtain ⟨k, n, v, acc, rfl, rfl, rfl, hk, hac, hnk, hrest, hrow, hb⟩ := hrel
      by_cases hlt : k < s.size
      · have dk : decide ((k : Int) < (s.size : Int)) = true := decide_eq_true (by omega)
        have k0 : (0 : Int) ≤ (k : Int) := by omega
        have k1 : (k : Int) ≤ (s.size : Int) := by omega
        have n0 : (0 : Int) ≤ (n : Int) := by omega
        have n1 : (n : Int) ≤ 60001 := by omega
        have k3 : (k : Int) ≤ 60000 := by omega
        have hxs : (s.extract k s.size).data.toList = s.data.toList.drop k := by
          rw [ext_list]
          exact List.take_of_length_le (by rw [List.length_drop, hn.out]; exact Nat.le_refl _)
        have hxz : (s.extract k s.size).size ≤ 1000000 := by rw [ByteArray.size_extract]; omega
        have hx0 : 0 < (s.extract k s.size).size := by rw [ByteArray.size_extract]; omega
        have c1 := cG.out (s.extract k s.size) hxz
        rw [hxs] at c1
        have hz2' : gp (s.data.toList.drop k) ≤ s.size - k := by have := gp_le (s.data.toList.drop k); rw [List.length_drop, hn.out] at this; exact this
        have hgap := tk_gap n (s.data.toList.drop k)
        have hdr := drop_get s k hlt
        obtain ⟨c, hcc⟩ : ∃ c, s[k] = c := ⟨_, rfl⟩
        rw [hcc] at hdr
        obtain ⟨Z, hZ⟩ : ∃ Z, gp (s.data.toList.drop k) = Z := ⟨_, rfl⟩
        rw [hZ] at c1 hz2' hgap
        by_cases hz : Z = 0
        · subst hz
          have hsta := gp_zero (c := c) (r := s.data.toList.drop (k + 1)) (by rw [← hdr]; exact hZ)
          have c2 := Lib.hid (fun W => Tryd.strings_Count_one ByteArray.empty 10 W)
          rw [show ByteArray.empty.data.toList = [] from rfl] at c2
          rw [show ((Lib.countByte [] 10 : Nat) : Int) = 0 from rfl] at c2
          have c3 := cF.out (s.extract k s.size) hxz hx0
          rw [hxs] at c3
          have c3 := c3 wr (hL.out.below hb.out)
          rw [hdr] at c3 hrest
          have hfl := fun h => fst_len (l := c :: s.data.toList.drop (k + 1)) h
          have hok := fun h => tk_tok n hsta h
          have hno := fun h => tk_bad n hsta h
          rw [← hdr, List.length_drop, hn.out] at hfl
          rw [← hdr] at hok hno c3 hrest
          obtain ⟨f, hff⟩ : ∃ f, fst (s.data.toList.drop k) = f := ⟨_, rfl⟩
          rw [hff] at c3 hfl hok hno
          obtain ⟨kd, S, T, hV, hST, hkd⟩ : ∃ (kd : Int) (S : ByteArray) (T : List UInt8), fV f = .tuple #[.agg #[.int .i64 kd, .string S, .int .i64 0], .int .i64 (f.m : Int), .int .i64 (f.e : Int)] ∧ (strV f.T = .string S) ∧ kd = (f.k : Int) := ⟨_, _, f.T, rfl, rfl, rfl⟩
          rw [hV] at c3
          replace c1 := Lib.hid c1
          replace c3 := Lib.hid c3
          clear hcc hZ hxs hgap cG cF hz2' hxz hx0 hL hdr hff hV hsta
          by_cases he : f.e = 0
          · obtain ⟨m1, m2⟩ := hfl he
            have hr2 : L = addL (acc ++ [(f.k, f.T, n)]) (tk n (s.data.toList.drop (k + f.m))) := by
              rw [hrest.out, hok he, addL_addL, List.drop_drop]
            rw [he] at c3
            have hsn := enc3_snoc acc (f.k, f.T, n)
            dsimp only at hsn
            rw [hST, ← hkd] at hsn
            have hal : (acc ++ [(f.k, f.T, n)]).length = acc.length + 1 := by rw [List.length_append]; rfl
            obtain ⟨acc2, hacc2⟩ : ∃ x, acc ++ [(f.k, f.T, n)] = x := ⟨_, rfl⟩
            rw [hacc2] at hr2 hsn hal
            obtain ⟨Z, hZ⟩ : ∃ Z, f.m = Z := ⟨_, rfl⟩
            rw [hZ] at hr2 c3 m1 m2
            obtain ⟨J, hJ⟩ : ∃ J, k + Z = J := ⟨_, rfl⟩
            rw [hJ] at hr2
            have eJ : (k : Int) + (Z : Int) = (J : Int) := by omega
            have hJs : J ≤ s.size := by omega
            have hJk : k < J := by omega
            have J0 : (0 : Int) ≤ (J : Int) := by omega
            have J1 : (J : Int) ≤ 60000 := by omega
            have Z0 : (0 : Int) ≤ (Z : Int) := by omega
            have Z1 : (Z : Int) ≤ 60000 := by omega
            rw [show ((0 : Nat) : Int) = 0 from rfl] at c3
            obtain ⟨acl, hacl⟩ : ∃ x, acc.length = x := ⟨_, rfl⟩
            rw [hacl] at hrow hac hal
            replace hr2 := Lib.hid hr2
            replace hsn := Lib.hid hsn
            replace hal := Lib.hid hal
            clear hno hok hfl hgood hbad hST hkd hrest hJ hZ hacc2 he hacl
            go_wp2_with fail
            refine (c1.out _).mono ?_
            rintro e w3 ⟨rfl, rfl⟩
            go_wp2_with fail
            refine (c2.out _).mono ?_
            rintro e w3 ⟨rfl, rfl⟩
            go_wp2_with fail
            refine (c3.out).mono ?_
            rintro e w4 ⟨rfl, hb4⟩
            have hro := own_below hrow.out hb4
            have hbo := chain hb.out hb4
            have hbs := hbo.size
            obtain ⟨X, hX⟩ : ∃ X, w4.heap.size = X := ⟨_, rfl⟩
            obtain ⟨wX, hwX⟩ : ∃ W, w4.alloc (.cells #[.int .i64 kd, .string S, .int .i64 (n : Int)] 33) = W := ⟨_, rfl⟩
            have hroX : wX.ownsRow w.heap.size 33 3 v acl (acc.flatMap enc3) := by rw [← hwX]; exact hro.alloc _
            have hboX : Below w.heap.size w wX := by rw [← hwX]; exact hbo.alloc hbs _
            have hkX : Blk 33 wX X [.int .i64 kd, .string S, .int .i64 (n : Int)] := by rw [← hwX, ← hX]; exact Blk.new w4 _ _
            have hbsX := hboX.size
            have j0 := hkX.cell 0
            have j1 := hkX.cell 1
            have j2 := hkX.cell 2
            simp only [List.getElem?_cons_zero, List.getElem?_cons_succ] at j0 j1 j2
            clear hrow hb hb4 hro hbo hbs hkX
            go_wp2_with (at_builtin; refine wpList_append_own _ rfl _ _ 24 rfl w.heap.size 33 i0 (.agg #[.int .i64 0, .string ⟨#[]⟩, .int .i64 0]) 3 32 Tryd.underlying24 hi hz0 hz1 hz2 rfl (by decide) _ _ _ rfl (hroX.alloc _) ⟨wX.heap.size, 0, none⟩ 1 1 [.int .i64 kd, .string S, .int .i64 (n : Int)] rfl rfl (list_new _ _ _) (three_tok _ _ _) (by unfold maxLen; omega) (by omega) (by simp; omega) ?_; intro v' w6 hown' hgrow _)
            have hb6 := (hboX.alloc hbsX _).grown hgrow (by simp; omega) (fun j hj => (hroX.lt j hj).1)
            rw [← hsn.out] at hown'
            clear hgrow hroX hboX
            go_wp2
            go_roundw
            case rel => exact ⟨J, n, _, acc2, rfl, rfl, by go_num, hJs, by rw [hal.out]; omega, by omega, hr2, Lib.hid (by rw [hal.out]; exact hown'), Lib.hid hb6⟩
            case measure => simp [intOf]; omega
          · have hend := hbad.out acc n f.e
            rw [hrest.out, hno he] at hend
            have t5 : ((f.e : Int) != 0) = true := bne_iff_ne.2 (by omega)
            obtain ⟨e0, he0⟩ : ∃ e0 : Int, (f.e : Int) = e0 := ⟨_, rfl⟩
            obtain ⟨m0, hm0⟩ : ∃ m0 : Int, (f.m : Int) = m0 := ⟨_, rfl⟩
            rw [he0] at t5 hend c3
            rw [hm0] at c3
            replace hend := Lib.hid (fun W h => hend W h rfl he)
            clear he0 hm0 hno hok hfl hgood hbad hST hkd hrest hrow
            go_wp2_with fail
            refine (c1.out _).mono ?_
            rintro e w3 ⟨rfl, rfl⟩
            go_wp2_with fail
            refine (c2.out _).mono ?_
            rintro e w3 ⟨rfl, rfl⟩
            go_wp2_with fail
            refine (c3.out).mono ?_
            rintro e w4 ⟨rfl, hb4⟩
            have hfin := Lib.hid (hend.out ((w4.alloc (.cells #[.int .i64 kd, .string S, .int .i64 0] 33))) (chain (chain hb.out hb4) (boxed _ _)))
            clear hend hb hb4
            go_wp2
            exact bodyPost_ret (v := .tuple #[.slice none 0 0, .int .i64 (n : Int), .int .i64 e0]) (by simp [results, Tryd.results9, go_sem]) rfl hfin.out
        · have hJ0 := ext_list s k (k + Z)
          rw [show k + Z - k = Z by omega] at hJ0
          have c2 := fun W => Tryd.strings_Count_one (s.extract k (k + Z)) 10 W
          rw [hJ0, show Lib.countByte ((s.data.toList.drop k).take Z) 10 = ((s.data.toList.drop k).take Z).count 10 from rfl] at c2
          have hC : ((s.data.toList.drop k).take Z).count 10 ≤ Z := Nat.le_trans List.count_le_length (List.length_take_le _ _)
          obtain ⟨C, hCC⟩ : ∃ C, ((s.data.toList.drop k).take Z).count 10 = C := ⟨_, rfl⟩
          rw [hCC] at c2 hC hgap
          obtain ⟨J, hJ⟩ : ∃ J, k + Z = J := ⟨_, rfl⟩
          obtain ⟨M, hM⟩ : ∃ M, n + C = M := ⟨_, rfl⟩
          rw [hJ] at c2
          rw [List.drop_drop, hJ, hM] at hgap
          have hr2 := Lib.hid (hrest.out.trans (by rw [hgap]) : L = addL acc (tk M (s.data.toList.drop J)))
          have t2 : ((Z : Int) == 0) = false := beq_eq_false_iff_ne.2 (by omega)
          have eJ : (k : Int) + (Z : Int) = (J : Int) := by omega
          have eM : (n : Int) + (C : Int) = (M : Int) := by omega
          have J0 : (0 : Int) ≤ (J : Int) := by omega
          have J1 : (J : Int) ≤ (s.size : Int) := by omega
          have J2 : (k : Int) ≤ (J : Int) := by omega
          have Z0 : (0 : Int) ≤ (Z : Int) := by omega
          have Z1 : (Z : Int) ≤ 60000 := by omega
          have C0 : (0 : Int) ≤ (C : Int) := by omega
          have C1 : (C : Int) ≤ 60000 := by omega
          have hJs : J ≤ s.size := by omega
          have hJk : k < J := by omega
          have hMJ : M ≤ J + 1 := by omega
          replace c1 := Lib.hid c1
          replace c2 := Lib.hid c2
          clear hcc hZ hxs hxz hx0 hgap cG cF hz2' hJ hM hCC hJ0 hC hdr hrest hL hgood hbad hz
          go_wp2_with fail
          refine (c1.out _).mono ?_
          rintro e w3 ⟨rfl, rfl⟩
          go_wp2_with fail
          refine (c2.out _).mono ?_
          rintro e w3 ⟨rfl, rfl⟩
          go_wp2
          go_roundw
          case rel => exact ⟨J, M, v, acc, rfl, by go_num, by go_num, hJs, by omega, hMJ, hr2, hrow, hb⟩
          case measure => simp [intOf]; omega
      · obtain rfl : k = s.size := by omega
        have dk : decide ((s.size : Int) < (s.size : Int)) = false := decide_eq_false (by omega)
        have hfin := Lib.hid (hgood.out v acc wr hrow.out hb.out (by rw [hrest.out, List.drop_of_length_le (by rw [hn.out]; exact Nat.le_refl _), tk_nil]))
        clear hrest hgood hbad cG cF hrow hb hL
        go_wp2
        exact bodyPost_ret (v := .tuple #[v, .int .i64 0, .int .i64 0]) (by simp [results, Tryd.results9, go_sem]) rfl hfin.out
end Go.Proofs.YtpnnkdgoaeibbaaDoor.L19
