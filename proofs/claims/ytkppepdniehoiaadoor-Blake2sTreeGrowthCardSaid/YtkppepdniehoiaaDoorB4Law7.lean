/- The walk of the law Blake2sTreeGrowth, under the package's contracts: the rounds. -/
import Derived.Test.YtkppepdniehoiaaDoorB4Law6
namespace Go.Proofs.YtkppepdniehoiaaDoor.B4
open Go.RowKit Mem
set_option linter.unusedVariables false
set_option linter.unusedSimpArgs false
variable {L : World → Prop}

/-- The powers that the loop meets. -/
def p16 (n : Nat) : Prop := n = 1 ∨ n = 2 ∨ n = 4 ∨ n = 8 ∨ n = 16
theorem p16_k {n : Nat} (h : p16 n) : kOf (n + 1) = n ∧ kOf (n + n) = n := by
  rcases h with rfl | rfl | rfl | rfl | rfl <;> exact ⟨by decide, by decide⟩
theorem p16_le {n : Nat} (h : p16 n) : 1 ≤ n ∧ n ≤ 16 := by
  rcases h with rfl | rfl | rfl | rfl | rfl <;> exact ⟨by decide, by decide⟩
theorem p16_dbl {n : Nat} (h : p16 n) (h2 : n < 16) : p16 (2 * n) := by
  rcases h with rfl | rfl | rfl | rfl | rfl
  · exact .inr (.inl rfl)
  · exact .inr (.inr (.inl rfl))
  · exact .inr (.inr (.inr (.inl rfl)))
  · exact .inr (.inr (.inr (.inr rfl)))
  · omega

set_option maxRecDepth 100000 in
set_option maxHeartbeats 4000000 in
theorem tg_main (D : Dev L) (A : Option Addr) (len cap : Nat) (l : List (List UInt8)) (leaf : ByteArray) (w : World) (hL0 : L w) (hl : IsStrs w A len cap l) (hx : ∀ x ∈ l, x.length ≤ 9223372036854775807) (hg : ¬ gr l = 1) (h200 : ¬ 200 < leaf.size) (h0 : ¬ l.length = 0) :
    Calls Tryd.prog 9 #[.slice A len cap, .string leaf] w fun e w' => e = .returned (.bool true) ∧ Below w.heap.size w w' := by
  obtain ⟨rfl, hle, hcap, hnil, hrd⟩ := hl
  have c1 := fun (W : World) (hW : Below w.heap.size w W) => rgreat_any A cap l W hle hcap hx (hrd.below hW)
  obtain ⟨hg0, h40, h2000⟩ := gr_small hg
  rw [hg0] at c1
  have c1 := Lib.hid c1
  have d1 : decide ((200 : Int) < (leaf.size : Int)) = false := decide_eq_false (by omega)
  have d2 : ((l.length : Int) == 0) = false := by rw [beq_eq_false_iff_ne]; omega
  obtain ⟨b, o, rfl, hq1, hq2⟩ := hrd 0 (by rw [strVs_len]; omega)
  have hrdh := Lib.hid hrd
  have hlf : leaf.data.toList.length ≤ 200 := by show leaf.size ≤ 200; omega
  obtain ⟨i0, hi, hz0, hz1, hz2⟩ := info_parts info_str
  have hl1 : 1 ≤ l.length := by omega
  have hlfh := Lib.hid hlf
  clear hrd hnil hq1 hq2 h0 hx hg hg0 h200 hlf
  go_enter Tryd.func9, Tryd.ntmps9
  go_wp2_with fail
  refine (alive_any D _ hL0).mono ?_
  rintro e w1 ⟨rfl, hb1⟩
  go_wp2_with fail
  refine (c1.out _ hb1).mono ?_
  rintro e w2 ⟨rfl, rfl⟩
  clear c1
  go_wp2
  go_loopw [5] (fun n wr => ∃ k : Nat, p16 k ∧ k ≤ l.length ∧ n = .int .i64 k ∧ wr = w1) (fun n _ => l.length - (intOf n).toNat)
  case atStart => exact ⟨1, .inl rfl, hl1, rfl, rfl⟩
  case round =>
    obtain ⟨n, hp, hnl, rfl, rfl⟩ := hrel
    obtain ⟨hn1, hn16⟩ := p16_le hp
    by_cases h2 : 2 * n ≤ l.length ∧ n < 16
    · have e1 : decide (2 * (n : Int) ≤ (l.length : Int)) = true := decide_eq_true (by omega)
      have e2 : decide ((n : Int) < 16) = true := decide_eq_true (by omega)
      go_wp2
      go_roundw
      case rel => exact ⟨2 * n, p16_dbl hp h2.2, h2.1, by go_num, trivial⟩
      case measure => simp [intOf]; omega
    · have e12 : (decide (2 * (n : Int) ≤ (l.length : Int)) = true ∧ decide ((n : Int) < 16) = false) ∨ decide (2 * (n : Int) ≤ (l.length : Int)) = false := by
        by_cases h3 : 2 * n ≤ l.length
        · exact .inl ⟨decide_eq_true (by omega), decide_eq_false (by omega)⟩
        · exact .inr (decide_eq_false (by omega))
      clear h2
      have et : (l.take n).length = n := by rw [List.length_take]; omega
      have htt := totl_take l n
      have cM := fun (W : World) (hW : Below w.heap.size w W) => D.merkle (some ⟨b, o, none⟩) cap (l.take n) W (by omega) (by omega) (by omega) hcap (Rd.take (hrdh.out.below hW) n) (D.keep hL0 hW)
      have hroot := merL_le (l.take n)
      rw [et] at cM
      obtain ⟨T, hT⟩ : ∃ T, l.take n = T := ⟨_, rfl⟩
      have hrdT := Lib.hid (fun (W : World) (hW : Below w.heap.size w W) => Rd.take (hrdh.out.below hW) n)
      rw [hT] at cM hroot htt et hrdT
      obtain ⟨X, hX⟩ : ∃ X, merL T = X := ⟨_, rfl⟩
      have hXh := Lib.hid hX
      rw [hX] at cM hroot
      clear hX
      have cM := Lib.hid cM
      have hTh := Lib.hid hT
      have k0 : (0 : Int) ≤ (n : Int) := by omega
      have k1 : (n : Int) ≤ (l.length : Int) := by omega
      have k2 : (n : Int) ≤ (cap : Int) := by omega
      clear hT
      rcases e12 with ⟨e1, e2⟩ | e1
      all_goals (
        go_wp2_with fail
        refine (cM.out _ hb1).mono ?_
        rintro e w2 ⟨rfl, hb2⟩
        have hb2 := chain hb1 hb2
        have hE0 : (w2.alloc (.cells #[] 9)).ownsRow w.heap.size 9 1 (.slice (some ⟨w2.heap.size, 0, none⟩) 0 0) 0 [] := empty_at rfl hb2.size
        have hb3 : Below w.heap.size w (w2.alloc (.cells #[] 9)) := hb2.alloc hb2.size _
        have hr3 := Lib.hid (hrdT.out _ hb3)
        have hsT : (strVs T).length = n := by rw [strVs_len, et]
        have hsTh := Lib.hid hsT
        clear hsT
        go_wp2_with (at_builtin; refine wpList_append_rd rfl _ _ 22 rfl w.heap.size 9 i0 (.string ByteArray.empty) 16 Tryd.underlying22 hi hz0 hz1 hz2 rfl _ _ _ rfl hE0 (some ⟨b, o, none⟩) n cap (strVs T) rfl hr3.out hsTh.out (fun h => by cases h) (strVs_one T) ?c3 ?c4 ?c5 ?_)
        case c3 => unfold maxLen; omega
        case c4 => omega
        case c5 => exact hb3.size
        intro v3 w3 hown3 hgrow3
        have hb4 : Below w.heap.size w w3 := hb3.grown hgrow3 hb3.size (fun j hj => (hE0.lt j hj).1)
        clear hE0 hgrow3 hr3
        go_wp2_with (at_builtin; refine wpList_append_own _ rfl _ _ 22 rfl w.heap.size 9 i0 (.string ByteArray.empty) 1 16 Tryd.underlying22 hi hz0 hz1 hz2 rfl (by decide) _ _ _ rfl (hown3.alloc _) ⟨w3.heap.size, 0, none⟩ 1 1 [.string leaf] rfl rfl (one_new _ _ _) (one_str _) ?d3 ?d4 ?d5 ?_)
        case d3 => unfold maxLen; omega
        case d4 => omega
        case d5 => have := hb4.size; simp; omega
        intro v4 w4 hown4 hgrow4 _
        have hb5 : Below w.heap.size w w4 := (hb4.alloc hb4.size _).grown hgrow4 (by have := hb4.size; simp; omega) (fun j hj => (hown3.lt j hj).1)
        have hsn := strVs_snoc T leaf.data.toList
        rw [show strVs T ++ [.string leaf] = strVs (T ++ [leaf.data.toList]) from hsn.symm] at hown4
        clear hown3 hgrow4 hb4 hb3 hsn
        obtain ⟨B, cb, rfl, hcb1, hcb2⟩ := own_slice hown4
        have hZl : (T ++ [leaf.data.toList]).length = n + 1 := by rw [List.length_append, et]; rfl
        have hZt : totl (T ++ [leaf.data.toList]) ≤ 2200 := by
          have := hlfh.out
          simp only [totl, List.map_append, List.sum_append, List.map_cons, List.map_nil, List.sum_cons, List.sum_nil] at htt h2000 ⊢
          omega
        have c2 := D.merkle B cb (T ++ [leaf.data.toList]) w4 (by omega) (by omega) (by omega) (by unfold maxLen at hcb2; omega) (Rd.of_own hown4) (D.keep hL0 hb5)
        rw [hZl, mer_join T [leaf.data.toList] (by omega) (by simp) (by rw [et]; exact (p16_k hp).1), mer_one, hXh.out] at c2
        have c3 := fun (W : World) (hW : L W) => sum_new D [[108, 101, 97, 102], leaf.data.toList] #[.string ⟨#[108, 101, 97, 102]⟩, .string leaf] rfl 2 rfl W (by have := hlfh.out; simp only [totl, List.map_cons, List.map_nil, List.sum_cons, List.sum_nil, List.length_cons, List.length_nil]; omega) (by decide) hW
        rw [show [[108, 101, 97, 102], leaf.data.toList].flatten = [108, 101, 97, 102] ++ leaf.data.toList by simp] at c3
        have hy := digL_len ([108, 101, 97, 102] ++ leaf.data.toList)
        obtain ⟨Y, hY⟩ : ∃ Y, digL ([108, 101, 97, 102] ++ leaf.data.toList) = Y := ⟨_, rfl⟩
        rw [hY] at c2 c3 hy
        clear hY
        have c4 := fun (W : World) (hW : L W) => sum_new D [[110, 111, 100, 101], X, Y] #[.string ⟨#[110, 111, 100, 101]⟩, .string ⟨X.toArray⟩, .string ⟨Y.toArray⟩] rfl 3 rfl W (by simp only [totl, List.map_cons, List.map_nil, List.sum_cons, List.sum_nil, List.length_cons, List.length_nil]; omega) (by decide) hW
        rw [show [[110, 111, 100, 101], X, Y].flatten = [110, 111, 100, 101] ++ X ++ Y by simp] at c4
        obtain ⟨Z, hZ⟩ : ∃ Z, digL ([110, 111, 100, 101] ++ X ++ Y) = Z := ⟨_, rfl⟩
        rw [hZ] at c2 c4
        have c2 := Lib.hid c2
        have c3 := Lib.hid c3
        have c4 := Lib.hid c4
        clear hown4 hcb1 hcb2 hZl hZt hZ hy
        go_wp2_with fail
        refine c2.out.mono ?_
        rintro e w5 ⟨rfl, hb6⟩
        have hb6 := chain hb5 hb6
        clear c2 hb5
        go_wp2_with fail
        refine (c3.out _ (D.keep hL0 hb6)).mono ?_
        rintro e w6 ⟨rfl, hb7⟩
        have hb7 := chain hb6 hb7
        clear c3 hb6
        go_wp2_with fail
        refine (c4.out _ (D.keep hL0 hb7)).mono ?_
        rintro e w7 ⟨rfl, hb8⟩
        have hb8 := chain hb7 hb8
        clear c4 hb7
        go_wp2
        clear e1
        try clear e2
        go_loopw [8, 9] (fun v i wr => ∃ k : Nat, k ≤ n ∧ i = .int .i64 k ∧ wr.ownsRow w.heap.size 9 1 v k (strVs (bl leaf.data.toList l n k)) ∧ Below w.heap.size w wr) (fun _ i _ => n - (intOf i).toNat)
        case atStart => exact ⟨0, Nat.zero_le _, rfl, World.ownsRow_nil _ _ _ _, hb8⟩
        case round =>
          clear hb8
          obtain ⟨k, hk, rfl, hown, hb⟩ := hrel
          by_cases hlt : k < n
          · obtain ⟨j, hj⟩ : ∃ j, n - 1 - k = j := ⟨_, rfl⟩
            have hjl : j < l.length := by omega
            obtain ⟨b', o', he, hbl, hcell⟩ := (hrdh.out.below hb) j (by rw [strVs_len]; exact hjl)
            rw [strV_get l j hjl] at hcell
            obtain ⟨rfl, rfl⟩ : b = b' ∧ o = o' := by
              injection he with he
              injection he with h1 h2
              exact ⟨h1, h2⟩
            have hgd : l.getD (n - 1 - k) [] = l[j] := by rw [hj, List.getD, List.getElem?_eq_getElem hjl]; rfl
            have hxl : (l[j]).length ≤ 2000 := Nat.le_trans (totl_mem (List.getElem_mem hjl)) h2000
            obtain ⟨x, hx⟩ : ∃ x, l[j] = x := ⟨_, rfl⟩
            rw [hx] at hcell hgd hxl
            have hsn : strVs (bl leaf.data.toList l n k) ++ [.string (leaf ++ ⟨x.toArray⟩)] = strVs (bl leaf.data.toList l n (k + 1)) := by
              rw [show bl leaf.data.toList l n (k + 1) = bl leaf.data.toList l n k ++ [leaf.data.toList ++ l.getD (n - 1 - k) []] from rfl, hgd, strVs_snoc]
              congr 3
            obtain ⟨x', hx'⟩ : ∃ s : ByteArray, (⟨x.toArray⟩ : ByteArray) = s := ⟨_, rfl⟩
            have hls : leaf.size ≤ 200 := hlfh.out
            have hxs : x'.size ≤ 2000 := by rw [← hx', str_size]; exact hxl
            rw [hx'] at hsn hcell
            have hsn := Lib.hid hsn
            clear hx'
            have hIe : (n : Int) - 1 - (k : Int) = (j : Int) := by omega
            have hI0 : (0 : Int) ≤ (j : Int) := by omega
            have hI1 : (j : Int) < (l.length : Int) := by omega
            clear hj he hgd hx
            go_wp2_with (at_builtin; refine wpList_append_own _ rfl _ _ 22 rfl w.heap.size 9 i0 (.string ByteArray.empty) 1 16 Tryd.underlying22 hi hz0 hz1 hz2 rfl (by decide) _ _ _ rfl (hown.alloc _) ⟨wr.heap.size, 0, none⟩ 1 1 [.string (leaf ++ x')] rfl rfl (one_new _ _ _) (one_str _) ?f3 ?f4 ?f5 ?_)
            case f3 => unfold maxLen; omega
            case f4 => omega
            case f5 => have := hb.size; simp; omega
            intro v' w9 hown' hgrow _
            try rw [hsn.out] at hown'
            have hb' : Below w.heap.size w w9 := (hb.alloc hb.size _).grown hgrow (by have := hb.size; simp; omega) (fun j hj => (hown.lt j hj).1)
            clear hown hb hgrow hsn
            go_wp2
            go_roundw
            case rel => exact ⟨k + 1, by omega, by go_num, hown', hb'⟩
            case measure => simp [intOf]; omega
          · obtain rfl : k = n := by omega
            have hEB : ∃ BL, bl leaf.data.toList l k k = BL := ⟨_, rfl⟩
            have hbl1 := bl_len leaf.data.toList l k k
            have hbl2 := bl_tot leaf.data.toList l k hlfh.out h2000 k
            obtain ⟨BL, hBL⟩ := hEB
            rw [hBL] at hown hbl1 hbl2
            clear hBL hlt
            obtain ⟨B, cb, rfl, hcb1, hcb2⟩ := own_slice hown
            unfold maxLen at hcb2
            have hrdB := Rd.of_own hown
            obtain ⟨bb, ob, rfl, hq5, hq6⟩ := hrdB 0 (by rw [strVs_len]; omega)
            have hLr := D.keep hL0 hb
            have hE0 : (wr.alloc (.cells #[] 9)).ownsRow wr.heap.size 9 1 (.slice (some ⟨wr.heap.size, 0, none⟩) 0 0) 0 [] := empty_at rfl (Nat.le_refl _)
            have hb9 : Below wr.heap.size wr (wr.alloc (.cells #[] 9)) := (Below.refl _ _).alloc (Nat.le_refl _) _
            have hr9 := Lib.hid ((hrdT.out _ hb).below hb9)
            have hsT : (strVs T).length = k := by rw [strVs_len, et]
            have hsB : (strVs BL).length = k := by rw [strVs_len, hbl1]
            have hsTh := Lib.hid hsT
            have hsBh := Lib.hid hsB
            have hrdBh := Lib.hid (fun (W : World) (hW : Below wr.heap.size wr W) => hrdB.below hW)
            clear hq5 hq6 hsT hsB hown hrdB
            go_wp2_with (at_builtin; refine wpList_append_rd rfl _ _ 22 rfl wr.heap.size 9 i0 (.string ByteArray.empty) 16 Tryd.underlying22 hi hz0 hz1 hz2 rfl _ _ _ rfl hE0 (some ⟨b, o, none⟩) k cap (strVs T) rfl hr9.out hsTh.out (fun h => by cases h) (strVs_one T) ?g3 ?g4 ?g5 ?_)
            case g3 => unfold maxLen; omega
            case g4 => omega
            case g5 => exact hb9.size
            intro v10 w10 hown10 hgrow10
            have hb10 : Below wr.heap.size wr w10 := hb9.grown hgrow10 hb9.size (fun j hj => (hE0.lt j hj).1)
            have hr10 := Lib.hid (hrdBh.out _ hb10)
            clear hE0 hgrow10 hr9 hb9
            go_wp2_with (at_builtin; refine wpList_append_rd rfl _ _ 22 rfl wr.heap.size 9 i0 (.string ByteArray.empty) 16 Tryd.underlying22 hi hz0 hz1 hz2 rfl _ _ _ rfl hown10 (some ⟨bb, ob, none⟩) k cb (strVs BL) rfl hr10.out hsBh.out (fun h => by cases h) (strVs_one BL) ?i3 ?i4 ?i5 ?_)
            case i3 => unfold maxLen; omega
            case i4 => omega
            case i5 => exact hb10.size
            intro v11 w11 hown11 hgrow11
            have hb11 : Below wr.heap.size wr w11 := hb10.grown hgrow11 hb10.size (fun j hj => (hown10.lt j hj).1)
            clear hown10 hgrow11 hr10 hb10
            rw [← strVs_append] at hown11
            obtain ⟨C, cc, rfl, hcc1, hcc2⟩ := own_slice hown11
            unfold maxLen at hcc2
            have hZl : (T ++ BL).length = k + k := by rw [List.length_append, et, hbl1]
            have hZt : totl (T ++ BL) ≤ 100000 := by
              simp only [totl, List.map_append, List.sum_append] at htt h2000 hbl2 ⊢
              omega
            have c5 := D.merkle C cc (T ++ BL) w11 (by omega) (by omega) (by omega) (by omega) (Rd.of_own hown11) (D.keep hLr hb11)
            rw [hZl, mer_join T BL (by omega) (by omega) (by rw [et, hbl1]; exact (p16_k hp).2), hXh.out] at c5
            have c6 := fun (W : World) (hW : Below wr.heap.size wr W) => D.merkle (some ⟨bb, ob, none⟩) cb BL W (by omega) (by omega) (by omega) (by omega) (hrdBh.out _ hW) (D.keep hLr hW)
            rw [hbl1] at c6
            have hy := merL_le BL
            obtain ⟨Y2, hY2⟩ : ∃ Y, merL BL = Y := ⟨_, rfl⟩
            rw [hY2] at c5 c6 hy
            clear hY2
            have c7 := fun (W : World) (hW : L W) => sum_new D [[110, 111, 100, 101], X, Y2] #[.string ⟨#[110, 111, 100, 101]⟩, .string ⟨X.toArray⟩, .string ⟨Y2.toArray⟩] rfl 3 rfl W (by simp only [totl, List.map_cons, List.map_nil, List.sum_cons, List.sum_nil, List.length_cons, List.length_nil]; omega) (by decide) hW
            rw [show [[110, 111, 100, 101], X, Y2].flatten = [110, 111, 100, 101] ++ X ++ Y2 by simp] at c7
            obtain ⟨Z2, hZ2⟩ : ∃ Z, digL ([110, 111, 100, 101] ++ X ++ Y2) = Z := ⟨_, rfl⟩
            rw [hZ2] at c5 c7
            have c5 := Lib.hid c5
            have c6 := Lib.hid c6
            have c7 := Lib.hid c7
            clear hown11 hZl hZt hZ2 hy hbl1 hbl2
            go_wp2_with fail
            refine c5.out.mono ?_
            rintro e w12 ⟨rfl, hb12⟩
            have hb12 := chain hb11 hb12
            clear c5 hb11
            go_wp2_with fail
            refine (c6.out _ hb12).mono ?_
            rintro e w13 ⟨rfl, hb13⟩
            have hb13 := chain hb12 hb13
            clear c6 hb12
            go_wp2_with fail
            refine (c7.out _ (D.keep hLr hb13)).mono ?_
            rintro e w14 ⟨rfl, hb14⟩
            have hb14 := chain hb13 hb14
            clear c7 hb13
            go_wp2
            go_ret
            exact ⟨rfl, chain hb hb14⟩)
theorem walk_treegrowth (D : Dev L) (A : Option Addr) (len cap : Nat) (l : List (List UInt8)) (leaf : ByteArray) (w : World) (hL0 : L w) (hl : IsStrs w A len cap l) (hx : ∀ x ∈ l, x.length ≤ 9223372036854775807) (hs : leaf.size ≤ 140737488351232) :
    Calls Tryd.prog 9 #[.slice A len cap, .string leaf] w fun e w' => e = .returned (.bool true) ∧ Below w.heap.size w w' := by
  by_cases hq : gr l = 1 ∨ 200 < leaf.size ∨ l.length = 0
  · exact tg_early D A len cap l leaf w hL0 hl hx hs hq
  · exact tg_main D A len cap l leaf w hL0 hl hx (fun h => hq (.inl h)) (fun h => hq (.inr (.inl h))) (fun h => hq (.inr (.inr h)))
end Go.Proofs.YtkppepdniehoiaaDoor.B4
