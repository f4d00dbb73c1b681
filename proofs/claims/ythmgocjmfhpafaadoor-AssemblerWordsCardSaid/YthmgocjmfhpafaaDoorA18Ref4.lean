/- The contract of the reference's words (layer 18). -/
import Derived.Test.YthmgocjmfhpafaaDoorA18Own2
namespace Go.Proofs.YthmgocjmfhpafaaDoor.A18
set_option maxRecDepth 100000
open Go.RowKit Mem
set_option linter.unusedVariables false
set_option linter.unusedSimpArgs false

theorem info_word : (Tryd.prog.info? 65).map (fun i => (i.zero, i.size, i.bytes)) = some (some (.agg #[.string ⟨#[]⟩, .int .i64 0]), 2, 24) := by kernel_rfl
/-- Where a word began. -/
def frV : Option Nat → Int
  | none => -1
  | some f => (f : Int)
/-- The word so far. -/
def curL (l : List UInt8) (k : Nat) : Option Nat → List UInt8
  | none => []
  | some f => (l.drop f).take (k - f)
theorem cur_grow {l : List UInt8} {k f : Nat} (hf : f ≤ k) (hk : k < l.length) : curL l (k + 1) (some f) = curL l k (some f) ++ [l[k]] := by
  show (l.drop f).take (k + 1 - f) = (l.drop f).take (k - f) ++ _
  rw [show k + 1 - f = (k - f) + 1 by omega, List.take_succ_eq_append_getElem (by rw [List.length_drop]; omega), List.getElem_drop]
  congr 3
  omega
theorem cur_one {l : List UInt8} {k : Nat} (hk : k < l.length) : curL l (k + 1) (some k) = [l[k]] := by
  show (l.drop k).take (k + 1 - k) = _
  rw [show k + 1 - k = 1 by omega, ← List.getElem_cons_drop hk]
  rfl
theorem cur_ne {l : List UInt8} {k f : Nat} (hf : f < k) (hk : k ≤ l.length) : curL l k (some f) ≠ [] := by
  unfold curL
  intro e
  have := congrArg List.length e
  rw [List.length_take, List.length_drop] at this
  simp at this
  omega
set_option maxHeartbeats 16000000 in
theorem rwords_any (s : ByteArray) (hs : s.size ≤ 1000000) (w : World) : Calls Tryd.prog 31 #[.string s] w (TkP 65 (toks s.data.toList) w) := by
  have hn : s.data.toList.length = s.size := by simp
  obtain ⟨i0, hi, hz0, hz1, hz2⟩ := info_parts info_word
  obtain ⟨L, hL⟩ : ∃ L, toks s.data.toList = L := ⟨_, rfl⟩
  have hstart : L = [] ++ tk 1 false (curL s.data.toList 0 none) (s.data.toList.drop 0) := by rw [← hL]; rfl
  rw [hL]
  obtain ⟨P, hP⟩ : ∃ P, TkP 65 L w = P := ⟨_, rfl⟩
  have hgoal : ∀ (v : Value) (acc : List Tok) (w' : World), w'.ownsRow w.heap.size 65 2 v acc.length (cel acc) → Below w.heap.size w w' → acc = L → P (.returned v) w' := fun v acc w' h1 h2 h3 => by
    subst h3
    rw [← hP]
    exact ⟨v, rfl, h1, h2⟩
  rw [hP]
  have o1 := Lib.hid (show (w.alloc (.cells #[] 65)).ownsRow w.heap.size 65 2 (.slice (some ⟨w.heap.size, 0, none⟩) 0 0) 0 (cel []) from empty_at rfl (Nat.le_refl _))
  have o2 := Lib.hid ((Below.refl w.heap.size w).alloc (Nat.le_refl _) (.cells #[] 65))
  replace hgoal := Lib.hid hgoal
  replace hn := Lib.hid hn
  replace hstart := Lib.hid hstart
  clear hP hL
  show Calls _ _ _ _ (fun e w' => P e w')
  go_enter Tryd.func31, Tryd.ntmps31
  go_wp2
  go_loopw [3, 4, 5, 6, 7] (fun tv nv fv cv iv wr => ∃ (k n : Nat) (v : Value) (acc : List Tok) (fr : Option Nat) (cm : Bool), v = tv ∧ nv = .int .i64 (n : Int) ∧ fv = .int .i64 (frV fr) ∧ cv = .bool cm ∧ iv = .int .i64 (k : Int) ∧ k ≤ s.size ∧ acc.length ≤ k ∧ n ≤ k + 1 ∧ (∀ f, fr = some f → f < k ∧ acc.length + 1 ≤ k) ∧ (cm = true → fr = none) ∧ Hid (L = acc ++ tk n cm (curL s.data.toList k fr) (s.data.toList.drop k)) ∧ Hid (wr.ownsRow w.heap.size 65 2 v acc.length (cel acc)) ∧ Hid (Below w.heap.size w wr)) (fun _ _ _ _ iv _ => s.size + 1 - (intOf iv).toNat)
  case atStart => exact ⟨0, 1, _, [], none, false, rfl, rfl, rfl, rfl, rfl, Nat.zero_le _, Nat.zero_le _, by omega, fun f h => (by cases h), fun h => (by cases h), hstart, o1, o2⟩
  case round =>
    clear o1 o2 hstart
    obtain ⟨k, n, v, acc, fr, cm, rfl, rfl, rfl, rfl, rfl, hk, ha, hnk, hfr, hcm, hrest, hrow, hb⟩ := hrel
    have kk : decide ((k : Int) ≤ (s.size : Int)) = true := decide_eq_true (by omega)
    have kk2 : decide (k ≤ s.size) = true := decide_eq_true hk
    have k0 : (0 : Int) ≤ (k : Int) := by omega
    have n0 : (0 : Int) ≤ (n : Int) := by omega
    have n1 : (n : Int) ≤ 1000001 := by omega
    have k3 : (k : Int) ≤ 1000000 := by omega
    have kle : (k : Int) ≤ (s.size : Int) := by omega
    by_cases hlt : k < s.size
    · have dk : ((k : Int) == (s.size : Int)) = false := beq_eq_false_iff_ne.2 (by omega)
      have k1 : (k : Int) < (s.size : Int) := by omega
      have hdr := drop_get s k hlt
      have hgk := ba_get s k hlt
      obtain ⟨c, hcc⟩ : ∃ c, s[k] = c := ⟨_, rfl⟩
      have t10 := tst c 10 (by decide)
      have t32 := tst c 32 (by decide)
      have t35 := tst c 35 (by decide)
      rw [show ((10 : Nat) : Int) = 10 from rfl, show UInt8.ofNat 10 = 10 from rfl] at t10
      rw [show ((32 : Nat) : Int) = 32 from rfl, show UInt8.ofNat 32 = 32 from rfl] at t32
      rw [show ((35 : Nat) : Int) = 35 from rfl, show UInt8.ofNat 35 = 35 from rfl] at t35
      rw [hcc] at hdr hgk
      rw [hdr] at hrest
      by_cases e10 : c = 10
      · subst e10
        have hst : (cm = false ∧ ∃ f, fr = some f) ∨ (cm = false ∧ fr = none) ∨ (cm = true ∧ fr = none) := by
          rcases cm with _ | _
          · rcases fr with _ | f
            · exact .inr (.inl ⟨rfl, rfl⟩)
            · exact .inl ⟨rfl, f, rfl⟩
          · exact .inr (.inr ⟨rfl, hcm rfl⟩)
        rcases hst with ⟨rfl, f, rfl⟩ | ⟨rfl, rfl⟩ | ⟨rfl, rfl⟩
        all_goals unfold frV
        · obtain ⟨hf1, hf2⟩ := hfr f rfl
          have f0 : (0 : Int) ≤ (f : Int) := by omega
          have f1 : (f : Int) ≤ (k : Int) := by omega
          have f1n : f ≤ k := by omega
          have d0 : decide ((0 : Int) ≤ (f : Int)) = true := decide_eq_true f0
          have d00 : decide ((f : Int) < 0) = false := decide_eq_false (by omega)
          have hcu := cur_ne (l := s.data.toList) hf1 (by rw [hn.out]; exact hk)
          have hr2 : L = (acc ++ [(curL s.data.toList k (some f), n)]) ++ tk (n + 1) false [] (s.data.toList.drop (k + 1)) := by rw [hrest.out, tk_ten, fl_cons hcu, List.append_assoc]
          have hS : strV (curL s.data.toList k (some f)) = .string (s.extract f k) := by
            unfold strV curL
            rw [str_of _ (s.extract f k) (by rw [ext_list])]
          obtain ⟨T, hT⟩ : ∃ T, curL s.data.toList k (some f) = T := ⟨_, rfl⟩
          rw [hT] at hS hcu hr2
          have hsn := cel_snoc acc (T, n)
          dsimp only at hsn
          rw [hS] at hsn
          obtain ⟨acl, hacl⟩ : ∃ x, acc.length = x := ⟨_, rfl⟩
          rw [hacl] at hrow ha hf2
          have hacl2 := Lib.hid (show (acc ++ [(T, n)]).length = acl + 1 by rw [List.length_append, hacl]; rfl)
          have hro := hrow.out
          have hbo := hb.out
          have hbs := hbo.size
          replace hsn := Lib.hid hsn
          replace hr2 := Lib.hid hr2
          clear t10 t32 t35 hdr hrest hgoal hS hT hacl hrow hb hcu hgk hfr hcm
          go_wp2_with (at_builtin; refine wpList_append_own _ rfl _ _ 61 rfl w.heap.size 65 i0 (.agg #[.string ⟨#[]⟩, .int .i64 0]) 2 24 Tryd.underlying61 hi hz0 hz1 hz2 rfl (by decide) _ _ _ rfl (hro.alloc _) ⟨wr.heap.size, 0, none⟩ 1 1 [.string (s.extract f k), .int .i64 (n : Int)] rfl rfl (list_new _ _ _) (two_si _ _) (by unfold maxLen; omega) (by omega) (by simp; omega) ?_; intro v' w6 hown' hgrow _)
          have hb6 := Lib.hid ((hbo.alloc hbs _).grown hgrow (by simp; omega) (fun j hj => (hro.lt j hj).1))
          rw [← hsn.out] at hown'
          have hown' := Lib.hid (show w6.ownsRow w.heap.size 65 2 v' (acc ++ [(T, n)]).length (cel (acc ++ [(T, n)])) by rw [hacl2.out]; exact hown')
          clear hgrow hro hbo
          go_wp2
          go_roundw
          case rel => exact ⟨k + 1, n + 1, _, acc ++ [(T, n)], none, false, rfl, by first | rfl | go_num, rfl, rfl, by go_num, by omega, by rw [hacl2.out]; omega, by omega, fun f h => (by cases h), fun _ => rfl, hr2, hown', hb6⟩
          case measure => simp [intOf]; omega
        · have hr2 := Lib.hid (show L = acc ++ tk (n + 1) false [] (s.data.toList.drop (k + 1)) by rw [hrest.out]; show acc ++ tk n false [] _ = _; rw [tk_ten, fl_nil, List.nil_append])
          clear t10 t32 t35 hdr hrest hgoal hgk hfr hcm
          go_wp2
          go_roundw
          case rel => exact ⟨k + 1, n + 1, v, acc, none, false, rfl, by first | rfl | go_num, rfl, rfl, by go_num, by omega, by omega, by omega, fun f h => (by cases h), fun _ => rfl, hr2, hrow, hb⟩
          case measure => simp [intOf]; omega
        · have hr2 := Lib.hid (show L = acc ++ tk (n + 1) false [] (s.data.toList.drop (k + 1)) by rw [hrest.out]; show acc ++ tk n true [] _ = _; rw [tk_ten, fl_nil, List.nil_append])
          clear t10 t32 t35 hdr hrest hgoal hgk hfr hcm
          go_wp2
          go_roundw
          case rel => exact ⟨k + 1, n + 1, v, acc, none, false, rfl, by first | rfl | go_num, rfl, rfl, by go_num, by omega, by omega, by omega, fun f h => (by cases h), fun _ => rfl, hr2, hrow, hb⟩
          case measure => simp [intOf]; omega
      have f10 : (c == 10) = false := by simpa using e10
      rw [f10] at t10
      by_cases e32 : c = 32
      · subst e32
        have hst : (cm = false ∧ ∃ f, fr = some f) ∨ (cm = false ∧ fr = none) ∨ (cm = true ∧ fr = none) := by
          rcases cm with _ | _
          · rcases fr with _ | f
            · exact .inr (.inl ⟨rfl, rfl⟩)
            · exact .inl ⟨rfl, f, rfl⟩
          · exact .inr (.inr ⟨rfl, hcm rfl⟩)
        rcases hst with ⟨rfl, f, rfl⟩ | ⟨rfl, rfl⟩ | ⟨rfl, rfl⟩
        all_goals unfold frV
        · obtain ⟨hf1, hf2⟩ := hfr f rfl
          have f0 : (0 : Int) ≤ (f : Int) := by omega
          have f1 : (f : Int) ≤ (k : Int) := by omega
          have f1n : f ≤ k := by omega
          have d0 : decide ((0 : Int) ≤ (f : Int)) = true := decide_eq_true f0
          have d00 : decide ((f : Int) < 0) = false := decide_eq_false (by omega)
          have hcu := cur_ne (l := s.data.toList) hf1 (by rw [hn.out]; exact hk)
          have hr2 : L = (acc ++ [(curL s.data.toList k (some f), n)]) ++ tk n false [] (s.data.toList.drop (k + 1)) := by rw [hrest.out, tk_space, fl_cons hcu, List.append_assoc]
          have hS : strV (curL s.data.toList k (some f)) = .string (s.extract f k) := by
            unfold strV curL
            rw [str_of _ (s.extract f k) (by rw [ext_list])]
          obtain ⟨T, hT⟩ : ∃ T, curL s.data.toList k (some f) = T := ⟨_, rfl⟩
          rw [hT] at hS hcu hr2
          have hsn := cel_snoc acc (T, n)
          dsimp only at hsn
          rw [hS] at hsn
          obtain ⟨acl, hacl⟩ : ∃ x, acc.length = x := ⟨_, rfl⟩
          rw [hacl] at hrow ha hf2
          have hacl2 := Lib.hid (show (acc ++ [(T, n)]).length = acl + 1 by rw [List.length_append, hacl]; rfl)
          have hro := hrow.out
          have hbo := hb.out
          have hbs := hbo.size
          replace hsn := Lib.hid hsn
          replace hr2 := Lib.hid hr2
          clear t10 t32 t35 hdr hrest hgoal hS hT hacl hrow hb hcu hgk hfr hcm
          go_wp2_with (at_builtin; refine wpList_append_own _ rfl _ _ 61 rfl w.heap.size 65 i0 (.agg #[.string ⟨#[]⟩, .int .i64 0]) 2 24 Tryd.underlying61 hi hz0 hz1 hz2 rfl (by decide) _ _ _ rfl (hro.alloc _) ⟨wr.heap.size, 0, none⟩ 1 1 [.string (s.extract f k), .int .i64 (n : Int)] rfl rfl (list_new _ _ _) (two_si _ _) (by unfold maxLen; omega) (by omega) (by simp; omega) ?_; intro v' w6 hown' hgrow _)
          have hb6 := Lib.hid ((hbo.alloc hbs _).grown hgrow (by simp; omega) (fun j hj => (hro.lt j hj).1))
          rw [← hsn.out] at hown'
          have hown' := Lib.hid (show w6.ownsRow w.heap.size 65 2 v' (acc ++ [(T, n)]).length (cel (acc ++ [(T, n)])) by rw [hacl2.out]; exact hown')
          clear hgrow hro hbo
          go_wp2
          go_roundw
          case rel => exact ⟨k + 1, n, _, acc ++ [(T, n)], none, false, rfl, by first | rfl | go_num, rfl, rfl, by go_num, by omega, by rw [hacl2.out]; omega, by omega, fun f h => (by cases h), fun _ => rfl, hr2, hown', hb6⟩
          case measure => simp [intOf]; omega
        · have hr2 := Lib.hid (show L = acc ++ tk n false [] (s.data.toList.drop (k + 1)) by rw [hrest.out]; show acc ++ tk n false [] _ = _; rw [tk_space, fl_nil, List.nil_append])
          clear t10 t32 t35 hdr hrest hgoal hgk hfr hcm
          go_wp2
          go_roundw
          case rel => exact ⟨k + 1, n, v, acc, none, false, rfl, by first | rfl | go_num, rfl, rfl, by go_num, by omega, by omega, by omega, fun f h => (by cases h), fun _ => rfl, hr2, hrow, hb⟩
          case measure => simp [intOf]; omega
        · have hr2 := Lib.hid (show L = acc ++ tk n true [] (s.data.toList.drop (k + 1)) by rw [hrest.out]; show acc ++ tk n true [] _ = _; rw [tk_cm n [] _ (by first | decide | exact e10)])
          clear t10 t32 t35 hdr hrest hgoal hgk hfr hcm
          go_wp2
          go_roundw
          case rel => exact ⟨k + 1, n, v, acc, none, true, rfl, by first | rfl | go_num, rfl, rfl, by go_num, by omega, by omega, by omega, fun f h => (by cases h), fun _ => rfl, hr2, hrow, hb⟩
          case measure => simp [intOf]; omega
      have f32 : (c == 32) = false := by simpa using e32
      rw [f32] at t32
      by_cases e35 : c = 35
      · subst e35
        have hst : (cm = false ∧ ∃ f, fr = some f) ∨ (cm = false ∧ fr = none) ∨ (cm = true ∧ fr = none) := by
          rcases cm with _ | _
          · rcases fr with _ | f
            · exact .inr (.inl ⟨rfl, rfl⟩)
            · exact .inl ⟨rfl, f, rfl⟩
          · exact .inr (.inr ⟨rfl, hcm rfl⟩)
        rcases hst with ⟨rfl, f, rfl⟩ | ⟨rfl, rfl⟩ | ⟨rfl, rfl⟩
        all_goals unfold frV
        · obtain ⟨hf1, hf2⟩ := hfr f rfl
          have f0 : (0 : Int) ≤ (f : Int) := by omega
          have f1 : (f : Int) ≤ (k : Int) := by omega
          have f1n : f ≤ k := by omega
          have d0 : decide ((0 : Int) ≤ (f : Int)) = true := decide_eq_true f0
          have d00 : decide ((f : Int) < 0) = false := decide_eq_false (by omega)
          have hcu := cur_ne (l := s.data.toList) hf1 (by rw [hn.out]; exact hk)
          have hr2 : L = (acc ++ [(curL s.data.toList k (some f), n)]) ++ tk n true [] (s.data.toList.drop (k + 1)) := by rw [hrest.out, tk_hash, fl_cons hcu, List.append_assoc]
          have hS : strV (curL s.data.toList k (some f)) = .string (s.extract f k) := by
            unfold strV curL
            rw [str_of _ (s.extract f k) (by rw [ext_list])]
          obtain ⟨T, hT⟩ : ∃ T, curL s.data.toList k (some f) = T := ⟨_, rfl⟩
          rw [hT] at hS hcu hr2
          have hsn := cel_snoc acc (T, n)
          dsimp only at hsn
          rw [hS] at hsn
          obtain ⟨acl, hacl⟩ : ∃ x, acc.length = x := ⟨_, rfl⟩
          rw [hacl] at hrow ha hf2
          have hacl2 := Lib.hid (show (acc ++ [(T, n)]).length = acl + 1 by rw [List.length_append, hacl]; rfl)
          have hro := hrow.out
          have hbo := hb.out
          have hbs := hbo.size
          replace hsn := Lib.hid hsn
          replace hr2 := Lib.hid hr2
          clear t10 t32 t35 hdr hrest hgoal hS hT hacl hrow hb hcu hgk hfr hcm
          go_wp2_with (at_builtin; refine wpList_append_own _ rfl _ _ 61 rfl w.heap.size 65 i0 (.agg #[.string ⟨#[]⟩, .int .i64 0]) 2 24 Tryd.underlying61 hi hz0 hz1 hz2 rfl (by decide) _ _ _ rfl (hro.alloc _) ⟨wr.heap.size, 0, none⟩ 1 1 [.string (s.extract f k), .int .i64 (n : Int)] rfl rfl (list_new _ _ _) (two_si _ _) (by unfold maxLen; omega) (by omega) (by simp; omega) ?_; intro v' w6 hown' hgrow _)
          have hb6 := Lib.hid ((hbo.alloc hbs _).grown hgrow (by simp; omega) (fun j hj => (hro.lt j hj).1))
          rw [← hsn.out] at hown'
          have hown' := Lib.hid (show w6.ownsRow w.heap.size 65 2 v' (acc ++ [(T, n)]).length (cel (acc ++ [(T, n)])) by rw [hacl2.out]; exact hown')
          clear hgrow hro hbo
          go_wp2
          go_roundw
          case rel => exact ⟨k + 1, n, _, acc ++ [(T, n)], none, true, rfl, by first | rfl | go_num, rfl, rfl, by go_num, by omega, by rw [hacl2.out]; omega, by omega, fun f h => (by cases h), fun _ => rfl, hr2, hown', hb6⟩
          case measure => simp [intOf]; omega
        · have hr2 := Lib.hid (show L = acc ++ tk n true [] (s.data.toList.drop (k + 1)) by rw [hrest.out]; show acc ++ tk n false [] _ = _; rw [tk_hash, fl_nil, List.nil_append])
          clear t10 t32 t35 hdr hrest hgoal hgk hfr hcm
          go_wp2
          go_roundw
          case rel => exact ⟨k + 1, n, v, acc, none, true, rfl, by first | rfl | go_num, rfl, rfl, by go_num, by omega, by omega, by omega, fun f h => (by cases h), fun _ => rfl, hr2, hrow, hb⟩
          case measure => simp [intOf]; omega
        · have hr2 := Lib.hid (show L = acc ++ tk n true [] (s.data.toList.drop (k + 1)) by rw [hrest.out]; show acc ++ tk n true [] _ = _; rw [tk_cm n [] _ (by first | decide | exact e10)])
          clear t10 t32 t35 hdr hrest hgoal hgk hfr hcm
          go_wp2
          go_roundw
          case rel => exact ⟨k + 1, n, v, acc, none, true, rfl, by first | rfl | go_num, rfl, rfl, by go_num, by omega, by omega, by omega, fun f h => (by cases h), fun _ => rfl, hr2, hrow, hb⟩
          case measure => simp [intOf]; omega
      have f35 : (c == 35) = false := by simpa using e35
      rw [f35] at t35
      have htk : isTk c = true := by unfold isTk; rw [f10, f32, f35]; rfl
      have hst : (cm = false ∧ ∃ f, fr = some f) ∨ (cm = false ∧ fr = none) ∨ (cm = true ∧ fr = none) := by
        rcases cm with _ | _
        · rcases fr with _ | f
          · exact .inr (.inl ⟨rfl, rfl⟩)
          · exact .inl ⟨rfl, f, rfl⟩
        · exact .inr (.inr ⟨rfl, hcm rfl⟩)
      rcases hst with ⟨rfl, f, rfl⟩ | ⟨rfl, rfl⟩ | ⟨rfl, rfl⟩
      all_goals unfold frV
      · obtain ⟨hf1, hf2⟩ := hfr f rfl
        have f0 : (0 : Int) ≤ (f : Int) := by omega
        have f1 : (f : Int) ≤ (k : Int) := by omega
        have f1n : f ≤ k := by omega
        have d0 : decide ((0 : Int) ≤ (f : Int)) = true := decide_eq_true f0
        have d00 : decide ((f : Int) < 0) = false := decide_eq_false (by omega)
        have hcu := cur_ne (l := s.data.toList) hf1 (by rw [hn.out]; exact hk)
        have hr2 := Lib.hid (show L = acc ++ tk n false (curL s.data.toList (k + 1) (some f)) (s.data.toList.drop (k + 1)) by rw [hrest.out, tk_in n _ _ htk, cur_grow f1n (by rw [hn.out]; exact hlt), hgk])
        clear hdr hrest hgoal hcu hgk hcm htk
        go_wp2
        go_roundw
        case rel => exact ⟨k + 1, n, v, acc, some f, false, rfl, rfl, rfl, rfl, by go_num, by omega, by omega, by omega, fun g h => (by cases h; omega), fun h => (by cases h), hr2, hrow, hb⟩
        case measure => simp [intOf]; omega
      · have hr2 := Lib.hid (show L = acc ++ tk n false (curL s.data.toList (k + 1) (some k)) (s.data.toList.drop (k + 1)) by rw [hrest.out, tk_in n _ _ htk, cur_one (by rw [hn.out]; exact hlt), hgk]; rfl)
        clear hdr hrest hgoal hgk hfr hcm htk
        go_wp2
        go_roundw
        case rel => exact ⟨k + 1, n, v, acc, some k, false, rfl, rfl, rfl, rfl, by go_num, by omega, by omega, by omega, fun g h => (by cases h; omega), fun h => (by cases h), hr2, hrow, hb⟩
        case measure => simp [intOf]; omega
      · have hr2 := Lib.hid (show L = acc ++ tk n true [] (s.data.toList.drop (k + 1)) by rw [hrest.out]; show acc ++ tk n true [] _ = _; rw [tk_cm n [] _ (by first | decide | exact e10)])
        clear hdr hrest hgoal hgk hfr hcm htk
        go_wp2
        go_roundw
        case rel => exact ⟨k + 1, n, v, acc, none, true, rfl, by first | rfl | go_num, rfl, rfl, by go_num, by omega, by omega, by omega, fun f h => (by cases h), fun _ => rfl, hr2, hrow, hb⟩
        case measure => simp [intOf]; omega
    · obtain rfl : k = s.size := by omega
      have dk : ((s.size : Int) == (s.size : Int)) = true := by simp
      rw [List.drop_of_length_le (by rw [hn.out]; exact Nat.le_refl _), tk_nil] at hrest
      have hst : (cm = false ∧ ∃ f, fr = some f) ∨ (cm = false ∧ fr = none) ∨ (cm = true ∧ fr = none) := by
        rcases cm with _ | _
        · rcases fr with _ | f
          · exact .inr (.inl ⟨rfl, rfl⟩)
          · exact .inl ⟨rfl, f, rfl⟩
        · exact .inr (.inr ⟨rfl, hcm rfl⟩)
      rcases hst with ⟨rfl, f, rfl⟩ | ⟨rfl, rfl⟩ | ⟨rfl, rfl⟩
      all_goals unfold frV
      · obtain ⟨hf1, hf2⟩ := hfr f rfl
        have f0 : (0 : Int) ≤ (f : Int) := by omega
        have f1 : (f : Int) ≤ (s.size : Int) := by omega
        have f1n : f ≤ s.size := by omega
        have d0 : decide ((0 : Int) ≤ (f : Int)) = true := decide_eq_true f0
        have d00 : decide ((f : Int) < 0) = false := decide_eq_false (by omega)
        have hcu := cur_ne (l := s.data.toList) hf1 (by rw [hn.out]; exact hk)
        have hr2 : acc ++ [(curL s.data.toList s.size (some f), n)] = L := by rw [hrest.out, fl_cons hcu]
        have hS : strV (curL s.data.toList s.size (some f)) = .string (s.extract f s.size) := by
          unfold strV curL
          rw [str_of _ (s.extract f s.size) (by rw [ext_list])]
        obtain ⟨T, hT⟩ : ∃ T, curL s.data.toList s.size (some f) = T := ⟨_, rfl⟩
        rw [hT] at hS hcu hr2
        have hsn := cel_snoc acc (T, n)
        dsimp only at hsn
        rw [hS] at hsn
        obtain ⟨acl, hacl⟩ : ∃ x, acc.length = x := ⟨_, rfl⟩
        rw [hacl] at hrow ha hf2
        have hacl2 := Lib.hid (show (acc ++ [(T, n)]).length = acl + 1 by rw [List.length_append, hacl]; rfl)
        have hro := hrow.out
        have hbo := hb.out
        have hbs := hbo.size
        replace hsn := Lib.hid hsn
        replace hr2 := Lib.hid hr2
        clear hrest hS hT hacl hrow hb hcu hfr hcm
        go_wp2_with (at_builtin; refine wpList_append_own _ rfl _ _ 61 rfl w.heap.size 65 i0 (.agg #[.string ⟨#[]⟩, .int .i64 0]) 2 24 Tryd.underlying61 hi hz0 hz1 hz2 rfl (by decide) _ _ _ rfl (hro.alloc _) ⟨wr.heap.size, 0, none⟩ 1 1 [.string (s.extract f s.size), .int .i64 (n : Int)] rfl rfl (list_new _ _ _) (two_si _ _) (by unfold maxLen; omega) (by omega) (by simp; omega) ?_; intro v' w6 hown' hgrow _)
        have hb6 := Lib.hid ((hbo.alloc hbs _).grown hgrow (by simp; omega) (fun j hj => (hro.lt j hj).1))
        rw [← hsn.out] at hown'
        have hown' := Lib.hid (show w6.ownsRow w.heap.size 65 2 v' (acc ++ [(T, n)]).length (cel (acc ++ [(T, n)])) by rw [hacl2.out]; exact hown')
        clear hgrow hro hbo
        have hfin := Lib.hid (hgoal.out _ _ w6 hown'.out hb6.out hr2.out)
        clear hgoal
        go_wp2
        first | go_ret | skip
        exact hfin.out
      · have hfin := Lib.hid (hgoal.out _ _ wr hrow.out hb.out (by rw [hrest.out]; show acc = acc ++ fl n []; rw [fl_nil, List.append_nil]))
        clear hgoal hrest hrow hb hfr hcm
        go_wp2
        first | go_ret | skip
        exact hfin.out
      · have hfin := Lib.hid (hgoal.out _ _ wr hrow.out hb.out (by rw [hrest.out]; show acc = acc ++ fl n []; rw [fl_nil, List.append_nil]))
        clear hgoal hrest hrow hb hfr hcm
        go_wp2
        first | go_ret | skip
        exact hfin.out
end Go.Proofs.YthmgocjmfhpafaaDoor.A18
