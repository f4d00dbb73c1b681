/- What the law on labels keeps in its loop. No walk here. -/
import Derived.Test.YthmgocjmfhpafaaDoorA18Map
import Derived.Test.YthmgocjmfhpafaaDoorA18Sz
namespace Go.Proofs.YthmgocjmfhpafaaDoor.A18
set_option maxRecDepth 100000
open Go.RowKit Mem
open Go.Maps Go.WideMaps
set_option linter.unusedVariables false
set_option linter.unusedSimpArgs false

/-- The definitions that have been met, each once. -/
def metl (ws : List (List UInt8)) (k : Nat) : List (List UInt8 × Int) := ((ws.take k).filter fun w => (defN w).isSome).map fun w => (w, (1 : Int))
theorem take_snoc' {ws : List (List UInt8)} {k : Nat} {w : List UInt8} (h : ws[k]? = some w) : ws.take (k + 1) = ws.take k ++ [w] := by
  obtain ⟨hk, rfl⟩ := List.getElem?_eq_some_iff.1 h
  rw [List.take_succ_eq_append_getElem hk]
theorem metl_def {ws : List (List UInt8)} {k : Nat} {w n : List UInt8} (h : ws[k]? = some w) (hd : defN w = some n) : metl ws (k + 1) = metl ws k ++ [(w, 1)] := by
  unfold metl
  rw [take_snoc' h, List.filter_append, List.map_append, List.filter_cons_of_pos (by rw [hd]; rfl)]
  rfl
theorem metl_no {ws : List (List UInt8)} {k : Nat} {w : List UInt8} (h : ws[k]? = some w) (hd : defN w = none) : metl ws (k + 1) = metl ws k := by
  unfold metl
  rw [take_snoc' h, List.filter_append, List.map_append, List.filter_cons_of_neg (by rw [hd]; simp)]
  simp
theorem metl_not {ws : List (List UInt8)} {k : Nat} {w n : List UInt8} (hd : defN w = some n) (hn : n ∉ dfs (ws.take k)) : w ∉ (metl ws k).map (·.1) := fun hm => by
  obtain ⟨p, hp, e⟩ := List.mem_map.1 hm
  unfold metl at hp
  obtain ⟨v, hv, rfl⟩ := List.mem_map.1 hp
  dsimp only at e
  subst e
  refine hn ?_
  unfold dfs
  exact List.mem_filterMap.2 ⟨v, (List.mem_filter.1 hv).1, hd⟩
theorem metl_nodup {ws : List (List UInt8)} (h : ∀ k w n, ws[k]? = some w → defN w = some n → n ∉ dfs (ws.take k)) : ∀ k, ((metl ws k).map (·.1)).Nodup := by
  intro k
  induction k with
  | zero => simp [metl]
  | succ k ih =>
    rcases e : ws[k]? with _ | w
    · have : metl ws (k + 1) = metl ws k := by
        unfold metl
        rw [List.getElem?_eq_none_iff] at e
        rw [List.take_of_length_le (by omega), List.take_of_length_le e]
      rw [this]
      exact ih
    · rcases d : defN w with _ | n
      · rw [metl_no e d]
        exact ih
      · rw [metl_def e d, List.map_append, List.nodup_append]
        refine ⟨ih, by simp, ?_⟩
        intro a ha b hb e2
        subst e2
        simp at hb
        subst hb
        exact metl_not d (h k a n e d) ha
theorem plw_def {ws : List (List UInt8)} {k : Nat} {w n : List UInt8} (h : ws[k]? = some w) (hd : defN w = some n) : plw (ws.take (k + 1)) = plw (ws.take k) := by
  rw [take_snoc' h, plw_app]
  unfold plw
  rw [List.filter_cons_of_neg (by rw [hd]; simp)]
  simp
theorem plw_no {ws : List (List UInt8)} {k : Nat} {w : List UInt8} (h : ws[k]? = some w) (hd : defN w = none) : sj (plw (ws.take (k + 1))) = sj (plw (ws.take k)) ++ 32 :: rep w := by
  rw [take_snoc' h, plw_app, ← sj_snoc]
  congr 2
  unfold plw
  rw [List.filter_cons_of_pos (by rw [hd]; rfl)]
  rfl
theorem dfs_def {ws : List (List UInt8)} {k : Nat} {w n : List UInt8} (h : ws[k]? = some w) (hd : defN w = some n) : (dfs (ws.take (k + 1))).length = (dfs (ws.take k)).length + 1 := by
  rw [take_snoc' h, dfs_app, dfs_one, hd]
  simp
theorem dfs_no {ws : List (List UInt8)} {k : Nat} {w : List UInt8} (h : ws[k]? = some w) (hd : defN w = none) : (dfs (ws.take (k + 1))).length = (dfs (ws.take k)).length := by
  rw [take_snoc' h, dfs_app, dfs_one, hd]
  simp
theorem sj_plw : ∀ ws : List (List UInt8), (sj (plw ws)).length ≤ sumW ws := by
  intro ws
  induction ws with
  | nil => simp [sj, plw, sumW]
  | cons w r ih =>
    rw [sumW_cons]
    have : w :: r = [w] ++ r := rfl
    rw [this, plw_app]
    unfold sj
    rw [List.flatMap_append, List.length_append]
    have h1 : ((plw [w]).flatMap fun w => 32 :: w).length ≤ w.length + 7 := by
      unfold plw
      by_cases e : (defN w).isNone = true
      · rw [List.filter_cons_of_pos (p := fun w => (defN w).isNone) e]
        simp
        unfold rep
        split
        · simp
        · omega
      · rw [List.filter_cons_of_neg (p := fun w => (defN w).isNone) e]
        simp
    have h2 : ((plw r).flatMap fun w => 32 :: w).length ≤ sumW r := ih
    omega
theorem sumW_take (ws : List (List UInt8)) (k : Nat) : sumW (ws.take k) ≤ sumW ws := by
  have : ws = ws.take k ++ ws.drop k := (List.take_append_drop k ws).symm
  conv => rhs; rw [this, sumW_app]
  omega
theorem wof_inv {L : List Tok} {k : Nat} {T : List UInt8} (h : (wof L)[k]? = some T) : ∃ t, L[k]? = some t ∧ t.1 = T := by
  unfold wof at h
  rw [List.getElem?_map] at h
  rcases e : L[k]? with _ | t
  · rw [e] at h; cases h
  · rw [e] at h
    injection h with h
    exact ⟨t, rfl, h⟩
theorem met_flt {s : List UInt8} {o : Int} (H : AsmOk s o) {k : Nat} {T : List UInt8} (h : (wof (toks s))[k]? = some T) : flt (dfs (wof (toks s))) (dfs ((wof (toks s)).take k)) T = 0 := by
  obtain ⟨t, ht, rfl⟩ := wof_inv h
  have := H.flts k t ht
  rwa [wof_tk] at this
theorem met_lab {s : List UInt8} {o : Int} (H : AsmOk s o) {k : Nat} {T N : List UInt8} (h : (wof (toks s))[k]? = some T) (hd : defN T = some N) : (asm s o).labs[(dfs ((wof (toks s)).take k)).length]? = some (N, o + ((bld nul [] ((wof (toks s)).take k)).length : Int)) := by
  rw [label_of H h hd, (front_of H k).2]
theorem met_F {s : List UInt8} {o : Int} (H : AsmOk s o) (k : Nat) : (bld nul [] ((wof (toks s)).take k)).length ≤ 40000 := by
  have h1 := H.len
  have h2 : bld nul [] (wof (toks s)) = bld nul (bld nul [] ((wof (toks s)).take k)) ((wof (toks s)).drop k) := by rw [← bld_app, List.take_append_drop]
  rw [h2] at h1
  exact Nat.le_trans (bld_len _ _ _) h1
theorem met_def {s : List UInt8} {o : Int} (H : AsmOk s o) {k : Nat} {T : List UInt8} (h : (wof (toks s))[k]? = some T) : defT T = (defN T).isSome ∧ T ≠ [] := by
  have hne : T ≠ [] := (wof_wd s T (List.mem_of_getElem? h)).1
  exact ⟨def_test (flt_good (met_flt H h)) hne, hne⟩
theorem met_new {s : List UInt8} {o : Int} (H : AsmOk s o) : ∀ k w n, (wof (toks s))[k]? = some w → defN w = some n → n ∉ dfs ((wof (toks s)).take k) := fun k w n h hd => flt_new (met_flt H h) hd
theorem met_sz (s : List UInt8) (k : Nat) : (sj (plw ((wof (toks s)).take k))).length ≤ 8 * s.length := by
  have h1 := sj_plw ((wof (toks s)).take k)
  have h2 := sumW_take (wof (toks s)) k
  have h3 := toks_sum s
  omega
theorem met_fit {s : List UInt8} {k : Nat} {T : List UInt8} (h : (wof (toks s))[k]? = some T) : T.length ≤ 8 * s.length := by
  obtain ⟨t, ht, rfl⟩ := wof_inv h
  exact toks_fit s t (List.mem_of_getElem? ht)
theorem met_cnt (s : List UInt8) (k : Nat) : (dfs ((wof (toks s)).take k)).length ≤ k := by
  have h1 : (dfs ((wof (toks s)).take k)).length ≤ ((wof (toks s)).take k).length := List.length_filterMap_le _ _
  rw [List.length_take] at h1
  omega
theorem metl_len (ws : List (List UInt8)) (k : Nat) : (metl ws k).length ≤ k := by
  unfold metl
  rw [List.length_map]
  have h1 := List.length_filter_le (fun w => (defN w).isSome) (ws.take k)
  rw [List.length_take] at h1
  omega
/-- The four ways of a word that is no definition. -/
theorem defT_no {c : UInt8} {r : List UInt8} {w : List UInt8} {x : UInt8} (hw : w = c :: r) (hx : w.getLast? = some x) (h : defT w = false) : w.length ≤ 1 ∨ x ≠ 58 ∨ c.toNat < 97 ∨ 122 < c.toNat := by
  subst hw
  unfold defT at h
  rw [hx, show (List.take 1 (c :: r)).all isLt = isLt c by simp] at h
  simp only [Bool.and_eq_false_iff, decide_eq_false_iff_not, isLt] at h
  rcases h with (h | h) | h | h
  · left; omega
  · right; left
    rintro rfl
    simp at h
  · right; right; left; omega
  · right; right; right; omega
end Go.Proofs.YthmgocjmfhpafaaDoor.A18
