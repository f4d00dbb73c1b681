/- How long texts get; which names are distinct. No program is named here. -/
import Derived.Test.YthmgocjmfhpafaaDoorA18More
namespace Go.Proofs.YthmgocjmfhpafaaDoor.A18
open Mem
set_option linter.unusedVariables false
set_option linter.unusedSimpArgs false

def sumW (ws : List (List UInt8)) : Nat := (ws.map fun w => w.length + 7).sum
theorem sumW_cons (w : List UInt8) (r : List (List UInt8)) : sumW (w :: r) = w.length + 7 + sumW r := by simp [sumW]
theorem sumW_app (a b : List (List UInt8)) : sumW (a ++ b) = sumW a + sumW b := by simp [sumW]
theorem sumW_mem {ws : List (List UInt8)} {w : List UInt8} (h : w ∈ ws) : w.length + 7 ≤ sumW ws := by
  induction ws with
  | nil => cases h
  | cons v r ih =>
    rw [sumW_cons]
    rcases List.mem_cons.1 h with rfl | h
    · omega
    · have := ih h; omega
theorem addT_le (t a : List UInt8) : (addT t a).length ≤ t.length + a.length + 1 := by unfold addT; split <;> simp <;> omega
theorem bld_le (A : List UInt8 → Nat) : ∀ (ws : List (List UInt8)) (t : List UInt8), (bld A t ws).length ≤ t.length + sumW ws := by
  intro ws
  induction ws with
  | nil => intro t; simp [bld, sumW]
  | cons w r ih =>
    intro t
    rw [bld, sumW_cons]
    have := ih (stp A t w)
    have h2 : (stp A t w).length ≤ t.length + w.length + 7 := by
      unfold stp
      split
      · omega
      · split
        · have := addT_le t (sixL (A ‹_›)); rw [six_len] at this; omega
        · have := addT_le t w; omega
    omega
theorem fl_sum (n : Nat) (cur : List UInt8) : sumW (wof (fl n cur)) = if cur = [] then 0 else cur.length + 7 := by
  unfold fl
  split
  · rfl
  · simp [wof, sumW]
theorem tk_sum : ∀ (s : List UInt8) (n : Nat) (cm : Bool) (cur : List UInt8), sumW (wof (tk n cm cur s)) ≤ 8 * s.length + (if cur = [] then 0 else cur.length + 7) := by
  intro s
  induction s with
  | nil => intro n cm cur; rw [tk_nil, fl_sum]; simp
  | cons c r ih =>
    intro n cm cur
    rw [tk]
    split
    · have := ih (n + 1) false []; rw [wof_app, sumW_app, fl_sum]; simp only [List.length_cons]; simp at this; omega
    split
    · have := ih n true cur; simp only [List.length_cons]; omega
    split
    · have := ih n true []; rw [wof_app, sumW_app, fl_sum]; simp only [List.length_cons]; simp at this; omega
    split
    · have := ih n false []; rw [wof_app, sumW_app, fl_sum]; simp only [List.length_cons]; simp at this; omega
    · have := ih n false (cur ++ [c])
      rw [if_neg (by simp), List.length_append] at this
      simp only [List.length_cons, List.length_nil] at *
      split
      · rename_i hc
        subst hc
        simp at this
        simp
        omega
      · omega
theorem toks_sum (s : List UInt8) : sumW (wof (toks s)) ≤ 8 * s.length := by
  have := tk_sum s 1 false []
  rw [if_pos rfl] at this
  exact this
theorem toks_fit (s : List UInt8) : ∀ t ∈ toks s, t.1.length ≤ 8 * s.length := fun t ht => by
  have : t.1.length + 7 ≤ sumW (wof (toks s)) := sumW_mem (List.mem_map.2 ⟨t, ht, rfl⟩ : t.1 ∈ wof (toks s))
  have := toks_sum s
  omega
theorem bld_toks (A : List UInt8 → Nat) (s : List UInt8) (k : Nat) : (bld A [] (wof ((toks s).take k))).length ≤ 8 * s.length := by
  have h1 := bld_le A (wof (toks s)) []
  have h2 := toks_sum s
  have h3 : wof (toks s) = wof ((toks s).take k) ++ wof ((toks s).drop k) := by rw [← wof_app, List.take_append_drop]
  rw [h3, bld_app] at h1
  have h4 := bld_len A (wof ((toks s).drop k)) (bld A [] (wof ((toks s).take k)))
  rw [← h3] at h1
  simp at h1
  omega
theorem chk_nodup {D : List (List UInt8)} : ∀ {l : List Tok} {seen : List (List UInt8)}, (chk D seen l).2 = 0 → seen.Nodup → (seen ++ dfs (wof l)).Nodup := by
  intro l
  induction l with
  | nil => intro seen _ h; simpa [wof, dfs] using h
  | cons t r ih =>
    intro seen h hn
    rw [chk] at h
    split at h
    · rename_i h0
      have : seen ++ dfs (wof (t :: r)) = (seen ++ dfs [t.1]) ++ dfs (wof r) := by
        rw [List.append_assoc, ← dfs_app]; rfl
      rw [this]
      refine ih h ?_
      rw [dfs_one]
      rcases e : defN t.1 with _ | n
      · simpa using hn
      · have := flt_new h0 e
        rw [List.nodup_append]
        refine ⟨hn, by simp, ?_⟩
        intro a ha b hb e
        subst e
        simp at hb
        subst hb
        exact this ha
    · rename_i h0
      exact absurd h h0
theorem lbs_range (A : List UInt8 → Nat) (o : Int) : ∀ (ws : List (List UInt8)) (t : List UInt8), ∀ p ∈ lbs A o t ws, o ≤ p.2 ∧ p.2 ≤ o + ((bld A t ws).length : Int) := by
  intro ws
  induction ws with
  | nil => intro t p hp; cases hp
  | cons w r ih =>
    intro t p hp
    rw [lbs] at hp
    rw [bld]
    rcases List.mem_append.1 hp with hp | hp
    · split at hp
      · rename_i n hd
        rw [List.mem_singleton.1 hp]
        have h1 := bld_len A r (stp A t w)
        have h2 : stp A t w = t := by unfold stp; rw [hd]
        rw [h2] at h1 ⊢
        dsimp only
        omega
      · cases hp
    · exact ih _ p hp
theorem lbs_fit (A : List UInt8 → Nat) (o : Int) (s : List UInt8) : ∀ p ∈ lbs A o [] (wof (toks s)), p.1.length ≤ 8 * s.length := by
  intro p hp
  have : p.1 ∈ dfs (wof (toks s)) := by rw [← lbs_names A o _ []]; exact List.mem_map.2 ⟨p, hp, rfl⟩
  obtain ⟨w, hw, hd⟩ := List.mem_filterMap.1 this
  obtain ⟨t, ht, rfl⟩ := List.mem_map.1 hw
  have h1 := toks_fit s t ht
  obtain ⟨e, _⟩ := def_some hd
  rw [e] at h1
  simp at h1
  omega
theorem look_in {L : List (List UInt8 × Int)} (n : List UInt8) : look L n = 0 ∨ ∃ p ∈ L, look L n = p.2 := by
  unfold look
  rcases e : L.find? (fun q => q.1 == n) with _ | q
  · rw [e]; exact .inl rfl
  · rw [e]; exact .inr ⟨q, List.mem_of_find?_eq_some e, rfl⟩
end Go.Proofs.YthmgocjmfhpafaaDoor.A18
