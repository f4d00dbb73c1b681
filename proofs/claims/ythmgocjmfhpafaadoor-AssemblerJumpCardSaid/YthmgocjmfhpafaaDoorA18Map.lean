/- Maps from names to numbers; the first definitions. No walk here. -/
import Derived.Test.YthmgocjmfhpafaaDoorA18Mem
import Derived.Maps.Own
import Derived.StringKeys
import Derived.Maps.OwnSet
import Derived.Maps.OwnOps
import Derived.Maps.Views
namespace Go.Proofs.YthmgocjmfhpafaaDoor.A18
set_option maxRecDepth 100000
open Go.RowKit Mem
open Go.Maps Go.WideMaps
set_option linter.unusedVariables false
set_option linter.unusedSimpArgs false

theorem rev_ind {α : Type} {P : List α → Prop} (h0 : P []) (h1 : ∀ zs z, P zs → P (zs ++ [z])) : ∀ zs, P zs := by
  intro zs
  rw [← List.reverse_reverse zs]
  induction zs.reverse with
  | nil => exact h0
  | cons a l ih =>
    rw [List.reverse_cons]
    exact h1 _ _ ih
def mpD (l : List (List UInt8 × Int)) : DataW Unit := l.foldl (fun D p => D.put (.string p.1) (.lit (.int .i64 p.2))) (.map [])
theorem mpD_snoc (l : List (List UInt8 × Int)) (p : List UInt8 × Int) : mpD (l ++ [p]) = (mpD l).put (.string p.1) (.lit (.int .i64 p.2)) := by
  unfold mpD
  rw [List.foldl_append]
  rfl
theorem mpD_isMap : ∀ l, IsMap (mpD l) := by
  refine rev_ind ⟨[], rfl⟩ fun l p ih => ?_
  rw [mpD_snoc]
  exact ih.put _ _
theorem key_lit (n : List UInt8) : WideAt.IsKeyLit (Lit.string n) := trivial
theorem key_ne {a b : List UInt8} (h : a ≠ b) : Lit.string a ≠ Lit.string b := fun e => h (by injection e)
theorem has_mpD (n : List UInt8) : ∀ l, has (mpD l) (.string n) = decide (n ∈ l.map (·.1)) := by
  refine rev_ind rfl fun l p ih => ?_
  rw [mpD_snoc]
  by_cases e : n = p.1
  · subst e
    rw [has_put_same (mpD_isMap l) (key_lit _)]
    simp
  · rw [has_put_other (key_ne e), ih]
    exact decide_eq_decide.2 (by simp [e])
theorem look_nil (n : List UInt8) : look [] n = 0 := rfl
theorem look_snoc (l : List (List UInt8 × Int)) (p : List UInt8 × Int) (n : List UInt8) : look (l ++ [p]) n = if n ∈ l.map (·.1) then look l n else if n = p.1 then p.2 else 0 := by
  by_cases h : n ∈ l.map (·.1)
  · rw [if_pos h, look_app h]
  · rw [if_neg h]
    unfold look
    rw [List.find?_append]
    have : l.find? (fun q => q.1 == n) = none := by
      rw [List.find?_eq_none]
      intro q hq e
      exact h (List.mem_map.2 ⟨q, hq, by simpa using e⟩)
    rw [this]
    by_cases e : n = p.1
    · subst e
      simp
    · rw [if_neg e]
      have e2 : (p.1 == n) = false := beq_eq_false_iff_ne.2 (fun h => e h.symm)
      simp [e2]
theorem look_not {l : List (List UInt8 × Int)} {n : List UInt8} (h : n ∉ l.map (·.1)) : look l n = 0 := by
  unfold look
  have : l.find? (fun q => q.1 == n) = none := by
    rw [List.find?_eq_none]
    intro q hq e
    exact h (List.mem_map.2 ⟨q, hq, by simpa using e⟩)
  rw [this]
theorem at_mpD (n : List UInt8) : ∀ l : List (List UInt8 × Int), (l.map (·.1)).Nodup → (mpD l).atKey (.string n) (.lit (.int .i64 0)) = .lit (.int .i64 (look l n)) := by
  refine rev_ind (fun _ => rfl) fun l p ih hd => ?_
  rw [List.map_append, List.nodup_append] at hd
  obtain ⟨hd1, _, hd2⟩ := hd
  rw [mpD_snoc, look_snoc]
  by_cases e : n = p.1
  · subst e
    rw [atKey_put_same (mpD_isMap l) (key_lit _), if_neg (fun h => hd2 _ h _ (by simp) rfl), if_pos rfl]
  · rw [atKey_put_other (key_ne e), ih hd1]
    by_cases h : n ∈ l.map (·.1)
    · rw [if_pos h]
    · rw [if_neg h, if_neg e, look_not h]
theorem law : Keyed Tryd.prog 9 := string_keyed Tryd.underlying9
theorem zeroE (w : World) : (zeroValue 3).run Tryd.prog w = .ok (.int .i64 0) w := by kernel_rfl
/-- A map in block b. -/
structure IsMp (w : World) (b n : Nat) (l : List (List UInt8 × Int)) : Prop where
  own : w.ownsMap Tryd.prog 9 (plainElem Tryd.prog 3) b n (mpD l)
  nodup : (l.map (·.1)).Nodup
theorem IsMp.below {w w' : World} {b n : Nat} {l} (h : IsMp w b n l) (k : Below w.heap.size w w') : IsMp w' b n l := by
  refine ⟨?_, h.nodup⟩
  have hlt := h.own.lt
  obtain ⟨es, clock, hb, r⟩ := h.own
  exact ⟨es, clock, (k.block b hlt).trans hb, r⟩
theorem IsMp.kept {w w' : World} {b n : Nat} {l} (h : IsMp w b n l) {row : Option Nat} (k : w.grownBy w' row) (hne : some b ≠ row) : IsMp w' b n l := ⟨h.own.kept k hne, h.nodup⟩
/-- What is found at a name: in this world and in all later ones. -/
def LK (m : Option Nat) (w : World) (A : List UInt8 → Int) : Prop := ∀ W, Below w.heap.size w W → ∀ s : ByteArray, s.size ≤ 1000000 → (Instr.lookup 35 (.map m) (.string s) false).run Tryd.prog W = .ok (.int .i64 (A s.data.toList)) W
def LKo (m : Option Nat) (w : World) (A : List UInt8 → Int) (H : List UInt8 → Bool) : Prop := ∀ W, Below w.heap.size w W → ∀ s : ByteArray, s.size ≤ 1000000 → (Instr.lookup 35 (.map m) (.string s) true).run Tryd.prog W = .ok (.tuple #[.int .i64 (A s.data.toList), .bool (H s.data.toList)]) W
theorem LK.nil (w : World) : LK none w fun _ => 0 := fun W _ s hs =>
  Maps.look_nil (w := W) false law Tryd.underlying35 (zeroE _) (keyOf_string_mk Tryd.underlying9 (s := s) (by unfold maxLen; omega))
theorem IsMp.lk {w : World} {b n : Nat} {l} (h : IsMp w b n l) : LK (some b) w (look l) := fun W k s hs => by
  obtain ⟨c, hr, hc, _⟩ := (h.below k).own.lookup_int law Tryd.underlying35 Tryd.underlying3 (zeroE _) (keyOf_string_mk Tryd.underlying9 (s := s) (by unfold maxLen; omega))
  rw [at_mpD _ _ h.nodup] at hc
  injection hc with hc
  injection hc with _ hc
  rw [hr, hc]
theorem IsMp.lko {w : World} {b n : Nat} {l} (h : IsMp w b n l) : LKo (some b) w (look l) (fun x => decide (x ∈ l.map (·.1))) := fun W k s hs => by
  obtain ⟨v, ps, hr, hv⟩ := (h.below k).own.look_ok law Tryd.underlying35 (zeroE _) (plainElem_int Tryd.underlying3 (by decide)) (keyOf_string_mk Tryd.underlying9 (s := s) (by unfold maxLen; omega))
  obtain ⟨c, rfl, hc, _⟩ := plainElem_int_inv Tryd.underlying3 hv
  rw [at_mpD _ _ h.nodup] at hc
  injection hc with hc _
  injection hc with hc
  injection hc with _ hc
  rw [hr, has_mpD, hc]
theorem LK.below {m : Option Nat} {w w' : World} {A : List UInt8 → Int} (h : LK m w A) (k : Below w.heap.size w w') : LK m w' A := fun W hW => h W (chain k hW)
theorem LKo.below {m : Option Nat} {w w' : World} {A : List UInt8 → Int} {H} (h : LKo m w A H) (k : Below w.heap.size w w') : LKo m w' A H := fun W hW => h W (chain k hW)

/-! ### The first definitions -/
def fdStep (l : List (List UInt8 × Int)) (k : Nat) (w : List UInt8) : List (List UInt8 × Int) :=
  match defN w with
  | some n => if n ∈ l.map (·.1) then l else l ++ [(n, (k : Int))]
  | none => l
def fdl (ws : List (List UInt8)) : Nat → List (List UInt8 × Int)
  | 0 => []
  | k + 1 => match ws[k]? with
    | some w => fdStep (fdl ws k) k w
    | none => fdl ws k
theorem dfs_take (ws : List (List UInt8)) (k : Nat) (w : List UInt8) (h : ws[k]? = some w) : dfs (ws.take (k + 1)) = dfs (ws.take k) ++ dfs [w] := by
  obtain ⟨hk, rfl⟩ := List.getElem?_eq_some_iff.1 h
  rw [List.take_succ_eq_append_getElem hk, dfs_app]
theorem dfs_mono (ws : List (List UInt8)) {i j : Nat} (h : i ≤ j) {n : List UInt8} (hn : n ∈ dfs (ws.take i)) : n ∈ dfs (ws.take j) := by
  have : ws.take j = ws.take i ++ (ws.drop i).take (j - i) := by rw [← List.take_add]; congr 1; omega
  rw [this, dfs_app]
  exact List.mem_append.2 (.inl hn)
theorem fdl_mem (ws : List (List UInt8)) (n : List UInt8) : ∀ k, n ∈ (fdl ws k).map (·.1) ↔ n ∈ dfs (ws.take k) := by
  intro k
  induction k with
  | zero => simp [fdl, dfs]
  | succ k ih =>
    rw [fdl]
    rcases e : ws[k]? with _ | w
    · have : ws.take (k + 1) = ws.take k := by
        rw [List.getElem?_eq_none_iff] at e
        rw [List.take_of_length_le (by omega), List.take_of_length_le e]
      rw [this]
      exact ih
    · rw [dfs_take ws k w e, List.mem_append, dfs_one, ← ih]
      dsimp only
      unfold fdStep
      rcases d : defN w with _ | m
      · simp
      · dsimp only
        by_cases hm : m ∈ (fdl ws k).map (·.1)
        · rw [if_pos hm]
          constructor
          · exact Or.inl
          · rintro (h | h)
            · exact h
            · simp at h
              subst h
              exact hm
        · rw [if_neg hm, List.map_append, List.mem_append]
          simp [eq_comm]
theorem fdl_nodup (ws : List (List UInt8)) : ∀ k, ((fdl ws k).map (·.1)).Nodup := by
  intro k
  induction k with
  | zero => simp [fdl]
  | succ k ih =>
    rw [fdl]
    split
    · unfold fdStep
      split
      · split
        · exact ih
        · rename_i w _ n _ hn
          rw [List.map_append, List.nodup_append]
          refine ⟨ih, by simp, ?_⟩
          intro a ha b hb e
          subst e
          simp at hb
          subst hb
          exact hn ha
      · exact ih
    · exact ih
theorem fdl_spot (ws : List (List UInt8)) : ∀ k p, p ∈ fdl ws k → ∃ i : Nat, p.2 = (i : Int) ∧ i < k ∧ p.1 ∈ dfs (ws.take (i + 1)) ∧ p.1 ∉ dfs (ws.take i) := by
  intro k
  induction k with
  | zero => intro p hp; cases hp
  | succ k ih =>
    intro p hp
    rw [fdl] at hp
    have old : p ∈ fdl ws k → ∃ i : Nat, p.2 = (i : Int) ∧ i < k + 1 ∧ p.1 ∈ dfs (ws.take (i + 1)) ∧ p.1 ∉ dfs (ws.take i) := fun h => by
      obtain ⟨i, h1, h2, h3⟩ := ih p h
      exact ⟨i, h1, by omega, h3⟩
    split at hp
    · rename_i w hw
      unfold fdStep at hp
      split at hp
      · rename_i n hn
        split at hp
        · exact old hp
        · rename_i hm
          rcases List.mem_append.1 hp with hp | hp
          · exact old hp
          · rw [List.mem_singleton.1 hp]
            refine ⟨k, rfl, by omega, ?_, ?_⟩
            · rw [dfs_take ws k w hw, dfs_one, hn]
              simp
            · rw [← fdl_mem]
              exact hm
      · exact old hp
    · exact old hp
theorem look_mem {l : List (List UInt8 × Int)} (hd : (l.map (·.1)).Nodup) {n : List UInt8} (h : n ∈ l.map (·.1)) : (n, look l n) ∈ l := by
  unfold look
  rcases e : l.find? (fun q => q.1 == n) with _ | q
  · obtain ⟨p, hp, rfl⟩ := List.mem_map.1 h
    have := List.find?_eq_none.1 e p hp
    simp at this
  · have h1 := List.find?_some e
    have h2 := List.mem_of_find?_eq_some e
    simp at h1
    subst h1
    rw [e]
    exact h2
/-- Whether the first definition of a name lies ahead of a token that defines it. -/
theorem first_lt (ws : List (List UInt8)) {j : Nat} {w n : List UInt8} (hj : ws[j]? = some w) (hd : defN w = some n) : look (fdl ws ws.length) n < (j : Int) ↔ n ∈ dfs (ws.take j) := by
  have hlt := (List.getElem?_eq_some_iff.1 hj).1
  have hin : n ∈ dfs (ws.take (j + 1)) := by rw [dfs_take ws j w hj, dfs_one, hd]; simp
  have hm : n ∈ (fdl ws ws.length).map (·.1) := (fdl_mem ws n _).2 (dfs_mono ws (by omega) hin)
  obtain ⟨i, h1, h2, h3, h4⟩ := fdl_spot ws _ _ (look_mem (fdl_nodup ws _) hm)
  dsimp only at h1 h3 h4
  rw [h1]
  constructor
  · intro h
    exact dfs_mono ws (by omega) h3
  · intro h
    rcases Nat.lt_or_ge i j with h5 | h5
    · omega
    · exact absurd (dfs_mono ws h5 h) h4
theorem look_fdl_nn (ws : List (List UInt8)) (n : List UInt8) : 0 ≤ look (fdl ws ws.length) n ∧ look (fdl ws ws.length) n ≤ ws.length := by
  by_cases h : n ∈ (fdl ws ws.length).map (·.1)
  · obtain ⟨i, h1, h2, _⟩ := fdl_spot ws _ _ (look_mem (fdl_nodup ws _) h)
    dsimp only at h1
    rw [h1]
    omega
  · rw [look_not h]
    omega
theorem chk_step {D : List (List UInt8)} {L : List Tok} {k : Nat} {t : Tok} (h : L[k]? = some t) : chk D (dfs (wof (L.take k))) (L.drop k) = if flt D (dfs (wof (L.take k))) t.1 = 0 then chk D (dfs (wof (L.take (k + 1)))) (L.drop (k + 1)) else (t.2, flt D (dfs (wof (L.take k))) t.1) := by
  obtain ⟨hk, rfl⟩ := List.getElem?_eq_some_iff.1 h
  rw [← List.getElem_cons_drop hk, chk, List.take_succ_eq_append_getElem hk, wof_app, dfs_app]
  rfl
theorem wof_get {L : List Tok} {k : Nat} {t : Tok} (h : L[k]? = some t) : (wof L)[k]? = some t.1 := by
  unfold wof
  rw [List.getElem?_map, h]
  rfl
theorem wof_tk (L : List Tok) (k : Nat) : wof (L.take k) = (wof L).take k := by
  unfold wof
  rw [List.map_take]
end Go.Proofs.YthmgocjmfhpafaaDoor.A18
