/- Plain facts on interleaving, as functions on positions and on lists: pos, mv (bytes moved one by one), il, dl; the reference's order (Ord). No program is named here. -/
import Derived.Calls
namespace Go.Proofs.Ythncpflbojoejaa.I11
/-- Where position i lies in the interleaved form of n bytes in r rows. -/
def pos (n r i : Nat) : Nat := (i % r) * (n / r) + min (i % r) (n % r) + i / r
/-- Where row p begins. -/
def st (n r p : Nat) : Nat := p * (n / r) + min p (n % r)
/-- How many bytes row p has. -/
def ln (n r p : Nat) : Nat := n / r + if p < n % r then 1 else 0
theorem pos_eq (n r i : Nat) : pos n r i = st n r (i % r) + i / r := rfl
theorem pos_at (n r p q : Nat) (h : p < r) : pos n r (q * r + p) = st n r p + q := by
  have e1 : (q * r + p) % r = p := by rw [Nat.mul_comm, Nat.mul_add_mod]; exact Nat.mod_eq_of_lt h
  have e2 : (q * r + p) / r = q := by rw [Nat.mul_comm, Nat.mul_add_div (by omega), Nat.div_eq_of_lt h, Nat.add_zero]
  rw [pos_eq, e1, e2]
theorem st_zero (n r : Nat) : st n r 0 = 0 := by simp [st]
theorem st_all (n r : Nat) (h : 0 < r) : st n r r = n := by
  have := Nat.mod_lt n h
  have := Nat.div_add_mod n r
  unfold st
  rw [Nat.min_eq_right (by omega)]
  exact this
theorem st_succ (n r p : Nat) : st n r (p + 1) = st n r p + ln n r p := by
  unfold st ln
  rw [Nat.add_mul, Nat.one_mul]
  split <;> omega
theorem st_le (n r : Nat) {p s : Nat} (h : p ≤ s) : st n r p ≤ st n r s := by
  unfold st
  have := Nat.mul_le_mul_right (n / r) h
  omega
theorem in_row (n r p q : Nat) (h : p < r) : q * r + p < n ↔ q < ln n r p := by
  have hm := Nat.mod_lt n (show 0 < r by omega)
  have hd := Nat.div_add_mod n r
  rw [Nat.mul_comm] at hd
  unfold ln
  obtain ⟨N, hN⟩ : ∃ N, n / r = N := ⟨_, rfl⟩
  obtain ⟨M, hM⟩ : ∃ M, n % r = M := ⟨_, rfl⟩
  rw [hN, hM] at hd ⊢
  rw [hM] at hm
  by_cases h1 : q < N
  · have := Nat.mul_le_mul_right r (show q + 1 ≤ N from h1)
    rw [Nat.add_mul, Nat.one_mul] at this
    constructor <;> intro _ <;> omega
  · by_cases h2 : q = N
    · subst h2
      constructor
      · intro _
        rw [if_pos (by omega)]
        omega
      · intro h3
        split at h3 <;> omega
    · have := Nat.mul_le_mul_right r (show N + 1 ≤ q by omega)
      rw [Nat.add_mul, Nat.one_mul] at this
      constructor
      · intro _; omega
      · intro h3
        split at h3 <;> omega
theorem split_at (r i : Nat) (h : 0 < r) : ∃ p q, p < r ∧ i = q * r + p := ⟨i % r, i / r, Nat.mod_lt _ h, by rw [Nat.mul_comm]; exact (Nat.div_add_mod i r).symm⟩
theorem pos_lt {n r i : Nat} (hr : 0 < r) (h : i < n) : pos n r i < n := by
  obtain ⟨p, q, hp, rfl⟩ := split_at r i hr
  rw [pos_at n r p q hp]
  have h1 := (in_row n r p q hp).1 h
  have h2 := st_succ n r p
  have h3 := st_le n r (show p + 1 ≤ r from hp)
  rw [st_all n r hr] at h3
  omega
theorem pos_inj {n r i j : Nat} (hr : 0 < r) (hi : i < n) (hj : j < n) (h : pos n r i = pos n r j) : i = j := by
  obtain ⟨p, q, hp, rfl⟩ := split_at r i hr
  obtain ⟨p', q', hp', rfl⟩ := split_at r j hr
  rw [pos_at n r p q hp, pos_at n r p' q' hp'] at h
  have h1 := (in_row n r p q hp).1 hi
  have h1' := (in_row n r p' q' hp').1 hj
  have h2 := st_succ n r p
  have h2' := st_succ n r p'
  have : p = p' := by
    rcases Nat.lt_trichotomy p p' with h3 | h3 | h3
    · have := st_le n r (show p + 1 ≤ p' from h3); omega
    · exact h3
    · have := st_le n r (show p' + 1 ≤ p from h3); omega
  subst this
  have : q = q' := by omega
  rw [this]
theorem row_of (n r k : Nat) : ∀ m, k < st n r m → ∃ p, p < m ∧ st n r p ≤ k ∧ k < st n r (p + 1)
  | 0, h => by rw [st_zero] at h; omega
  | m + 1, h => by
    by_cases h1 : k < st n r m
    · obtain ⟨p, hp, h2⟩ := row_of n r k m h1
      exact ⟨p, by omega, h2⟩
    · exact ⟨m, by omega, by omega, h⟩
theorem pos_sur {n r k : Nat} (hr : 0 < r) (h : k < n) : ∃ i, i < n ∧ pos n r i = k := by
  obtain ⟨p, hp, h1, h2⟩ := row_of n r k r (by rw [st_all n r hr]; exact h)
  rw [st_succ] at h2
  refine ⟨(k - st n r p) * r + p, (in_row n r p _ hp).2 (by omega), ?_⟩
  rw [pos_at n r p _ hp]
  omega
theorem st_end {n r p : Nat} (hr : 0 < r) (h1 : p ≤ r) (h2 : p ≤ n) (h : ¬ (p < r ∧ p < n)) : st n r p = n := by
  by_cases e : p = r
  · subst e; exact st_all n p hr
  · obtain rfl : p = n := by omega
    unfold st
    rw [Nat.div_eq_of_lt (by omega), Nat.mod_eq_of_lt (show p < r by omega), Nat.mul_zero, Nat.min_self, Nat.zero_add]
/-- Near positions of the interleaved form come from far ones. -/
theorem spread {n r i j : Nat} (hr : 0 < r) (hi : i < n) (hj : j < n) (hne : i ≠ j) (h : pos n r i < pos n r j + (n / r - 1)) (h' : pos n r j < pos n r i + (n / r - 1)) : i + r ≤ j ∨ j + r ≤ i := by
  obtain ⟨p, q, hp, rfl⟩ := split_at r i hr
  obtain ⟨p', q', hp', rfl⟩ := split_at r j hr
  rw [pos_at n r p q hp, pos_at n r p' q' hp'] at h h'
  have key : ∀ p q p' q', p < r → p' < r → p < p' → st n r p' + q' < st n r p + q + (n / r - 1) → q * r + p + r ≤ q' * r + p' ∨ q' * r + p' + r ≤ q * r + p := by
    intro p q p' q' hp hp' hlt h
    have h1 := st_le n r (show p + 1 ≤ p' from hlt)
    have h2 := st_succ n r p
    have h3 : n / r ≤ ln n r p := by unfold ln; omega
    have h4 : q' + 2 ≤ q := by omega
    have h5 := Nat.mul_le_mul_right r h4
    rw [Nat.add_mul] at h5
    omega
  rcases Nat.lt_trichotomy p p' with h3 | h3 | h3
  · exact key p q p' q' hp hp' h3 h'
  · subst h3
    rcases Nat.lt_trichotomy q q' with h4 | h4 | h4
    · have := Nat.mul_le_mul_right r (show q + 1 ≤ q' from h4)
      rw [Nat.add_mul] at this
      omega
    · subst h4; exact absurd rfl hne
    · have := Nat.mul_le_mul_right r (show q' + 1 ≤ q from h4)
      rw [Nat.add_mul] at this
      omega
  · exact (key p' q' p q hp' hp h3 h).symm
theorem pos_one (n i : Nat) : pos n 1 i = i := by
  unfold pos
  simp [Nat.mod_one]
theorem pos_great {n r i : Nat} (h : i < n) (hr : n ≤ r) : pos n r i = i := by
  unfold pos
  rw [Nat.mod_eq_of_lt (show i < r by omega), Nat.div_eq_of_lt (show i < r by omega)]
  by_cases e : n = r
  · subst e
    rw [Nat.mod_self, Nat.div_self (by omega)]
    omega
  · rw [Nat.mod_eq_of_lt (show n < r by omega), Nat.div_eq_of_lt (show n < r by omega)]
    omega
theorem pos_turn {r c i : Nat} (hr : 0 < r) (hc : 0 < c) (h : i < r * c) : pos (r * c) r (pos (r * c) c i) = i := by
  obtain ⟨p, q, hp, rfl⟩ := split_at c i hc
  have hq : q < r := by
    by_cases hq : q < r
    · exact hq
    · have := Nat.mul_le_mul_right c (show r ≤ q by omega)
      omega
  have e1 : pos (r * c) c (q * c + p) = p * r + q := by
    rw [pos_at _ _ _ _ hp, st, Nat.mul_div_cancel _ hc, Nat.mul_mod_left, Nat.min_eq_right (Nat.zero_le _), Nat.add_zero]
  rw [e1, pos_at _ _ _ _ hq, st, Nat.mul_comm r c, Nat.mul_div_cancel _ hr, Nat.mul_mod_left, Nat.min_eq_right (Nat.zero_le _), Nat.add_zero]
theorem pos_parts {n r i : Nat} (hr : 0 < r) (h : i < n) : (i % r) * (n / r) ≤ n ∧ (i % r) * (n / r) + min (i % r) (n % r) ≤ n := by
  have := pos_lt hr h
  unfold pos at this
  have := Nat.zero_le (i / r)
  generalize i / r = e at *
  omega

/-- Bytes moved one by one: byte f i goes to place g i. -/
def mv (f g : Nat → Nat) (l : List UInt8) (n : Nat) : Nat → List UInt8
  | 0 => List.replicate n 0
  | k + 1 => (mv f g l n k).set (g k) (l.getD (f k) 0)
theorem mv_len (f g : Nat → Nat) (l : List UInt8) (n : Nat) : ∀ k, (mv f g l n k).length = n
  | 0 => by simp [mv]
  | k + 1 => by rw [mv, List.length_set]; exact mv_len f g l n k
theorem getD_of {l : List UInt8} {i : Nat} (h : i < l.length) : l.getD i 0 = l[i] := by
  rw [List.getD_eq_getElem?_getD, List.getElem?_eq_getElem h]; rfl
theorem mv_get (f g : Nat → Nat) (l : List UInt8) (n : Nat) (hg : ∀ i, i < n → g i < n) (hi : ∀ i j, i < n → j < n → g i = g j → i = j) : ∀ k, k ≤ n → ∀ i, i < k → (mv f g l n k).getD (g i) 0 = l.getD (f i) 0
  | 0, _, i, h => by omega
  | k + 1, hk, i, h => by
    have hl := mv_len f g l n (k + 1)
    rw [getD_of (by rw [hl]; exact hg i (by omega))]
    simp only [mv]
    rw [List.getElem_set]
    by_cases e : g k = g i
    · rw [if_pos e]
      have := hi k i (by omega) (by omega) e
      rw [this]
    · rw [if_neg e, ← getD_of (by rw [mv_len]; exact hg i (by omega))]
      refine mv_get f g l n hg hi k (by omega) i ?_
      have : i ≠ k := fun x => e (by rw [x])
      omega
/-- The interleaved form; its inverse. -/
def il (r : Nat) (l : List UInt8) : List UInt8 := mv id (pos l.length r) l l.length l.length
def dl (r : Nat) (l : List UInt8) : List UInt8 := mv (pos l.length r) id l l.length l.length
theorem il_len (r : Nat) (l : List UInt8) : (il r l).length = l.length := mv_len _ _ _ _ _
theorem dl_len (r : Nat) (l : List UInt8) : (dl r l).length = l.length := mv_len _ _ _ _ _
theorem il_at {r : Nat} (hr : 0 < r) (l : List UInt8) {i : Nat} (h : i < l.length) : (il r l).getD (pos l.length r i) 0 = l.getD i 0 :=
  mv_get id (pos l.length r) l l.length (fun _ h => pos_lt hr h) (fun _ _ h1 h2 h3 => pos_inj hr h1 h2 h3) l.length (Nat.le_refl _) i h
theorem dl_at (r : Nat) (l : List UInt8) {i : Nat} (h : i < l.length) : (dl r l).getD i 0 = l.getD (pos l.length r i) 0 :=
  mv_get (pos l.length r) id l l.length (fun _ h => h) (fun _ _ _ _ h => h) l.length (Nat.le_refl _) i h
theorem eq_getD {a b : List UInt8} (hl : a.length = b.length) (h : ∀ i, i < a.length → a.getD i 0 = b.getD i 0) : a = b := by
  refine List.ext_getElem hl fun i h1 h2 => ?_
  have := h i h1
  rwa [getD_of h1, getD_of h2] at this
theorem il_only {r : Nat} (hr : 0 < r) (l m : List UInt8) (hl : m.length = l.length) (h : ∀ i, i < l.length → m.getD (pos l.length r i) 0 = l.getD i 0) : m = il r l := by
  refine eq_getD (by rw [hl, il_len]) fun k hk => ?_
  obtain ⟨i, hi, rfl⟩ := pos_sur hr (n := l.length) (k := k) (by omega)
  rw [h i hi, il_at hr l hi]
theorem dl_only (r : Nat) (l m : List UInt8) (hl : m.length = l.length) (h : ∀ i, i < l.length → m.getD i 0 = l.getD (pos l.length r i) 0) : m = dl r l := by
  refine eq_getD (by rw [hl, dl_len]) fun k hk => ?_
  rw [h k (by omega), dl_at r l (by omega)]
theorem dl_il {r : Nat} (hr : 0 < r) (l : List UInt8) : dl r (il r l) = l := by
  refine (dl_only r _ _ (by rw [il_len]) fun i hi => ?_).symm
  rw [il_len] at hi ⊢
  exact (il_at hr l hi).symm
theorem il_dl {r : Nat} (hr : 0 < r) (l : List UInt8) : il r (dl r l) = l := by
  refine (il_only hr _ _ (by rw [dl_len]) fun i hi => ?_).symm
  rw [dl_len] at hi ⊢
  exact (dl_at r l hi).symm
theorem il_one (l : List UInt8) : il 1 l = l := (il_only (by decide) l l rfl fun i _ => by rw [pos_one]).symm
theorem il_great {r : Nat} (hr : 0 < r) (l : List UInt8) (h : l.length ≤ r) : il r l = l := (il_only hr l l rfl fun i hi => by rw [pos_great hi h]).symm
theorem il_map {r : Nat} (hr : 0 < r) (f : UInt8 → UInt8) (l : List UInt8) : il r (l.map f) = (il r l).map f := by
  refine (il_only hr _ _ (by simp [il_len]) fun i hi => ?_).symm
  rw [List.length_map] at hi ⊢
  have hp : pos l.length r i < (il r l).length := by rw [il_len]; exact pos_lt hr hi
  rw [getD_of (by rw [List.length_map]; exact hp), getD_of (by rw [List.length_map]; exact hi), List.getElem_map, List.getElem_map, ← getD_of hp, ← getD_of hi, il_at hr l hi]
theorem dl_turn {r c : Nat} (hr : 0 < r) (hc : 0 < c) (l : List UInt8) (h : l.length = r * c) : dl r l = il c l := by
  refine (dl_only r l _ (by rw [il_len]) fun i hi => ?_).symm
  have hp := pos_lt hr hi
  have := il_at hc l hp
  rw [← this, h, Nat.mul_comm r c, pos_turn hc hr (by rw [Nat.mul_comm, ← h]; exact hi)]

/-- The places of the interleaved form, in some order: all of them, each once. -/
theorem places {n r : Nat} (hr : 0 < r) : ((List.range n).map (pos n r)).Perm (List.range n) := by
  rw [List.perm_iff_count]
  intro k
  have hnd : ((List.range n).map (pos n r)).Nodup := by
    refine List.Pairwise.map _ ?_ (List.Pairwise.and_mem.1 (List.nodup_range (n := n)))
    intro a b ⟨ha, hb, hab⟩ e
    exact hab (pos_inj hr (List.mem_range.1 ha) (List.mem_range.1 hb) e)
  rw [hnd.count, List.nodup_range.count]
  refine ite_congr (propext ⟨fun h => ?_, fun h => ?_⟩) (fun _ => rfl) (fun _ => rfl)
  · obtain ⟨i, hi, rfl⟩ := List.mem_map.1 h
    exact List.mem_range.2 (pos_lt hr (List.mem_range.1 hi))
  · obtain ⟨i, hi, rfl⟩ := pos_sur hr (List.mem_range.1 h)
    exact List.mem_map.2 ⟨i, List.mem_range.2 hi, rfl⟩
theorem by_range {α : Type} (l : List α) (f : Nat → α) (h : ∀ i (hi : i < l.length), l[i] = f i) : l = (List.range l.length).map f := by
  refine List.ext_getElem (by simp) fun i h1 h2 => ?_
  simp [h i h1]
theorem zip_il {r : Nat} (hr : 0 < r) (a b : List UInt8) (h : a.length = b.length) : ((il r a).zip (il r b)).Perm (a.zip b) := by
  have e1 : (il r a).zip (il r b) = (List.range a.length).map fun k => ((il r a).getD k 0, (il r b).getD k 0) := by
    have := by_range ((il r a).zip (il r b)) (fun k => ((il r a).getD k 0, (il r b).getD k 0)) fun i hi => by
      rw [List.length_zip] at hi
      rw [List.getElem_zip, getD_of (show i < (il r a).length by omega), getD_of (show i < (il r b).length by omega)]
    rwa [List.length_zip, il_len, il_len, ← h, Nat.min_self] at this
  have e2 : a.zip b = ((List.range a.length).map (pos a.length r)).map fun k => ((il r a).getD k 0, (il r b).getD k 0) := by
    have := by_range (a.zip b) (fun i => ((il r a).getD (pos a.length r i) 0, (il r b).getD (pos a.length r i) 0)) fun i hi => by
      rw [List.length_zip] at hi
      have h2 := il_at hr b (i := i) (by omega)
      rw [← h] at h2
      rw [List.getElem_zip, il_at hr a (by omega), h2, getD_of, getD_of]
    rw [List.length_zip, ← h, Nat.min_self] at this
    rw [this, List.map_map]
    rfl
  rw [e1, e2]
  exact (places hr).symm.map _
theorem perm_il {r : Nat} (hr : 0 < r) (a : List UInt8) : (il r a).Perm a := by
  have h := (zip_il hr a a rfl).map Prod.fst
  rwa [List.map_fst_zip (Nat.le_refl _), List.map_fst_zip (Nat.le_refl _)] at h

/-- The first k places of the interleaved form, by where their bytes come from. -/
structure Ord (n r : Nat) (l : List Nat) (k : Nat) : Prop where
  len : l.length = k
  get : ∀ j, j < k → l.getD j 0 < n ∧ pos n r (l.getD j 0) = j
theorem Ord.nil (n r : Nat) : Ord n r [] 0 := ⟨rfl, fun j h => by omega⟩
theorem Ord.snoc {n r : Nat} {l : List Nat} {k i : Nat} (h : Ord n r l k) (hi : i < n) (hp : pos n r i = k) : Ord n r (l ++ [i]) (k + 1) := by
  refine ⟨by simp [h.len], fun j hj => ?_⟩
  rw [List.getD_eq_getElem?_getD, List.getElem?_append]
  have hl := h.len
  by_cases e : j < k
  · rw [if_pos (by omega), ← List.getD_eq_getElem?_getD]
    exact h.get j e
  · rw [if_neg (by omega), hl, show j - k = 0 by omega]
    exact ⟨hi, by rw [show j = k by omega]; exact hp⟩
theorem Ord.back {n r : Nat} {l : List Nat} (hr : 0 < r) (h : Ord n r l n) {i : Nat} (hi : i < n) : l.getD (pos n r i) 0 = i :=
  have := h.get _ (pos_lt hr hi)
  pos_inj hr this.1 hi this.2
/-- The interleaved form, picked in order. -/
theorem pick {r : Nat} (hr : 0 < r) (s : List UInt8) (l : List Nat) (h : Ord s.length r l s.length) : l.map (fun i => s.getD i 0) = il r s := by
  refine il_only hr s _ (by rw [List.length_map, h.len]) fun i hi => ?_
  have hp : pos s.length r i < l.length := by rw [h.len]; exact pos_lt hr hi
  rw [getD_of (by rw [List.length_map]; exact hp), List.getElem_map]
  have := h.back hr hi
  rw [List.getD_eq_getElem?_getD, List.getElem?_eq_getElem hp] at this
  rw [show l[pos s.length r i] = i from this]
theorem lay {r : Nat} (hr : 0 < r) (s : List UInt8) (l : List Nat) (h : Ord s.length r l s.length) : mv id (fun k => l.getD k 0) s s.length s.length = dl r s := by
  refine dl_only r s _ (mv_len _ _ _ _ _) fun i hi => ?_
  have := mv_get id (fun k => l.getD k 0) s s.length (fun k hk => (h.get k hk).1) (fun a b ha hb e => by
    have h1 := (h.get a ha).2
    have h2 := (h.get b hb).2
    rw [← h1, ← h2]
    exact congrArg _ e) s.length (Nat.le_refl _) (pos s.length r i) (pos_lt hr hi)
  rwa [h.back hr hi] at this
end Go.Proofs.Ythncpflbojoejaa.I11
