/- Plain facts for layer 8 (rsdecode): counting places, words within the radius, what a decoder hands back. No program is named here. -/
import Derived.Test.YtkobcffkgaodbaaG7Tab
namespace Go.Proofs.Ytkobcffkgaodbaa.G8
open Go.Proofs.Ytkobcffkgaodbaa.G5
open Go.Proofs.Ytkobcffkgaodbaa.G7
open Go.Proofs.Ytkobcffkgaodbaa.G6 (xz zx getD_set getD_far)
set_option linter.unusedVariables false
set_option linter.unusedSimpArgs false

/-! ### counting places -/
def cnt (n : Nat) (P : Nat → Bool) : Nat := ((List.range n).filter P).length
theorem cnt_zero (P : Nat → Bool) : cnt 0 P = 0 := rfl
theorem cnt_succ (n : Nat) (P : Nat → Bool) : cnt (n + 1) P = cnt n P + (if P n then 1 else 0) := by
  unfold cnt
  rw [List.range_succ, List.filter_append, List.length_append]
  cases h : P n <;> simp [h]
theorem cnt_le (n : Nat) (P : Nat → Bool) : cnt n P ≤ n := by
  unfold cnt
  have := List.length_filter_le P (List.range n)
  simpa using this
theorem cnt_congr {n : Nat} {P Q : Nat → Bool} (h : ∀ i, i < n → P i = Q i) : cnt n P = cnt n Q := by
  induction n with
  | zero => rfl
  | succ n ih => rw [cnt_succ, cnt_succ, ih fun i hi => h i (by omega), h n (by omega)]
theorem cnt_or {n : Nat} {P A B : Nat → Bool} (h : ∀ i, i < n → P i = true → A i = true ∨ B i = true) : cnt n P ≤ cnt n A + cnt n B := by
  induction n with
  | zero => exact Nat.zero_le _
  | succ n ih =>
    rw [cnt_succ, cnt_succ, cnt_succ]
    have := ih fun i hi => h i (by omega)
    have h1 := h n (by omega)
    cases hP : P n
    · simp
      omega
    · rcases h1 hP with e | e <;> rw [e] <;> simp <;> split <;> omega
theorem cnt_mono {n : Nat} {P Q : Nat → Bool} (h : ∀ i, i < n → P i = true → Q i = true) : cnt n P ≤ cnt n Q := by
  have := cnt_or (n := n) (P := P) (A := Q) (B := fun _ => false) fun i hi hp => .inl (h i hi hp)
  have h0 : cnt n (fun _ => false) = 0 := by
    unfold cnt
    simp
  omega
theorem cnt_one (n k : Nat) : cnt n (fun i => i == k) ≤ 1 := by
  induction n with
  | zero => exact Nat.zero_le _
  | succ n ih =>
    rw [cnt_succ]
    by_cases h : n = k
    · subst h
      have : cnt n (fun i => i == n) = 0 := by
        have : cnt n (fun i => i == n) = cnt n (fun _ => false) := cnt_congr fun i hi => by simp; omega
        rw [this]
        unfold cnt
        simp
      rw [this]
      simp
    · have : (n == k) = false := by simpa using h
      rw [this]
      simpa using ih
theorem cnt_mem : ∀ (n : Nat) (zs : List Int), cnt n (fun i => decide ((i : Int) ∈ zs)) ≤ zs.length
  | n, [] => by
    unfold cnt
    simp
  | n, z :: zs => by
    have ih := cnt_mem n zs
    have h1 := cnt_or (n := n) (P := fun i => decide ((i : Int) ∈ z :: zs)) (A := fun i => i == z.toNat) (B := fun i => decide ((i : Int) ∈ zs)) fun i hi h => by
      simp only [decide_eq_true_eq, List.mem_cons] at h
      rcases h with h | h
      · left
        simp only [beq_iff_eq]
        omega
      · right
        simpa using h
    have := cnt_one n z.toNat
    simp only [List.length_cons]
    omega
theorem wt_cnt : ∀ u : List R, wt u = cnt u.length (fun i => !(u.getD i 0 == 0)) := by
  intro u
  have key : ∀ n, n ≤ u.length → wt (u.take n) = cnt n (fun i => !(u.getD i 0 == 0)) := by
    intro n
    induction n with
    | zero => intro _; rfl
    | succ n ih =>
      intro h
      rw [cnt_succ, ← ih (by omega), G6.take_snoc u n (by omega), wt_append, wt_cons, show wt ([] : List R) = 0 from rfl]
      cases he : (u.getD n 0 == 0)
      · have : ¬ u.getD n 0 = 0 := by simpa using he
        rw [if_neg this]
        rfl
      · have : u.getD n 0 = 0 := by simpa using he
        rw [if_pos this]
        rfl
  have := key u.length (Nat.le_refl _)
  rwa [List.take_length] at this

/-! ### words within the radius -/
def differ (w c : List R) (i : Nat) : Bool := !(w.getD i 0 == c.getD i 0)
def dif (w c : List R) : Nat := cnt w.length (differ w c)
def errs (w c : List R) (L : Nat → Bool) : Nat := cnt w.length (fun i => differ w c i && !L i)
def losts (n : Nat) (L : Nat → Bool) : Nat := cnt n L
structure Within (p : Nat) (w : List R) (L : Nat → Bool) (c : List R) : Prop where
  cw : Cw p c
  len : c.length = w.length
  rad : 2 * errs w c L + losts w.length L ≤ p
theorem Within.only {p : Nat} {w c d : List R} {L : Nat → Bool} (h : Within p w L c) (k : Within p w L d) (hl : w.length ≤ 255) : c = d := by
  have hlen : c.length = d.length := h.len.trans k.len.symm
  refine h.cw.same k.cw hlen (by rw [h.len]; exact hl) ?_
  rw [wt_cnt, xr_len _ _ hlen, h.len]
  have h1 := cnt_or (n := w.length) (P := fun i => !((xr c d).getD i 0 == 0)) (A := L) (B := fun i => (differ w c i && !L i) || (differ w d i && !L i)) fun i hi hp => by
    rw [row_vl.xr_get c d i (by rw [h.len]; exact hi) (by rw [k.len]; exact hi)] at hp
    cases hL : L i
    · right
      simp only [Bool.not_false, Bool.and_true]
      have hne : ¬ c.getD i 0 = d.getD i 0 := fun e => by rw [e, xs] at hp; simp at hp
      unfold differ
      by_cases e1 : w.getD i 0 = c.getD i 0
      · have e2 : ¬ w.getD i 0 = d.getD i 0 := fun e => hne (e1.symm.trans e)
        rw [show (w.getD i 0 == d.getD i 0) = false from beq_eq_false_iff_ne.2 e2]
        simp
      · rw [show (w.getD i 0 == c.getD i 0) = false from beq_eq_false_iff_ne.2 e1]
        simp
    · left
      rfl
  have h2 := cnt_or (n := w.length) (P := fun i => (differ w c i && !L i) || (differ w d i && !L i)) (A := fun i => differ w c i && !L i) (B := fun i => differ w d i && !L i) fun i hi hp => by
    simpa using hp
  have r1 := h.rad
  have r2 := k.rad
  unfold errs losts at r1 r2
  omega
theorem errs_self (w : List R) (L : Nat → Bool) : errs w w L = 0 := by
  unfold errs
  have : cnt w.length (fun i => differ w w i && !L i) = cnt w.length (fun _ => false) := cnt_congr fun i _ => by simp [differ]
  rw [this]
  unfold cnt
  simp
theorem dif_self (w : List R) : dif w w = 0 := by
  unfold dif
  have : cnt w.length (differ w w) = cnt w.length (fun _ => false) := cnt_congr fun i _ => by simp [differ]
  rw [this]
  unfold cnt
  simp
/-- The erasures as a set of places. -/
def Lof (zs : List Int) (i : Nat) : Bool := decide ((i : Int) ∈ zs)
theorem losts_le (n : Nat) (zs : List Int) : losts n (Lof zs) ≤ zs.length := cnt_mem n zs
theorem Within.self {p : Nat} {c : List R} {zs : List Int} (h : Cw p c) (hz : zs.length ≤ p) : Within p c (Lof zs) c :=
  ⟨h, rfl, by rw [errs_self]; have := losts_le c.length zs; omega⟩
/-- The same places in another list. -/
theorem Within.same {p : Nat} {w c : List R} {zs ys : List Int} (h : Within p w (Lof zs) c) (he : ∀ z, z ∈ zs ↔ z ∈ ys) : Within p w (Lof ys) c := by
  have : Lof zs = Lof ys := by
    funext i
    unfold Lof
    exact decide_eq_decide.2 (he _)
  rw [← this]
  exact h
/-- A changed place declared an erasure. -/
theorem Within.more {p : Nat} {w c : List R} {zs ys : List Int} {k : Nat} (h : Within p w (Lof zs) c) (hk : k < w.length) (hd : differ w c k = true) (he : ∀ z, z ∈ ys ↔ z ∈ zs ∨ z = (k : Int)) : Within p w (Lof ys) c := by
  by_cases hin : (k : Int) ∈ zs
  · refine h.same fun z => ?_
    rw [he]
    exact ⟨.inl, fun h => h.elim id fun e => by rw [e]; exact hin⟩
  · refine ⟨h.cw, h.len, ?_⟩
    have hLy : ∀ i, Lof ys i = (Lof zs i || i == k) := fun i => by
      unfold Lof
      rw [Bool.eq_iff_iff]
      simp only [decide_eq_true_eq, Bool.or_eq_true, beq_iff_eq, he]
      exact or_congr Iff.rfl ⟨fun h => by omega, fun h => by omega⟩
    have h1 : losts w.length (Lof ys) ≤ losts w.length (Lof zs) + 1 := by
      have := cnt_or (n := w.length) (P := Lof ys) (A := Lof zs) (B := fun i => i == k) fun i hi hp => by
        rw [hLy] at hp
        simpa using hp
      have := cnt_one w.length k
      unfold losts
      omega
    have h2 : errs w c (Lof ys) + 1 ≤ errs w c (Lof zs) := by
      unfold errs
      have key : ∀ n, k < n → cnt n (fun i => differ w c i && !Lof ys i) + 1 ≤ cnt n (fun i => differ w c i && !Lof zs i) := by
        intro n hn
        induction n with
        | zero => omega
        | succ n ih =>
          rw [cnt_succ, cnt_succ]
          by_cases e : n = k
          · subst e
            have hz : Lof zs n = false := by
              unfold Lof
              simpa using hin
            rw [hLy n, hd, hz]
            have := cnt_mono (n := n) (P := fun i => differ w c i && !Lof ys i) (Q := fun i => differ w c i && !Lof zs i) fun i hi hp => by
              rw [hLy] at hp
              simp only [Bool.and_eq_true, Bool.not_eq_true', Bool.or_eq_false_iff] at hp ⊢
              exact ⟨hp.1, hp.2.1⟩
            simp
            omega
          · have hne : (n == k) = false := by simpa using e
            have := ih (by omega)
            rw [hLy n, hne, Bool.or_false]
            omega
      exact key _ hk
    have := h.rad
    omega
/-- Damage: one more symbol changed. -/
theorem errs_set (w c : List R) (L : Nat → Bool) (k : Nat) (v : R) : errs (w.set k v) c L ≤ errs w c L + 1 := by
  unfold errs
  rw [List.length_set]
  have h1 := cnt_or (n := w.length) (P := fun i => differ (w.set k v) c i && !L i) (A := fun i => differ w c i && !L i) (B := fun i => i == k) fun i hi hp => by
    by_cases e : i = k
    · right
      simpa using e
    · left
      unfold differ at hp ⊢
      by_cases hk : k < w.length
      · rw [getD_set _ _ _ _ hk, if_neg e] at hp
        exact hp
      · rw [List.set_eq_of_length_le (by omega)] at hp
        exact hp
  have := cnt_one w.length k
  omega
theorem errs_lose (w c : List R) (zs ys : List Int) (k : Nat) (v : R) (hy : ∀ z, z ∈ ys ↔ z ∈ zs ∨ z = (k : Int)) : errs (w.set k v) c (Lof ys) ≤ errs w c (Lof zs) := by
  unfold errs
  rw [List.length_set]
  refine cnt_mono fun i hi hp => ?_
  simp only [Bool.and_eq_true, Bool.not_eq_true'] at hp ⊢
  have hne : ¬ i = k := fun e => by
    have h2 := hp.2
    unfold Lof at h2
    rw [decide_eq_false_iff_not, hy] at h2
    exact h2 (.inr (by rw [e]))
  have hnz : Lof zs i = false := by
    have h2 := hp.2
    unfold Lof at h2 ⊢
    rw [decide_eq_false_iff_not, hy] at h2
    exact decide_eq_false fun h => h2 (.inl h)
  refine ⟨?_, hnz⟩
  have h1 := hp.1
  unfold differ at h1 ⊢
  by_cases hk : k < w.length
  · rw [getD_set _ _ _ _ hk, if_neg hne] at h1
    exact h1
  · rw [List.set_eq_of_length_le (by omega)] at h1
    exact h1
theorem losts_snoc (n : Nat) (zs ys : List Int) (k : Nat) (hy : ∀ z, z ∈ ys ↔ z ∈ zs ∨ z = (k : Int)) : losts n (Lof ys) ≤ losts n (Lof zs) + 1 := by
  have := cnt_or (n := n) (P := Lof ys) (A := Lof zs) (B := fun i => i == k) fun i hi hp => by
    unfold Lof at hp ⊢
    rw [decide_eq_true_eq, hy] at hp
    rcases hp with h | h
    · left
      exact decide_eq_true h
    · right
      simp only [beq_iff_eq]
      omega
  have := cnt_one n k
  unfold losts
  omega

/-! ### what a decoder hands back -/
def Bad (n : Nat) (p : Int) (zs : List Int) : Prop := p < 1 ∨ 64 < p ∨ (n : Int) < p ∨ 255 < n ∨ ∃ z ∈ zs, z < 0 ∨ (n : Int) ≤ z
def DecQ (w : List R) (p : Int) (zs : List Int) (S : ByteArray) (n k : Int) : Prop :=
  (Bad w.length p zs → S = ⟨#[]⟩ ∧ n = 0 ∧ k = 1) ∧
  (¬ Bad w.length p zs → (∀ c, Within p.toNat w (Lof zs) c → S = str c ∧ n = (dif w c : Int) ∧ k = 0) ∧ ((∀ c, ¬ Within p.toNat w (Lof zs) c) → S = ⟨#[]⟩ ∧ n = 0 ∧ k = 11))
theorem DecQ.only {w : List R} {p : Int} {zs : List Int} {S S' : ByteArray} {n n' k k' : Int} (h : DecQ w p zs S n k) (h' : DecQ w p zs S' n' k') : S = S' ∧ n = n' ∧ k = k' := by
  by_cases hb : Bad w.length p zs
  · obtain ⟨rfl, rfl, rfl⟩ := h.1 hb
    obtain ⟨rfl, rfl, rfl⟩ := h'.1 hb
    exact ⟨rfl, rfl, rfl⟩
  · by_cases hc : ∃ c, Within p.toNat w (Lof zs) c
    · obtain ⟨c, hc⟩ := hc
      obtain ⟨rfl, rfl, rfl⟩ := (h.2 hb).1 c hc
      obtain ⟨rfl, rfl, rfl⟩ := (h'.2 hb).1 c hc
      exact ⟨rfl, rfl, rfl⟩
    · have hc' : ∀ c, ¬ Within p.toNat w (Lof zs) c := fun c h => hc ⟨c, h⟩
      obtain ⟨rfl, rfl, rfl⟩ := (h.2 hb).2 hc'
      obtain ⟨rfl, rfl, rfl⟩ := (h'.2 hb).2 hc'
      exact ⟨rfl, rfl, rfl⟩
end Go.Proofs.Ytkobcffkgaodbaa.G8
