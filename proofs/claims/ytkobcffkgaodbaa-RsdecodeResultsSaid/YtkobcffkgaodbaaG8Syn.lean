/- Plain facts for layer 8: the moments of an error word (its syndromes), words weighted by a polynomial, what the key equations determine. No program is named here. -/
import Derived.Test.YtkobcffkgaodbaaG8Math
namespace Go.Proofs.Ytkobcffkgaodbaa.G8
open Go.Proofs.Ytkobcffkgaodbaa.G5
open Go.Proofs.Ytkobcffkgaodbaa.G7
open Go.Proofs.Ytkobcffkgaodbaa.G6 (ev ev_nil ev_cons ev_append ev_one xz zx xac xcan tac getD_set getD_far prodL prodL_len prodL_zero)
set_option linter.unusedVariables false
set_option linter.unusedSimpArgs false

/-- A list by its entries, as a sum at a place. -/
theorem ev_tab_add (n : Nat) (f g : Nat → R) (x : R) : ev (tab n fun m => f m ^^^ g m) x = ev (tab n f) x ^^^ ev (tab n g) x := by
  have key : ∀ l : List Nat, ev (l.map fun m => f m ^^^ g m) x = ev (l.map f) x ^^^ ev (l.map g) x := by
    intro l
    induction l with
    | nil => show (0 : R) = 0 ^^^ 0; rw [xs]
    | cons a l ih =>
      show (f a ^^^ g a) ^^^ tms x (ev (l.map fun m => f m ^^^ g m) x) = (f a ^^^ tms x (ev (l.map f) x)) ^^^ (g a ^^^ tms x (ev (l.map g) x))
      rw [ih, tms_b]
      simp only [BitVec.xor_assoc, BitVec.xor_comm, xac]
  exact key _
theorem ev_tab_mul (n : Nat) (c : R) (f : Nat → R) (x : R) : ev (tab n fun m => tms c (f m)) x = tms c (ev (tab n f) x) := by
  have key : ∀ l : List Nat, ev (l.map fun m => tms c (f m)) x = tms c (ev (l.map f) x) := by
    intro l
    induction l with
    | nil => show (0 : R) = tms c 0; rw [tms_zero]
    | cons a l ih =>
      show tms c (f a) ^^^ tms x (ev (l.map fun m => tms c (f m)) x) = tms c (f a ^^^ tms x (ev (l.map f) x))
      rw [ih, tms_b, tac]
  exact key _
/-- The next moment: each symbol times its own place. -/
theorem ev_tab_next (n : Nat) (f : Nat → R) (s : Nat) : ev (tab n fun m => tms (it m 1) (f m)) (it s 1) = ev (tab n f) (it (s + 1) 1) := by
  have key : ∀ (k j : Nat), ev ((List.range' j k).map fun m => tms (it m 1) (f m)) (it s 1) = tms (it j 1) (ev ((List.range' j k).map f) (it (s + 1) 1)) := by
    intro k
    induction k with
    | zero => intro j; show (0 : R) = tms _ 0; rw [tms_zero]
    | succ k ih =>
      intro j
      rw [List.range'_succ]
      show tms (it j 1) (f j) ^^^ tms (it s 1) (ev ((List.range' (j + 1) k).map fun m => tms (it m 1) (f m)) (it s 1)) = tms (it j 1) (f j ^^^ tms (it (s + 1) 1) (ev ((List.range' (j + 1) k).map f) (it (s + 1) 1)))
      rw [ih (j + 1), tms_b]
      congr 1
      rw [← tms_assoc, ← tms_assoc, it_tms, it_tms]
      congr 2
      omega
  have := key n 0
  rw [show it 0 1 = (1 : R) from rfl, one_tms, ← List.range_eq_range'] at this
  exact this
/-- A word weighted by a polynomial's values at the symbols' places. -/
def wl (f l : List R) : List R := tab l.length fun m => tms (l.getD m 0) (ev f (it m 1))
theorem wl_len (f l : List R) : (wl f l).length = l.length := tab_len _ _
theorem wl_get (f l : List R) (m : Nat) : (wl f l).getD m 0 = tms (l.getD m 0) (ev f (it m 1)) := by
  by_cases h : m < l.length
  · exact tab_get _ _ _ h
  · rw [getD_far _ _ (by rw [wl_len]; omega), getD_far _ _ (by omega), zero_tms]
theorem wl_nil (l : List R) (x : R) : ev (wl [] l) x = 0 := by
  have : wl [] l = tab l.length fun m => tms 0 (l.getD m 0) := tab_congr fun m _ => by rw [ev_nil, tms_zero, zero_tms]
  rw [this, ev_tab_mul, zero_tms]
theorem tab_self (l : List R) : tab l.length (fun m => l.getD m 0) = l := (tab_eq rfl fun _ _ => rfl).symm
/-- The moments of a weighted word. -/
theorem ev_wl_cons (c : R) (f l : List R) (s : Nat) : ev (wl (c :: f) l) (it s 1) = tms c (ev l (it s 1)) ^^^ ev (wl f l) (it (s + 1) 1) := by
  have h : wl (c :: f) l = tab l.length fun m => tms c (l.getD m 0) ^^^ tms (it m 1) (tms (l.getD m 0) (ev f (it m 1))) := tab_congr fun m _ => by
    rw [ev_cons, tms_b, tms_comm (l.getD m 0) c, tac]
  rw [h, ev_tab_add, ev_tab_mul, ev_tab_next, tab_self]
  rfl
theorem wl_wl (f g l : List R) : wl f (wl g l) = tab l.length fun m => tms (l.getD m 0) (tms (ev g (it m 1)) (ev f (it m 1))) := by
  unfold wl
  rw [tab_len]
  exact tab_congr fun m hm => by rw [tab_get _ _ _ hm, tms_assoc]
theorem wl_congr {f g l : List R} (h : ∀ m, m < l.length → l.getD m 0 ≠ 0 → ev f (it m 1) = ev g (it m 1)) : wl f l = wl g l := tab_congr fun m hm => by
  by_cases h0 : l.getD m 0 = 0
  · rw [h0, zero_tms, zero_tms]
  · rw [h m hm h0]
theorem wt_wl (f l : List R) : wt (wl f l) ≤ wt l := by
  rw [wt_cnt, wt_cnt, wl_len]
  refine cnt_mono fun i hi h => ?_
  rw [wl_get] at h
  by_cases h0 : l.getD i 0 = 0
  · rw [h0, zero_tms] at h
    simp at h
  · have : (l.getD i 0 == 0) = false := beq_eq_false_iff_ne.2 h0
    rw [this]
    rfl
/-- The key equations: a polynomial whose weighted word has no moments vanishes at each place of the word. -/
theorem key_zero {Q u : List R} {b : Nat} (hl : u.length ≤ 255) (hw : wt u ≤ b) (h : ∀ v, v < b → ev (wl Q u) (it v 1) = 0) : ∀ m, u.getD m 0 ≠ 0 → ev Q (it m 1) = 0 := by
  intro m hm
  have hz := few_symbols (p := b) (l := wl Q u) (by rw [wl_len]; exact hl) h (Nat.le_trans (wt_wl Q u) hw) m
  rw [wl_get] at hz
  rcases tms_eq_zero hz with h1 | h1
  · exact absurd h1 hm
  · exact h1
/-- The places of a word's symbols that are not zero. -/
theorem places_len (u : List R) : (nz u 0).length = wt u := nz_len u 0
/-- The locator: the product over the places; its weighted word is zero. -/
theorem loc_zero (u : List R) : wl (prodL (nz u 0)) u = List.replicate u.length 0 := by
  refine (tab_eq (by simp) fun m hm => ?_).symm
  by_cases h : u.getD m 0 = 0
  · rw [h, zero_tms]
    exact gz _ _
  · have hm' : it m 1 ∈ nz u 0 := by
      have := nz_mem u 0 m hm h
      rwa [Nat.zero_add] at this
    rw [(prodL_zero _ _).2 hm', tms_zero]
    exact gz _ _
end Go.Proofs.Ytkobcffkgaodbaa.G8
