/- Plain facts for the landed layer 10: costs and inputs chosen, the least path followed by them. No program is named here. -/
import Derived.Test.YtmkmikegddafdaaV10Con
namespace Go.Proofs.Ytmkmikegddafdaa.V10
open C9
set_option linter.unusedVariables false
set_option linter.unusedSimpArgs false

/-- The lesser one of two costs, -1: none. -/
def lsN (a b : Int) : Int := if a = b then a else if b = -1 ∨ a < b then a else b
/-- The inputs that have it: 0, 1, 2 for either. -/
def chN (a b : Int) : Nat := if a = b then 2 else if b = -1 ∨ a < b then 0 else 1
theorem chN_le (a b : Int) : chN a b ≤ 2 := by
  unfold chN
  split
  · omega
  · split <;> omega
/-- The cost of the paths that begin with an input. -/
def viaN (m : Nat) (a : Int) : Int := if a = -1 then -1 else (m : Int) + a
def via (r : UInt8 × UInt8) (R : List (UInt8 × UInt8)) (s1 s2 u : Bool) : Int := viaN (mm r s1 s2 u) (tb R u s1).1
def chE (R : List (UInt8 × UInt8)) (s1 s2 : Bool) : Nat :=
  match R with
  | [] => 0
  | r :: R => chN (via r R s1 s2 false) (via r R s1 s2 true)
theorem chE_le (R : List (UInt8 × UInt8)) (s1 s2 : Bool) : chE R s1 s2 ≤ 2 := by
  cases R with
  | nil => exact Nat.zero_le _
  | cons r R => exact chN_le _ _
theorem fin_zeros : ∀ (n : Nat) (s1 s2 : Bool), fin s1 s2 (List.replicate (n + 2) false) = (false, false)
  | 0, s1, s2 => rfl
  | n + 1, s1, s2 => fin_zeros n false s1
/-- Where a path with the input 1 leads to the end, one with the input 0 does. -/
theorem tb_zero_of_one (R : List (UInt8 × UInt8)) (s1 : Bool) (h : 0 ≤ (tb R true s1).1) : 0 ≤ (tb R false s1).1 := by
  obtain ⟨⟨l, hl, _⟩, _⟩ := (tb_ok R true s1).pos h
  have hp : Path R false s1 (List.replicate R.length false) := by
    refine ⟨List.length_replicate, ?_⟩
    have h1 := hl.len
    have h2 := hl.zero
    match l, h1, h2 with
    | [], _, h2 => cases h2
    | [u], _, h2 => cases h2
    | u :: v :: l, h1, _ =>
      rw [← h1]
      exact fin_zeros l.length false s1
  by_cases hn : (tb R false s1).1 < 0
  · exact absurd hp (((tb_ok R false s1).neg hn).2 _)
  · omega
theorem tb_cost (r : UInt8 × UInt8) (R : List (UInt8 × UInt8)) (s1 s2 : Bool) : (tb (r :: R) s1 s2).1 = lsN (via r R s1 s2 false) (via r R s1 s2 true) := by
  have hz := tb_zero_of_one R s1
  have h0 := tb_int R false s1
  have h1 := tb_int R true s1
  show (add1 (add1 (-1, 0) (mm r s1 s2 false) (tb R false s1)) (mm r s1 s2 true) (tb R true s1)).1 = _
  rw [add1_fst, add1_fst]
  unfold via
  generalize (tb R false s1).1 = a at *
  generalize (tb R true s1).1 = b at *
  generalize mm r s1 s2 false = m at *
  generalize mm r s1 s2 true = k at *
  have l0 : ∀ (n : Nat), least (-1) n a = viaN n a := fun n => by
    unfold least viaN
    by_cases ha : a = -1
    · rw [if_pos (by omega), if_pos ha]
    · rw [if_neg (by omega), if_pos (.inl (by decide)), if_neg ha]
  rw [l0]
  have ha : viaN m a = -1 ∨ 0 ≤ viaN m a := by
    unfold viaN
    split <;> omega
  by_cases hb : b = -1
  · have e1 : viaN k b = -1 := if_pos hb
    have e2 : ∀ x, least x k b = x := fun x => if_pos (by omega)
    rw [e1, e2]
    unfold lsN
    split
    · rfl
    · rw [if_pos (.inl rfl)]
  · have e1 : viaN k b = (k : Int) + b := if_neg hb
    have h3 : 0 ≤ a := hz (by omega)
    have e0 : viaN m a = (m : Int) + a := if_neg (by omega)
    rw [e1, e0]
    unfold least lsN
    rw [if_neg (by omega)]
    by_cases h4 : (m : Int) + a = (k : Int) + b
    · rw [if_pos h4, if_neg (by omega)]
    · rw [if_neg h4]
      by_cases h5 : (m : Int) + a < (k : Int) + b
      · rw [if_neg (by omega), if_pos (.inr h5)]
      · rw [if_pos (.inr (by omega)), if_neg (by omega)]
/-- The least path goes on by the input chosen; it is the only one if neither this transition nor what follows has several. -/
theorem dec_cho (r : UInt8 × UInt8) (R : List (UInt8 × UInt8)) (s1 s2 : Bool) (h : 0 ≤ (tb (r :: R) s1 s2).1) (u : Bool) (hu : u = decide (chE (r :: R) s1 s2 = 1)) :
    dec (r :: R) s1 s2 = u :: dec R u s1 ∧ 0 ≤ (tb R u s1).1 ∧ (decide ((tb (r :: R) s1 s2).2 = 1) = (decide (chE (r :: R) s1 s2 ≠ 2) && decide ((tb R u s1).2 = 1))) := by
  have hz := tb_zero_of_one R s1
  have h0 := tb_int R false s1
  have h1 := tb_int R true s1
  have hc := tb_cost r R s1 s2
  have hd : dec (r :: R) s1 s2 = if (tb R false s1).1 < 0 ∨ (mm r s1 s2 false : Int) + (tb R false s1).1 ≠ (tb (r :: R) s1 s2).1 then true :: dec R true s1 else false :: dec R false s1 := rfl
  have hp : (tb (r :: R) s1 s2).2 = (add1 (add1 (-1, 0) (mm r s1 s2 false) (tb R false s1)) (mm r s1 s2 true) (tb R true s1)).2 := rfl
  rw [hd, hp]
  have hch : chE (r :: R) s1 s2 = chN (via r R s1 s2 false) (via r R s1 s2 true) := rfl
  rw [hch] at hu ⊢
  have h00 : 0 ≤ (tb R false s1).1 := by
    by_cases hn : (tb R false s1).1 < 0
    · have e0 : (tb R false s1).1 = -1 := by omega
      have e1 : (tb R true s1).1 = -1 := by
        by_cases h' : 0 ≤ (tb R true s1).1
        · have := hz h'; omega
        · omega
      rw [hc] at h
      unfold lsN via viaN at h
      rw [e0, e1] at h
      simp at h
    · omega
  rw [hc]
  have v0 : via r R s1 s2 false = (mm r s1 s2 false : Int) + (tb R false s1).1 := by unfold via viaN; rw [if_neg (by omega)]
  have v1 : via r R s1 s2 true = if (tb R true s1).1 = -1 then -1 else (mm r s1 s2 true : Int) + (tb R true s1).1 := rfl
  have a0 : add1 (-1, 0) (mm r s1 s2 false) (tb R false s1) = ((mm r s1 s2 false : Int) + (tb R false s1).1, (tb R false s1).2) := by
    unfold add1
    rw [if_neg (by omega), if_pos (.inl (by decide))]
  rw [a0]
  clear hd hp hch a0
  rw [v0] at hu ⊢
  have hm0 : 0 ≤ (mm r s1 s2 false : Int) := by omega
  have hm1 : 0 ≤ (mm r s1 s2 true : Int) := by omega
  obtain ⟨a, ha⟩ : ∃ a, (mm r s1 s2 false : Int) + (tb R false s1).1 = a := ⟨_, rfl⟩
  have ha0 : 0 ≤ a := by omega
  rw [ha] at hu ⊢
  by_cases hn : (tb R true s1).1 = -1
  · rw [v1, if_pos hn] at hu ⊢
    have e2 : lsN a (-1) = a := by unfold lsN; rw [if_neg (by omega), if_pos (.inl rfl)]
    have e3 : chN a (-1) = 0 := by unfold chN; rw [if_neg (by omega), if_pos (.inl rfl)]
    rw [e3] at hu ⊢
    have hu' : u = false := hu
    subst hu'
    rw [e2, if_neg (by omega)]
    refine ⟨rfl, h00, ?_⟩
    have e4 : add1 (a, (tb R false s1).2) (mm r s1 s2 true) (tb R true s1) = (a, (tb R false s1).2) := by
      unfold add1
      rw [if_pos (by omega)]
    rw [e4]
    simp
  · have h10 : 0 ≤ (tb R true s1).1 := by omega
    rw [v1, if_neg hn] at hu ⊢
    obtain ⟨b, hb⟩ : ∃ b, (mm r s1 s2 true : Int) + (tb R true s1).1 = b := ⟨_, rfl⟩
    rw [hb] at hu ⊢
    have hb0 : 0 ≤ b := by omega
    have e4 : add1 (a, (tb R false s1).2) (mm r s1 s2 true) (tb R true s1) = if b < a then (b, (tb R true s1).2) else if b = a then (a, 2) else (a, (tb R false s1).2) := by
      unfold add1
      rw [if_neg (by omega), hb]
      by_cases hlt : b < a
      · rw [if_pos (.inr hlt), if_pos hlt]
      · rw [if_neg (by simp only; omega), if_neg hlt]
    rw [e4]
    by_cases hlt : b < a
    · have e2 : lsN a b = b := by unfold lsN; rw [if_neg (by omega), if_neg (by omega)]
      have e3 : chN a b = 1 := by unfold chN; rw [if_neg (by omega), if_neg (by omega)]
      rw [e3] at hu ⊢
      have hu' : u = true := hu
      subst hu'
      rw [e2, if_pos (.inr (by omega)), if_pos hlt]
      exact ⟨rfl, h10, by simp⟩
    · by_cases heq : b = a
      · have e2 : lsN a b = a := by unfold lsN; rw [if_pos heq.symm]
        have e3 : chN a b = 2 := by unfold chN; rw [if_pos heq.symm]
        rw [e3] at hu ⊢
        have hu' : u = false := hu
        subst hu'
        rw [e2, if_neg (by omega), if_neg hlt, if_pos heq]
        exact ⟨rfl, h00, by simp⟩
      · have e2 : lsN a b = a := by unfold lsN; rw [if_neg (by omega), if_pos (.inr (by omega))]
        have e3 : chN a b = 0 := by unfold chN; rw [if_neg (by omega), if_pos (.inr (by omega))]
        rw [e3] at hu ⊢
        have hu' : u = false := hu
        subst hu'
        rw [e2, if_neg (by omega), if_neg hlt, if_neg heq]
        exact ⟨rfl, h00, by simp⟩
/-- What holds when k transitions of the least path have been followed. -/
structure Follow (R : List (UInt8 × UInt8)) (k : Nat) (s1 s2 q : Bool) : Prop where
  state : fin false false ((dec R false false).take k) = (s1, s2)
  rest : (dec R false false).drop k = dec (R.drop k) s1 s2
  pos : 0 ≤ (tb (R.drop k) s1 s2).1
  one : decide ((tb R false false).2 = 1) = (q && decide ((tb (R.drop k) s1 s2).2 = 1))
theorem Follow.start {R : List (UInt8 × UInt8)} (h : 0 ≤ (tb R false false).1) : Follow R 0 false false true := ⟨rfl, rfl, h, by simp⟩
theorem Follow.next {R : List (UInt8 × UInt8)} {k : Nat} {s1 s2 q : Bool} (h : Follow R k s1 s2 q) (hk : k < R.length) (u : Bool) (hu : u = decide (chE (R.drop k) s1 s2 = 1)) (hd : k < (dec R false false).length) :
    (dec R false false)[k] = u ∧ Follow R (k + 1) u s1 (q && decide (chE (R.drop k) s1 s2 ≠ 2)) := by
  have hr := List.drop_eq_getElem_cons hk
  have h3 := h.pos
  have h2 := h.rest
  have h4 := h.one
  rw [hr] at hu h2 h3 h4
  obtain ⟨g1, g2, g3⟩ := dec_cho _ _ s1 s2 h3 u hu
  rw [g1, List.drop_eq_getElem_cons hd] at h2
  injection h2 with e1 e2
  refine ⟨e1, ?_, ?_, ?_, ?_⟩
  · rw [List.take_succ_eq_append_getElem hd, fin_app, h.state, e1]
    rfl
  · exact e2
  · exact g2
  · rw [h4, g3, hr, Bool.and_assoc]
theorem Follow.done {R : List (UInt8 × UInt8)} {s1 s2 q : Bool} (h : Follow R R.length s1 s2 q) : decide ((tb R false false).2 = 1) = q := by
  have h1 := h.one
  have h2 := h.pos
  rw [List.drop_length] at h1 h2
  rw [h1]
  revert h2
  cases s1 <;> cases s2 <;> cases q <;> decide
/-- A state's two bits. -/
def hi (s : Nat) : Bool := decide (2 ≤ s)
def lo (s : Nat) : Bool := decide (s % 2 = 1)
theorem stN_hilo : ∀ s, s < 4 → stN (hi s) (lo s) = s := by decide
theorem hi_lo_next (s : Nat) (u : Bool) : stN u (hi s) < 4 := by cases u <;> cases hi s <;> decide
end Go.Proofs.Ytmkmikegddafdaa.V10
