/- Plain facts for layer 2 (netstring): decimal digits, what the readers answer. No program is named here. -/
import Derived.Calls
namespace Go.Proofs.YtjmnjcjpcmonjaaDoor.N2
set_option linter.unusedVariables false

/-! ### decimal digits -/
def digF : Nat → Nat → List UInt8
  | 0, _ => []
  | f + 1, u => if u < 10 then [UInt8.ofNat (48 + u)] else digF f (u / 10) ++ [UInt8.ofNat (48 + u % 10)]
def dig (u : Nat) : List UInt8 := digF (u + 1) u
theorem digF_eq : ∀ f g u : Nat, u < f → u < g → digF f u = digF g u
  | 0, _, _, h, _ => by omega
  | f + 1, 0, _, _, h => by omega
  | f + 1, g + 1, u, h, h' => by
    unfold digF
    by_cases h10 : u < 10
    · rw [if_pos h10, if_pos h10]
    · rw [if_neg h10, if_neg h10, digF_eq f g (u / 10) (by omega) (by omega)]
theorem dig_small (u : Nat) (h : u < 10) : dig u = [UInt8.ofNat (48 + u)] := by
  unfold dig digF
  rw [if_pos h]
theorem dig_step (u : Nat) (h : ¬ u < 10) : dig u = dig (u / 10) ++ [UInt8.ofNat (48 + u % 10)] := by
  unfold dig
  conv => lhs; unfold digF
  rw [if_neg h, digF_eq u (u / 10 + 1) (u / 10) (by omega) (by omega)]
theorem dig_mod (u : Nat) : dig (u % 10) = [UInt8.ofNat (48 + u % 10)] := dig_small _ (by omega)
theorem dig_len : ∀ (k u : Nat), u < 10 ^ (k + 1) → (dig u).length ≤ k + 1
  | 0, u, h => by rw [dig_small u (by simpa using h)]; simp
  | k + 1, u, h => by
    by_cases h10 : u < 10
    · rw [dig_small u h10]; simp
    · rw [dig_step u h10, List.length_append]
      have := dig_len k (u / 10) (by rw [Nat.pow_succ] at h; omega)
      simp
      omega
theorem dig_pos (u : Nat) : 0 < (dig u).length := by
  by_cases h10 : u < 10
  · rw [dig_small u h10]; simp
  · rw [dig_step u h10]; simp
/-- A whole number in decimal. -/
def decI (n : Int) : List UInt8 := if n < 0 then 45 :: dig n.natAbs else dig n.natAbs
theorem decI_neg {n : Int} (h : n < 0) : decI n = [45] ++ dig n.natAbs := by unfold decI; rw [if_pos h]; rfl
theorem decI_pos {n : Int} (h : ¬ n < 0) : decI n = dig n.natAbs := by unfold decI; rw [if_neg h]
def numL (n : Int) : List UInt8 := decI n ++ [32]
def strL (s : List UInt8) : List UInt8 := dig s.length ++ [58] ++ s ++ [44]
def strsL (l : List (List UInt8)) : List UInt8 := l.flatMap strL

/-! ### the index of a byte -/
def posI (l : List UInt8) (k : Nat) (c : UInt8) : Int := match (l.drop k).findIdx? (· == c) with
  | some j => ((k + j : Nat) : Int)
  | none => -1
theorem posI_hit {l : List UInt8} {k i : Nat} {c : UInt8} (h1 : k ≤ i) (h2 : i < l.length) (h3 : l[i] = c) (h4 : ∀ j, k ≤ j → j < i → l[j]? ≠ some c) : posI l k c = (i : Int) := by
  have : (l.drop k).findIdx? (· == c) = some (i - k) := by
    rw [List.findIdx?_eq_some_iff_getElem]
    refine ⟨by simp; omega, ?_, ?_⟩
    · simp only [List.getElem_drop]
      have e : k + (i - k) = i := by omega
      simp only [e, h3, beq_self_eq_true]
    · intro j hj
      have := h4 (k + j) (by omega) (by omega)
      rw [List.getElem?_eq_getElem (by omega)] at this
      simp only [List.getElem_drop]
      simpa using this
  unfold posI
  rw [this]
  show ((k + (i - k) : Nat) : Int) = i
  omega
theorem posI_none {l : List UInt8} {k : Nat} {c : UInt8} (h : ∀ j, k ≤ j → j < l.length → l[j]? ≠ some c) : posI l k c = -1 := by
  have : (l.drop k).findIdx? (· == c) = none := by
    rw [List.findIdx?_eq_none_iff]
    intro x hx
    obtain ⟨j, hj, rfl⟩ := List.mem_iff_getElem.1 hx
    have hj' : k + j < l.length := by simp at hj; omega
    have := h (k + j) (by omega) hj'
    rw [List.getElem?_eq_getElem hj'] at this
    simp only [List.getElem_drop]
    simpa using this
  unfold posI
  rw [this]
/-- Either there is none, or it lies between. -/
theorem posI_cases (l : List UInt8) (k : Nat) (c : UInt8) : posI l k c = -1 ∨ ∃ i : Nat, posI l k c = (i : Int) ∧ k ≤ i ∧ i < l.length ∧ l[i]? = some c ∧ ∀ j, k ≤ j → j < i → l[j]? ≠ some c := by
  unfold posI
  rcases h : (l.drop k).findIdx? (· == c) with _ | j
  · exact .inl rfl
  · right
    rw [List.findIdx?_eq_some_iff_getElem] at h
    obtain ⟨hj, h1, h2⟩ := h
    have hj' : k + j < l.length := by simp at hj; omega
    refine ⟨k + j, rfl, by omega, hj', ?_, ?_⟩
    · rw [List.getElem?_eq_getElem hj']
      simp only [List.getElem_drop] at h1
      simpa using h1
    · intro i hi1 hi2
      have := h2 (i - k) (by omega)
      simp only [List.getElem_drop] at this
      rw [List.getElem?_eq_getElem (by omega)]
      have e : k + (i - k) = i := by omega
      simp only [e] at this
      simpa using this

/-! ### a natural number in decimal, read -/
def isDg (c : UInt8) : Bool := decide (48 ≤ c.toNat) && decide (c.toNat ≤ 57)
def top : Nat := 1099511627776
def dcS (n : Nat) (c : UInt8) : Nat := min (10 * n + (c.toNat - 48)) top
def dcv (l : List UInt8) : Nat := l.foldl dcS 0
def dcok (l : List UInt8) : Bool := !l.isEmpty && !(decide (1 < l.length) && l.head? == some 48) && l.all isDg
def dcn (l : List UInt8) : Int := if dcok l = true then (dcv l : Int) else 0
theorem dcv_snoc (l : List UInt8) (c : UInt8) : dcv (l ++ [c]) = dcS (dcv l) c := by simp [dcv]
theorem dcS_le (n : Nat) (c : UInt8) : dcS n c ≤ top := Nat.min_le_right _ _
theorem dcv_le (l : List UInt8) : dcv l ≤ top := by
  suffices h : ∀ m : List UInt8, dcv m.reverse ≤ top by simpa using h l.reverse
  intro m
  cases m with
  | nil => exact Nat.zero_le _
  | cons c m => rw [List.reverse_cons, dcv_snoc]; exact dcS_le _ _

/-! ### what the readers answer -/
def rdN (l : List UInt8) (a : Int) : Int × Int × Int :=
  if a < 0 ∨ (l.length : Int) < a then (0, 0, 1) else
  if posI l a.toNat 32 < 0 then (0, 0, 4) else
  let w := (l.drop a.toNat).take ((posI l a.toNat 32).toNat - a.toNat)
  let v := if w.head? = some 45 then w.tail else w
  if dcok v = false ∨ (w.head? = some 45 ∧ dcv v = 0) then (0, 0, 3) else
  let n : Int := if w.head? = some 45 then -(dcv v : Int) else (dcv v : Int)
  if n < -2147483648 ∨ 2147483647 < n then (0, 0, 2) else (n, posI l a.toNat 32 + 1, 0)
def rdS (l : List UInt8) (a : Int) : List UInt8 × Int × Int :=
  if a < 0 ∨ (l.length : Int) < a then ([], 0, 1) else
  if posI l a.toNat 58 < 0 then ([], 0, 4) else
  let p := (posI l a.toNat 58).toNat
  let w := (l.drop a.toNat).take (p - a.toNat)
  if dcok w = false then ([], 0, 3) else
  if (l.length : Int) - (p : Int) - 1 ≤ (dcv w : Int) then ([], 0, 4) else
  if l[p + 1 + dcv w]? ≠ some 44 then ([], 0, 3) else
  ((l.drop (p + 1)).take (dcv w), (p : Int) + 2 + (dcv w : Int), 0)
/-- The strings read from index k on, with fuel; the error's number. -/
def rdLF (l : List UInt8) : Nat → Nat → List (List UInt8) × Int
  | 0, _ => ([], 0)
  | f + 1, k => if l.length ≤ k then ([], 0) else
    if (rdS l (k : Int)).2.2 = 0 then
      (if (rdLF l f (rdS l (k : Int)).2.1.toNat).2 = 0 then ((rdS l (k : Int)).1 :: (rdLF l f (rdS l (k : Int)).2.1.toNat).1, 0) else ([], (rdLF l f (rdS l (k : Int)).2.1.toNat).2))
    else ([], (rdS l (k : Int)).2.2)
def rdL (l : List UInt8) : List (List UInt8) × Int := rdLF l (l.length + 1) 0

theorem rdN_arg {l : List UInt8} {a : Int} (h : a < 0 ∨ (l.length : Int) < a) : rdN l a = (0, 0, 1) := by unfold rdN; rw [if_pos h]
theorem rdN_short {l : List UInt8} {a : Int} (h : ¬ (a < 0 ∨ (l.length : Int) < a)) (h1 : posI l a.toNat 32 < 0) : rdN l a = (0, 0, 4) := by unfold rdN; rw [if_neg h, if_pos h1]
theorem rdN_at {l : List UInt8} {a p : Nat} {w : List UInt8} (h : a ≤ l.length) (h1 : posI l a 32 = (p : Int)) (hw : (l.drop a).take (p - a) = w) : rdN l (a : Int) =
    (if dcok (if w.head? = some 45 then w.tail else w) = false ∨ (w.head? = some 45 ∧ dcv (if w.head? = some 45 then w.tail else w) = 0) then (0, 0, 3) else
      if (if w.head? = some 45 then -(dcv (if w.head? = some 45 then w.tail else w) : Int) else (dcv (if w.head? = some 45 then w.tail else w) : Int)) < -2147483648 ∨ 2147483647 < (if w.head? = some 45 then -(dcv (if w.head? = some 45 then w.tail else w) : Int) else (dcv (if w.head? = some 45 then w.tail else w) : Int)) then (0, 0, 2)
      else ((if w.head? = some 45 then -(dcv (if w.head? = some 45 then w.tail else w) : Int) else (dcv (if w.head? = some 45 then w.tail else w) : Int)), (p : Int) + 1, 0)) := by
  subst hw
  unfold rdN
  rw [if_neg (by omega)]
  simp only [Int.toNat_natCast, h1]
  rw [if_neg (by omega)]
theorem rdN_neg {l : List UInt8} {a p : Nat} {v : List UInt8} (h : a ≤ l.length) (h1 : posI l a 32 = (p : Int)) (hw : (l.drop a).take (p - a) = 45 :: v) : rdN l (a : Int) =
    (if dcok v = false ∨ dcv v = 0 then (0, 0, 3) else if (2147483648 : Int) < (dcv v : Int) then (0, 0, 2) else (-(dcv v : Int), (p : Int) + 1, 0)) := by
  rw [rdN_at h h1 hw]
  simp only [List.head?_cons, List.tail_cons, if_true, true_and]
  by_cases hc : dcok v = false ∨ dcv v = 0
  · rw [if_pos hc, if_pos hc]
  · rw [if_neg hc, if_neg hc]
    by_cases hd : (2147483648 : Int) < (dcv v : Int)
    · rw [if_pos (by omega), if_pos hd]
    · rw [if_neg (by omega), if_neg hd]
theorem rdN_nat {l : List UInt8} {a p : Nat} {w : List UInt8} (h : a ≤ l.length) (h1 : posI l a 32 = (p : Int)) (hw : (l.drop a).take (p - a) = w) (hh : w.head? ≠ some 45) : rdN l (a : Int) =
    (if dcok w = false then (0, 0, 3) else if (2147483647 : Int) < (dcv w : Int) then (0, 0, 2) else ((dcv w : Int), (p : Int) + 1, 0)) := by
  rw [rdN_at h h1 hw]
  simp only [hh, if_false, false_and, or_false]
  by_cases hc : dcok w = false
  · rw [if_pos hc, if_pos hc]
  · rw [if_neg hc, if_neg hc]
    by_cases hd : (2147483647 : Int) < (dcv w : Int)
    · rw [if_pos (by omega), if_pos hd]
    · rw [if_neg (by omega), if_neg hd]
theorem rdS_arg {l : List UInt8} {a : Int} (h : a < 0 ∨ (l.length : Int) < a) : rdS l a = ([], 0, 1) := by unfold rdS; rw [if_pos h]
theorem rdS_short {l : List UInt8} {a : Nat} (h : a ≤ l.length) (h1 : posI l a 58 = -1) : rdS l (a : Int) = ([], 0, 4) := by
  unfold rdS; rw [if_neg (by omega), if_pos (by rw [Int.toNat_natCast, h1]; decide)]
theorem rdS_at {l : List UInt8} {a p : Nat} {w : List UInt8} (h : a ≤ l.length) (h1 : posI l a 58 = (p : Int)) (hw : (l.drop a).take (p - a) = w) : rdS l (a : Int) =
    (if dcok w = false then ([], 0, 3) else if (l.length : Int) - (p : Int) - 1 ≤ (dcv w : Int) then ([], 0, 4) else if l[p + 1 + dcv w]? ≠ some 44 then ([], 0, 3) else
      ((l.drop (p + 1)).take (dcv w), (p : Int) + 2 + (dcv w : Int), 0)) := by
  subst hw
  unfold rdS
  rw [if_neg (by omega)]
  simp only [Int.toNat_natCast, h1]
  rw [if_neg (by omega)]
end Go.Proofs.YtjmnjcjpcmonjaaDoor.N2
