/- What the functions of layer 10 hand back, as functions of the received cells, and what that says of code words. No program is named here. -/
import Derived.Test.YtmkmikegddafdaaV10Math
import Derived.Test.YtmkmikegddafdaaC1Math
import Derived.Below
namespace Go.Proofs.Ytmkmikegddafdaa.V10
open Go.RowKit C9
set_option linter.unusedVariables false
set_option linter.unusedSimpArgs false

def rc (c : ByteArray) : List (UInt8 × UInt8) := pairs c.data.toList
/-- The error's number of received cells. -/
def eB (c : ByteArray) : Int := if c.data.toList.all okC = true then (if c.size % 2 = 1 ∨ c.size < 4 then 4 else 0) else 3
def dS (c : ByteArray) : ByteArray := if eB c = 0 then sb ((dec (rc c) false false).take (c.size / 2 - 2)) else ⟨#[]⟩
def dN (c : ByteArray) : Int := if eB c = 0 then (tb (rc c) false false).1 else 0
def dB (c : ByteArray) : Bool := if eB c = 0 then decide ((tb (rc c) false false).2 = 1) else false
def Deco (c : ByteArray) (w : World) (e : Ending) (w' : World) : Prop := e = .returned (.tuple #[.string (dS c), .int .i64 (dN c), .bool (dB c), .int .i64 (eB c)]) ∧ Below w.heap.size w w'

theorem eB_syn {c : ByteArray} (h : c.data.toList.all okC = false) : eB c = 3 := by
  unfold eB
  rw [h, if_neg (by decide)]
theorem eB_short {c : ByteArray} (h : c.data.toList.all okC = true) (h1 : c.size % 2 = 1 ∨ c.size < 4) : eB c = 4 := by
  unfold eB
  rw [if_pos h, if_pos h1]
theorem eB_ok {c : ByteArray} (h : c.data.toList.all okC = true) {n : Nat} (hn : c.size = 2 * n + 4) : eB c = 0 := by
  unfold eB
  rw [if_pos h, if_neg (by omega)]
theorem eB_zero {c : ByteArray} (h : eB c = 0) : c.data.toList.all okC = true ∧ ∃ n, c.size = 2 * n + 4 := by
  unfold eB at h
  split at h
  · next ho =>
    split at h
    · cases h
    · exact ⟨ho, (c.size - 4) / 2, by omega⟩
  · cases h
/-- What is said of the bits that are handed back. -/
structure Good (c : ByteArray) (n : Nat) (l : List Bool) : Prop where
  len : l.length = n
  str : dS c = sb l
  dist : dN c = (misL c.data.toList (enc l) : Int)
  min : ∀ l', l'.length = n → misL c.data.toList (enc l) ≤ misL c.data.toList (enc l')
  lex : ∀ l', l'.length = n → misL c.data.toList (enc l') = misL c.data.toList (enc l) → lxle l l' = true
  one : dB c = true ↔ ∀ l', l'.length = n → misL c.data.toList (enc l') = misL c.data.toList (enc l) → l' = l
theorem size_list (c : ByteArray) : c.data.toList.length = c.size := by rw [Array.length_toList]; rfl
theorem rc_len {c : ByteArray} {n : Nat} (hn : c.size = 2 * n + 4) : (rc c).length = n + 2 := pairs_len (n + 2) _ (by rw [size_list]; omega)
theorem pc_enc {c : ByteArray} {n : Nat} (hn : c.size = 2 * n + 4) (l : List Bool) (hl : l.length = n) : pc (rc c) false false (l ++ [false, false]) = misL c.data.toList (enc l) :=
  pc_mis _ _ _ _ (by rw [size_list, List.length_append, hl]; show _ = 2 * (n + 2); omega)
theorem good {c : ByteArray} (h : eB c = 0) {n : Nat} (hn : c.size = 2 * n + 4) : ∃ l, Good c n l := by
  have hr := rc_len hn
  have hz : 0 ≤ (tb (rc c) false false).1 := by
    by_cases hneg : (tb (rc c) false false).1 < 0
    · exact absurd (path_of (List.replicate n false) (rc c) (by rw [hr, List.length_replicate])) (((tb_ok _ _ _).neg hneg).2 _)
    · omega
  obtain ⟨hp, hc, hlx⟩ := dec_ok _ _ _ hz
  obtain ⟨_, hmin, _, hone⟩ := (tb_ok (rc c) false false).pos hz
  have hdl : (dec (rc c) false false).length = n + 2 := by rw [dec_len, hr]
  have hsp := path_end hp.zero hdl
  obtain ⟨l, hl⟩ : ∃ l, (dec (rc c) false false).take n = l := ⟨_, rfl⟩
  have hll : l.length = n := by rw [← hl, List.length_take]; omega
  rw [hl] at hsp
  rw [hsp, pc_enc hn l hll] at hc
  have hP : ∀ l', l'.length = n → Path (rc c) false false (l' ++ [false, false]) := fun l' h => path_of l' _ (by rw [hr, h])
  have h2 : c.size / 2 - 2 = n := by omega
  refine ⟨l, hll, ?_, ?_, ?_, ?_, ?_⟩
  · unfold dS
    rw [if_pos h, h2, hl]
  · unfold dN
    rw [if_pos h, hc]
  · intro l' h'
    have := hmin _ (hP l' h')
    rw [pc_enc hn l' h'] at this
    omega
  · intro l' h' he
    have := hlx _ (hP l' h') (by rw [pc_enc hn l' h', he]; exact hc)
    rw [hsp, lxle_left _ _ _ (by omega)] at this
    exact this
  · unfold dB
    rw [if_pos h, decide_eq_true_eq, hone]
    constructor
    · intro hu l' h' he
      have := hu _ _ (hP l' h') (hP l hll) (by rw [pc_enc hn l' h', he]; exact hc) (by rw [pc_enc hn l hll]; exact hc)
      exact List.append_cancel_right this
    · intro hu p q hp' hq' e1 e2
      have hpe := path_end hp'.zero (hp'.len.trans hr)
      have hqe := path_end hq'.zero (hq'.len.trans hr)
      have hpl : (p.take n).length = n := by rw [List.length_take, hp'.len, hr]; omega
      have hql : (q.take n).length = n := by rw [List.length_take, hq'.len, hr]; omega
      rw [hpe, pc_enc hn _ hpl] at e1
      rw [hqe, pc_enc hn _ hql] at e2
      rw [hpe, hqe, hu _ hpl (by omega), hu _ hql (by omega)]
theorem misL_le_len : ∀ (X : List UInt8) (A : List Bool), misL X A ≤ X.length
  | [], _ => Nat.le_refl _
  | x :: X, [] => Nat.zero_le _
  | x :: X, a :: A => by
    have h1 := misL_le_len X A
    have h2 := mis_le x a
    show mis x a + misL X A ≤ X.length + 1
    omega
/-- Cells near a code word are decoded to its bits, and to no other ones. -/
theorem Good.near {c : ByteArray} {n : Nat} {l b : List Bool} (h : Good c n l) (hn : c.size = 2 * n + 4) (hb : b.length = n) (hd : 2 * misL c.data.toList (enc b) + unrL c.data.toList < 5) : l = b ∧ dN c = (misL c.data.toList (enc b) : Int) ∧ dB c = true := by
  have far : ∀ l', l'.length = n → l' ≠ b → misL c.data.toList (enc b) < misL c.data.toList (enc l') := fun l' h' hne => by
    have h1 := distance (l := l') (m := b) (by omega) hne
    have h2 := triangle c.data.toList (enc l') (enc b) (by rw [size_list, enc_len]; omega) (by rw [size_list, enc_len]; omega)
    omega
  have e : l = b := by
    by_cases e : l = b
    · exact e
    · have h1 := far l h.len e
      have h2 := h.min b hb
      omega
  subst e
  refine ⟨rfl, h.dist, h.one.2 fun l' h' he => ?_⟩
  by_cases e : l' = l
  · exact e
  · have := far l' h' e
    omega
/-- What Distance of layer 1 counts between a code word and received cells. -/
theorem dist_cells : ∀ (A : List Bool) (X : List UInt8), ((cs A).zip X).countP (fun p => p.1 != p.2 && (p.1 != 63 && p.2 != 63)) = misL X A
  | [], [] => rfl
  | [], x :: X => rfl
  | a :: A, [] => rfl
  | a :: A, x :: X => by
    show ((cell a, x) :: (cs A).zip X).countP _ = mis x a + misL X A
    rw [List.countP_cons, dist_cells A X]
    have e : (if ((cell a != x) && (cell a != 63 && x != 63)) = true then 1 else 0) = mis x a := by
      unfold mis
      have e1 : (cell a != 63) = true := by cases a <;> rfl
      have e2 : (cell a != x) = (x != cell a) := by
        rw [Bool.eq_iff_iff, bne_iff_ne, bne_iff_ne]
        exact ⟨fun h e => h e.symm, fun h e => h e.symm⟩
      rw [e1, e2, Bool.true_and, Bool.and_comm]
    rw [e]
    omega
/-! ### one cell changed -/
theorem misL_set : ∀ (X : List UInt8) (A : List Bool) (k : Nat) (y : UInt8) (h : k < X.length) (h' : k < A.length), misL (X.set k y) A + mis X[k] A[k] = misL X A + mis y A[k]
  | x :: X, a :: A, 0, y, _, _ => by
    show mis y a + misL X A + mis x a = mis x a + misL X A + mis y a
    omega
  | x :: X, a :: A, k + 1, y, h, h' => by
    have hx : k < X.length := by simpa using h
    have hx' : k < A.length := by simpa using h'
    have := misL_set X A k y hx hx'
    show mis x a + misL (X.set k y) A + mis X[k] A[k] = mis x a + misL X A + mis y A[k]
    omega
  | [], _, k, _, h, _ => by simp at h
  | x :: X, [], k, _, _, h => by simp at h
theorem unrL_set_le : ∀ (X : List UInt8) (k : Nat) (y : UInt8), unrL (X.set k y) ≤ unrL X + 1
  | [], _, _ => by show unrL [] ≤ _; unfold unrL; simp
  | x :: X, 0, y => by
    show unrL (y :: X) ≤ unrL (x :: X) + 1
    rw [unrL_cons, unrL_cons]
    split <;> split <;> omega
  | x :: X, k + 1, y => by
    have := unrL_set_le X k y
    show unrL (x :: X.set k y) ≤ _
    rw [unrL_cons, unrL_cons]
    omega
theorem unrL_set_cell : ∀ (X : List UInt8) (k : Nat) (b : Bool), unrL (X.set k (cell b)) ≤ unrL X
  | [], _, _ => Nat.le_refl _
  | x :: X, 0, b => by
    show unrL (cell b :: X) ≤ unrL (x :: X)
    rw [unrL_cons, unrL_cons]
    have : (cell b == 63) = false := by cases b <;> rfl
    rw [this, if_neg (by decide)]
    split <;> omega
  | x :: X, k + 1, b => by
    have := unrL_set_cell X k b
    show unrL (x :: X.set k (cell b)) ≤ _
    rw [unrL_cons, unrL_cons]
    omega
/-- The least distance moves no more than the distances of all words do. -/
theorem Good.moves {c c' : ByteArray} {n : Nat} {l l' : List Bool} (h : Good c n l) (h' : Good c' n l') (d : Nat) (hd : ∀ b, b.length = n → misL c'.data.toList (enc b) ≤ misL c.data.toList (enc b) + d) : dN c' ≤ dN c + d := by
  rw [h.dist, h'.dist]
  have h1 := h'.min l h.len
  have h2 := hd l h.len
  omega
/-! ### the costs -/
def cE (c : ByteArray) (k : Int) : Int := if eB c = 0 then (if k < 0 ∨ (c.size : Int) / 2 < k then 2 else 0) else eB c
/-- The cost to go of a state behind k transitions. -/
def cg (c : ByteArray) (k : Nat) (s1 s2 : Bool) : Int := (tb ((rc c).drop k) s1 s2).1
theorem cg_zero {c : ByteArray} (h : eB c = 0) : cg c 0 false false = dN c := by
  unfold cg dN
  rw [if_pos h, List.drop_zero]
theorem cg_end {c : ByteArray} {n : Nat} (hn : c.size = 2 * n + 4) (s1 s2 : Bool) : cg c (n + 2) s1 s2 = if s1 || s2 then -1 else 0 := by
  unfold cg
  rw [List.drop_of_length_le (by rw [rc_len hn]; exact Nat.le_refl _)]
  cases s1 <;> cases s2 <;> rfl
/-- The better one of two costs; -1: none. -/
def least (a : Int) (m : Nat) (b : Int) : Int := if b < 0 then a else if a < 0 ∨ (m : Int) + b < a then (m : Int) + b else a
theorem add1_fst (e : Entry) (m : Nat) (a : Entry) : (add1 e m a).1 = least e.1 m a.1 := by
  unfold add1 least
  split
  · rfl
  · split
    · rfl
    · split <;> rfl
theorem cg_step {c : ByteArray} {n k : Nat} (hn : c.size = 2 * n + 4) (hk : k < n + 2) (s1 s2 : Bool) (h1 : 2 * k < c.data.toList.length) (h2 : 2 * k + 1 < c.data.toList.length) :
    cg c k s1 s2 = least (least (-1) (mm (c.data.toList[2 * k], c.data.toList[2 * k + 1]) s1 s2 false) (cg c (k + 1) false s1)) (mm (c.data.toList[2 * k], c.data.toList[2 * k + 1]) s1 s2 true) (cg c (k + 1) true s1) := by
  have hk' : k < (rc c).length := by rw [rc_len hn]; exact hk
  unfold cg
  rw [List.drop_eq_getElem_cons hk']
  have e : (rc c)[k] = (c.data.toList[2 * k], c.data.toList[2 * k + 1]) := pairs_get k _ hk' h1 h2
  rw [e]
  show (add1 (add1 (-1, 0) _ _) _ _).1 = _
  rw [add1_fst, add1_fst]
end Go.Proofs.Ytmkmikegddafdaa.V10
