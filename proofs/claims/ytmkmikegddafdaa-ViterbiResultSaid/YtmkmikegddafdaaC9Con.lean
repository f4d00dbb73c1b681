/- What the functions of layer 9 hand back, as what a call leaves; facts on the pairs of cells and on the bits that are read off a word. No program is named here. -/
import Derived.RangeFuncKeeps
import Derived.Below
import Derived.Lib.Builder
import Derived.Lib.AppendStr
import Derived.Lib.Bytealg
import Derived.Test.YtmkmikegddafdaaC9Math
namespace Go.Proofs.Ytmkmikegddafdaa.C9
open Go.RowKit
set_option linter.unusedVariables false
set_option linter.unusedSimpArgs false

def Enco (s : ByteArray) (w : World) (e : Ending) (w' : World) : Prop := ∃ (S : ByteArray) (k : Int), EncQ s S k ∧ e = .returned (.tuple #[.string S, .int .i64 k]) ∧ Below w.heap.size w w'
def Extr (c : ByteArray) (w : World) (e : Ending) (w' : World) : Prop := ∃ (S : ByteArray) (k : Int), ExtQ c S k ∧ e = .returned (.tuple #[.string S, .int .i64 k]) ∧ Below w.heap.size w w'
def Wght (s : ByteArray) (w : World) (e : Ending) (w' : World) : Prop := ∃ n k : Int, WgtQ s n k ∧ e = .returned (.tuple #[.int .i64 n, .int .i64 k]) ∧ Below w.heap.size w w'
def oneB (s : Int) : Bool := decide (2 ≤ s % 4)
def twoB (s : Int) : Bool := decide (s % 2 = 1)
def Nxt (s b : Int) (w : World) (e : Ending) (w' : World) : Prop := e = .returned (.tuple #[.int .i64 (stN (twoB b) (oneB s) : Int), .string (sb (out2 (oneB s) (twoB s) (twoB b)))]) ∧ Below w.heap.size w w'

/-! ### the pairs of cells -/
def prs : Bool → Bool → List Bool → List (Bool × Bool)
  | _, _, [] => []
  | s1, s2, u :: l => (u ^^ s1 ^^ s2, u ^^ s2) :: prs u s1 l
def two (p : Bool × Bool) : List Bool := [p.1, p.2]
theorem prs_len : ∀ (l : List Bool) (s1 s2 : Bool), (prs s1 s2 l).length = l.length
  | [], _, _ => rfl
  | u :: l, s1, s2 => by
    show (prs u s1 l).length + 1 = _
    rw [prs_len l]
    rfl
theorem prs_run : ∀ (l : List Bool) (s1 s2 : Bool), (prs s1 s2 l).flatMap two = run s1 s2 l
  | [], _, _ => rfl
  | u :: l, s1, s2 => by
    show two _ ++ (prs u s1 l).flatMap two = out2 s1 s2 u ++ run u s1 l
    rw [prs_run l]
    rfl
/-- The bytes of the pairs as cells. -/
def pcells (l : List (Bool × Bool)) : List Value := l.flatMap fun p => Lib.strCells (sb (two p))
theorem pcells_snoc (l : List (Bool × Bool)) (p : Bool × Bool) : pcells (l ++ [p]) = pcells l ++ Lib.strCells (sb (two p)) := by
  simp [pcells]
theorem sb_two_size (p : Bool × Bool) : (sb (two p)).size = 2 := by rw [sb_size]; rfl
theorem pcells_len : ∀ l : List (Bool × Bool), (pcells l).length = 2 * l.length
  | [] => rfl
  | p :: l => by
    show (Lib.strCells (sb (two p)) ++ pcells l).length = _
    rw [List.length_append, pcells_len l, Lib.strCells_length, sb_two_size, List.length_cons]
    omega
theorem strCells_app (a b : List Bool) : Lib.strCells (sb (a ++ b)) = Lib.strCells (sb a) ++ Lib.strCells (sb b) := by
  unfold Lib.strCells sb
  rw [cs_app]
  simp
theorem pcells_all : ∀ l : List (Bool × Bool), pcells l = Lib.strCells (sb (l.flatMap two))
  | [] => rfl
  | p :: l => by
    show Lib.strCells (sb (two p)) ++ pcells l = Lib.strCells (sb (two p ++ l.flatMap two))
    rw [strCells_app, pcells_all l]

/-! ### the bits that are read off a word -/
/-- After k bits: whatever bits have this word, these are its first k. -/
def Reads (c : ByteArray) (p : List Bool) : Prop := ∀ m, c = sb (enc m) → p = m.take p.length
theorem Reads.nil (c : ByteArray) : Reads c [] := fun m _ => rfl
theorem fin_take (m : List Bool) (k : Nat) (s1 s2 : Bool) : run s1 s2 m = run s1 s2 (m.take k) ++ run (fin s1 s2 (m.take k)).1 (fin s1 s2 (m.take k)).2 (m.drop k) := by
  rw [← run_app, List.take_append_drop]
theorem pair_at (m : List Bool) (k : Nat) (h : k < m.length) : (sb (enc m)).extract (k * 2) ((k + 1) * 2) = sb (out2 (fin false false (m.take k)).1 (fin false false (m.take k)).2 m[k]) := by
  have e : m ++ [false, false] = m.take k ++ (m[k] :: (m.drop (k + 1) ++ [false, false])) := by
    rw [← List.cons_append, ← List.drop_eq_getElem_cons h, ← List.append_assoc, List.take_append_drop]
  unfold enc
  rw [e, run_app]
  show (sb (run false false (m.take k) ++ (out2 _ _ _ ++ run _ _ _))).extract _ _ = _
  have hl : (run false false (m.take k)).length = k * 2 := by rw [run_len, List.length_take]; omega
  generalize run false false (m.take k) = A at hl ⊢
  generalize hO : out2 (fin false false (m.take k)).1 (fin false false (m.take k)).2 m[k] = O
  have hOl : O.length = 2 := by rw [← hO]; rfl
  apply ByteArray.ext
  apply Array.toList_inj.1
  simp only [ByteArray.data_extract, Array.toList_extract]
  show (cs (A ++ (O ++ _))).extract _ _ = cs O
  rw [List.extract_eq_take_drop, cs_app, cs_app, List.drop_left' (by rw [cs_len]; exact hl), List.take_left' (by rw [cs_len, hOl]; omega)]
theorem Reads.step {c : ByteArray} {p : List Bool} {n : Nat} (h : Reads c p) (hn : c.size = 2 * n + 4) (hk : p.length < n) (b : Bool)
    (hb : b = false ↔ c.extract (p.length * 2) ((p.length + 1) * 2) = sb (out2 (fin false false p).1 (fin false false p).2 false)) : Reads c (p ++ [b]) := fun m hm => by
  have hp := h m hm
  have hml : m.length = n := by
    rw [hm, sb_size, enc_len] at hn
    omega
  have hk' : p.length < m.length := by omega
  have hx := pair_at m p.length hk'
  rw [← hp] at hx
  rw [hm, hx] at hb
  have e : b = m[p.length] := by
    generalize m[p.length] = y at hb
    cases y
    · exact hb.2 rfl
    · cases b
      · have := sb_inj (hb.1 rfl)
        injection this with h1 h2
        revert h1
        cases (fin false false p).1 <;> cases (fin false false p).2 <;> decide
      · rfl
  rw [List.length_append, List.length_singleton, List.take_succ_eq_append_getElem hk', ← hp, e]
theorem Reads.whole {c : ByteArray} {p : List Bool} (h : Reads c p) {m : List Bool} (hm : c = sb (enc m)) (hl : p.length = m.length) : p = m := by
  have := h m hm
  rw [hl, List.take_length] at this
  exact this
/-- The state behind one more bit. -/
theorem fin_snoc (p : List Bool) (b s1 s2 : Bool) : fin s1 s2 (p ++ [b]) = (b, (fin s1 s2 p).1) := by
  rw [fin_app]
  rfl
end Go.Proofs.Ytmkmikegddafdaa.C9
