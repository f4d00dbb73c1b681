/- Facts and contracts that the walks of this layer use, merged: C9Math, C9Con, C9Own1, C9Own2, C9Own3, C9Own4. -/
import Derived.Calls
import Derived.RangeFuncKeeps
import Derived.Below
import Derived.Lib.Builder
import Derived.Lib.AppendStr
import Derived.Lib.Bytealg
import Derived.Test.YtiodkllckcpinaaGreatDoorRows
import Derived.Test.YtiodkllckcpinaaGreatDoorM14AA
import Derived.Test.YtiodkllckcpinaaGreatDoorShelf
import Derived.WalkKit
import Derived.BigQuiet
import Derived.Deep.QuietTactic
import Derived.Deep.RegionHeld3
import Derived.WalkSpells
import Derived.WalkLawsBesides
import Derived.Lib.Hide
import Derived.RangeFuncFrom
import Derived.RangeFuncNested
import Derived.RangeFuncBound
import Derived.RangeFuncCalls
import Derived.RangeFuncLeaves
import Derived.Shelf.Abstract
import Derived.Shelf.RegionOpen
import Derived.OwnWalkIn
import Derived.TacticsInMore
import Derived.LoopNIn
import Derived.LoopIn
import Derived.Lib.OthersKept
set_option linter.unusedVariables false
set_option linter.unusedSimpArgs false
set_option maxRecDepth 100000
namespace Go.Proofs.YtiodkllckcpinaaGreatDoor
namespace C9

/-! ### bits as cells -/
def cell (b : Bool) : UInt8 := if b then 49 else 48
def cs (l : List Bool) : List UInt8 := l.map cell
def sb (l : List Bool) : ByteArray := ⟨(cs l).toArray⟩
theorem cell_inj {a b : Bool} (h : cell a = cell b) : a = b := by
 revert h
 cases a <;> cases b <;> decide
theorem cs_len (l : List Bool) : (cs l).length = l.length := by simp [cs]
theorem cs_app (l m : List Bool) : cs (l ++ m) = cs l ++ cs m := by simp [cs]
theorem cs_inj : ∀ {l m : List Bool}, cs l = cs m → l = m
 | [], [], _ => rfl
 | [], b :: m, h => by cases h
 | a :: l, [], h => by cases h
 | a :: l, b :: m, h => by
  injection h with h1 h2
  rw [cell_inj h1, cs_inj h2]
theorem sb_size (l : List Bool) : (sb l).size = l.length := by
 show (cs l).toArray.size = _
 rw [List.size_toArray, cs_len]
theorem sb_inj {l m : List Bool} (h : sb l = sb m) : l = m := by
 apply cs_inj
 have := congrArg (fun b : ByteArray => b.data.toList) h
 simpa [sb] using this
theorem sb_app (l m : List Bool) : sb l ++ sb m = sb (l ++ m) := by
 apply ByteArray.ext
 simp [sb, cs, ByteArray.data_append]
def bitB (c : UInt8) : Bool := c == 48 || c == 49
def toB (c : UInt8) : Bool := c == 49
theorem cell_toB {c : UInt8} (h : bitB c = true) : cell (toB c) = c := by
 unfold bitB at h
 unfold cell toB
 simp only [Bool.or_eq_true, beq_iff_eq] at h
 rcases h with rfl | rfl <;> rfl
theorem bitB_cell (b : Bool) : bitB (cell b) = true := by cases b <;> rfl
theorem toB_cell (b : Bool) : toB (cell b) = b := by cases b <;> rfl
def tb (s : ByteArray) : List Bool := s.data.toList.map toB
theorem tb_len (s : ByteArray) : (tb s).length = s.size := by
 unfold tb
 rw [List.length_map, Array.length_toList]
 rfl
theorem tb_sb (l : List Bool) : tb (sb l) = l := by
 unfold tb sb cs
 simp only [List.map_map]
 have : (toB ∘ cell) = id := by funext b; exact toB_cell b
 simp [this]
theorem sb_tb {s : ByteArray} (h : s.data.toList.all bitB = true) : sb (tb s) = s := by
 apply ByteArray.ext
 show (cs (tb s)).toArray = s.data
 have : cs (tb s) = s.data.toList := by
  unfold cs tb
  rw [List.map_map]
  rw [List.all_eq_true] at h
  have e : s.data.toList.map (cell ∘ toB) = s.data.toList.map id := List.map_congr_left fun c hc => cell_toB (h c hc)
  rw [e, List.map_id]
 rw [this]

/-! ### the encoder -/
/-- The two cells for the bit u behind s1 and s2. -/
def out2 (s1 s2 u : Bool) : List Bool := [u ^^ s1 ^^ s2, u ^^ s2]
def run : Bool → Bool → List Bool → List Bool
 | _, _, [] => []
 | s1, s2, u :: l => out2 s1 s2 u ++ run u s1 l
def fin : Bool → Bool → List Bool → Bool × Bool
 | s1, s2, [] => (s1, s2)
 | s1, s2, u :: l => fin u s1 l
theorem run_len : ∀ (l : List Bool) (s1 s2 : Bool), (run s1 s2 l).length = 2 * l.length
 | [], _, _ => rfl
 | u :: l, s1, s2 => by
  show (out2 s1 s2 u ++ run u s1 l).length = _
  rw [List.length_append, run_len l, List.length_cons]
  show 2 + _ = _
  omega
theorem run_app : ∀ (l m : List Bool) (s1 s2 : Bool), run s1 s2 (l ++ m) = run s1 s2 l ++ run (fin s1 s2 l).1 (fin s1 s2 l).2 m
 | [], m, s1, s2 => rfl
 | u :: l, m, s1, s2 => by
  show out2 s1 s2 u ++ run u s1 (l ++ m) = (out2 s1 s2 u ++ run u s1 l) ++ _
  rw [run_app l m u s1, List.append_assoc]
  rfl
theorem fin_app : ∀ (l m : List Bool) (s1 s2 : Bool), fin s1 s2 (l ++ m) = fin (fin s1 s2 l).1 (fin s1 s2 l).2 m
 | [], m, s1, s2 => rfl
 | u :: l, m, s1, s2 => fin_app l m u s1
theorem run_inj : ∀ (l m : List Bool) (s1 s2 : Bool), run s1 s2 l = run s1 s2 m → l = m
 | [], [], _, _, _ => rfl
 | [], u :: m, s1, s2, h => by cases h
 | u :: l, [], s1, s2, h => by cases h
 | u :: l, v :: m, s1, s2, h => by
  have h' : out2 s1 s2 u ++ run u s1 l = out2 s1 s2 v ++ run v s1 m := h
  injection h' with h1 h2
  injection h2 with h3 h4
  have e : u = v := by
   revert h3
   cases u <;> cases v <;> cases s2 <;> decide
  subst e
  rw [run_inj l m u s1 h4]
def enc (l : List Bool) : List Bool := run false false (l ++ [false, false])
theorem enc_len (l : List Bool) : (enc l).length = 2 * l.length + 4 := by
 unfold enc
 rw [run_len, List.length_append]
 show 2 * (l.length + 2) = _
 omega
theorem enc_inj {l m : List Bool} (h : enc l = enc m) : l = m := by
 have := run_inj _ _ _ _ h
 exact List.append_cancel_right this

/-! ### linearity -/
def xo : List Bool → List Bool → List Bool
 | a :: l, b :: m => (a ^^ b) :: xo l m
 | _, _ => []
theorem xo_len : ∀ l m : List Bool, l.length = m.length → (xo l m).length = l.length
 | [], [], _ => rfl
 | a :: l, b :: m, h => by
  show (xo l m).length + 1 = l.length + 1
  rw [xo_len l m (by simpa using h)]
 | [], b :: m, h => by simp at h
 | a :: l, [], h => by simp at h
theorem xo_app : ∀ l m p q : List Bool, l.length = m.length → xo (l ++ p) (m ++ q) = xo l m ++ xo p q
 | [], [], p, q, _ => rfl
 | a :: l, b :: m, p, q, h => by
  show (a ^^ b) :: xo (l ++ p) (m ++ q) = (a ^^ b) :: (xo l m ++ xo p q)
  rw [xo_app l m p q (by simpa using h)]
 | [], b :: m, _, _, h => by simp at h
 | a :: l, [], _, _, h => by simp at h
theorem run_xo : ∀ (l m : List Bool) (s1 s2 t1 t2 : Bool), l.length = m.length → run (s1 ^^ t1) (s2 ^^ t2) (xo l m) = xo (run s1 s2 l) (run t1 t2 m)
 | [], [], _, _, _, _, _ => rfl
 | a :: l, b :: m, s1, s2, t1, t2, h => by
  show out2 (s1 ^^ t1) (s2 ^^ t2) (a ^^ b) ++ run (a ^^ b) (s1 ^^ t1) (xo l m) = xo (out2 s1 s2 a ++ run a s1 l) (out2 t1 t2 b ++ run b t1 m)
  rw [run_xo l m a s1 b t1 (by simpa using h), xo_app (out2 s1 s2 a) (out2 t1 t2 b) (run a s1 l) (run b t1 m) rfl]
  congr 1
  cases a <;> cases b <;> cases s1 <;> cases s2 <;> cases t1 <;> cases t2 <;> rfl
 | [], b :: m, _, _, _, _, h => by simp at h
 | a :: l, [], _, _, _, _, h => by simp at h
theorem enc_xo {l m : List Bool} (h : l.length = m.length) : enc (xo l m) = xo (enc l) (enc m) := by
 unfold enc
 rw [← run_xo _ _ false false false false (by simp [h]), xo_app _ _ _ _ h]
 rfl

/-! ### the free distance -/
def wgt (l : List Bool) : Nat := (l.filter id).length
theorem wgt_app (l m : List Bool) : wgt (l ++ m) = wgt l + wgt m := by simp [wgt]
def low : Bool → Bool → Nat
 | true, _ => 3
 | false, true => 2
 | false, false => 0
theorem low_le : ∀ (l : List Bool) (s1 s2 : Bool), low s1 s2 ≤ wgt (run s1 s2 (l ++ [false, false]))
 | [], s1, s2 => by cases s1 <;> cases s2 <;> decide
 | u :: l, s1, s2 => by
  have ih := low_le l u s1
  show low s1 s2 ≤ wgt (out2 s1 s2 u ++ run u s1 (l ++ [false, false]))
  rw [wgt_app]
  have : low s1 s2 ≤ wgt (out2 s1 s2 u) + low u s1 := by cases s1 <;> cases s2 <;> cases u <;> decide
  omega
theorem free_distance : ∀ (l : List Bool), (∃ b ∈ l, b = true) → 5 ≤ wgt (enc l)
 | [], h => by
  obtain ⟨b, hb, _⟩ := h
  cases hb
 | u :: l, h => by
  show 5 ≤ wgt (out2 false false u ++ run u false (l ++ [false, false]))
  rw [wgt_app]
  cases u
  ·have : 5 ≤ wgt (enc l) := free_distance l (by
    obtain ⟨b, hb, e⟩ := h
    rcases List.mem_cons.1 hb with rfl | hb
    ·cases e
    ·exact ⟨b, hb, e⟩)
   exact Nat.le_trans this (Nat.le_add_left _ _)
  ·have := low_le l true false
   have e : wgt (out2 false false true) = 2 := rfl
   show 5 ≤ wgt (out2 false false true) + _
   rw [e]
   have : low true false = 3 := rfl
   omega
theorem xo_true : ∀ l m : List Bool, l.length = m.length → l ≠ m → ∃ b ∈ xo l m, b = true
 | [], [], _, h => absurd rfl h
 | a :: l, b :: m, hl, h => by
  by_cases e : a = b
  ·subst e
   obtain ⟨c, hc, e⟩ := xo_true l m (by simpa using hl) (fun e => h (by rw [e]))
   exact ⟨c, List.mem_cons_of_mem _ hc, e⟩
  ·refine ⟨a ^^ b, List.mem_cons_self, ?_⟩
   revert e
   cases a <;> cases b <;> decide
 | [], b :: m, h, _ => by simp at h
 | a :: l, [], h, _ => by simp at h
theorem distance {l m : List Bool} (h : l.length = m.length) (hne : l ≠ m) : 5 ≤ wgt (xo (enc l) (enc m)) := by
 rw [← enc_xo h]
 exact free_distance _ (xo_true l m h hne)

/-! ### what the functions hand back -/
def Bits (s : ByteArray) : Prop := s.data.toList.all bitB = true
def EncQ (s S : ByteArray) (k : Int) : Prop := (65536 < s.size → S = ⟨#[]⟩ ∧ k = 6) ∧ (s.size ≤ 65536 → (¬ Bits s → S = ⟨#[]⟩ ∧ k = 3) ∧ (Bits s → S = sb (enc (tb s)) ∧ k = 0))
theorem Bits.sb (l : List Bool) : Bits (sb l) := by
 unfold Bits C9.sb cs
 rw [List.all_eq_true]
 intro c hc
 simp only at hc
 obtain ⟨b, _, rfl⟩ := List.mem_map.1 hc
 exact bitB_cell b
theorem EncQ.sb {l : List Bool} {S : ByteArray} {k : Int} (h : EncQ (sb l) S k) (hl : l.length ≤ 65536) : S = C9.sb (enc l) ∧ k = 0 := by
 have := (h.2 (by rw [sb_size]; exact hl)).2 (Bits.sb l)
 rwa [tb_sb] at this
def okC (c : UInt8) : Bool := c == 48 || c == 49 || c == 63
structure CodeOf (c : ByteArray) (l : List Bool) : Prop where
 len : l.length ≤ 65536
 eq : c = sb (enc l)
theorem CodeOf.only {c : ByteArray} {l m : List Bool} (h : CodeOf c l) (h' : CodeOf c m) : l = m := enc_inj (sb_inj (h.eq.symm.trans h'.eq))
def ExtQ (c S : ByteArray) (k : Int) : Prop := (c.data.toList.all okC = false → S = ⟨#[]⟩ ∧ k = 3) ∧ (c.data.toList.all okC = true → (c.size % 2 = 1 ∨ c.size < 4 → S = ⟨#[]⟩ ∧ k = 4) ∧
 (c.size % 2 = 0 ∧ 4 ≤ c.size → (∀ l, CodeOf c l → S = sb l ∧ k = 0) ∧ ((∀ l, ¬ CodeOf c l) → S = ⟨#[]⟩ ∧ k = 11)))
theorem okC_bit {c : UInt8} (h : bitB c = true) : okC c = true := by
 unfold okC
 unfold bitB at h
 rw [h]
 rfl
theorem okC_sb (l : List Bool) : (sb l).data.toList.all okC = true := by
 have h : Bits (sb l) := Bits.sb l
 unfold Bits at h
 rw [List.all_eq_true] at h ⊢
 exact fun c hc => okC_bit (h c hc)
/-! ### states as numbers -/
def bn (b : Bool) : Nat := if b then 1 else 0
def stN (s1 s2 : Bool) : Nat := 2 * bn s1 + bn s2
end C9
namespace C9
open Go.RowKit

def Enco (s : ByteArray) (w : World) (e : Ending) (w' : World) : Prop := ∃ (S : ByteArray) (k : Int), EncQ s S k ∧ e = .returned (.tuple #[.string S, .int .i64 k]) ∧ Below w.heap.size w w'
def Extr (c : ByteArray) (w : World) (e : Ending) (w' : World) : Prop := ∃ (S : ByteArray) (k : Int), ExtQ c S k ∧ e = .returned (.tuple #[.string S, .int .i64 k]) ∧ Below w.heap.size w w'
def oneB (s : Int) : Bool := decide (2 ≤ s % 4)
def twoB (s : Int) : Bool := decide (s % 2 = 1)
def Nxt (s b : Int) (w : World) (e : Ending) (w' : World) : Prop := e = .returned (.tuple #[.int .i64 (stN (twoB b) (oneB s) : Int), .string (sb (out2 (oneB s) (twoB s) (twoB b)))]) ∧ Below w.heap.size w w'

/-! ### the pairs of cells -/
def prs : Bool → Bool → List Bool → List (Bool × Bool)
 | _, _, [] => []
 | s1, s2, u :: l => (u ^^ s1 ^^ s2, u ^^ s2) :: prs u s1 l
def two (p : Bool × Bool) : List Bool := [p.1, p.2]
theorem prs_len : ∀ (l : List Bool) (s1 s2 : Bool), (prs s1 s2 l).length = l.length
 | [], _, _ => rfl
 | u :: l, s1, s2 => by
  show (prs u s1 l).length + 1 = _
  rw [prs_len l]
  rfl
theorem prs_run : ∀ (l : List Bool) (s1 s2 : Bool), (prs s1 s2 l).flatMap two = run s1 s2 l
 | [], _, _ => rfl
 | u :: l, s1, s2 => by
  show two _ ++ (prs u s1 l).flatMap two = out2 s1 s2 u ++ run u s1 l
  rw [prs_run l]
  rfl
def pcells (l : List (Bool × Bool)) : List Value := l.flatMap fun p => Lib.strCells (sb (two p))
theorem pcells_snoc (l : List (Bool × Bool)) (p : Bool × Bool) : pcells (l ++ [p]) = pcells l ++ Lib.strCells (sb (two p)) := by
 simp [pcells]
theorem sb_two_size (p : Bool × Bool) : (sb (two p)).size = 2 := by rw [sb_size]; rfl
theorem pcells_len : ∀ l : List (Bool × Bool), (pcells l).length = 2 * l.length
 | [] => rfl
 | p :: l => by
  show (Lib.strCells (sb (two p)) ++ pcells l).length = _
  rw [List.length_append, pcells_len l, Lib.strCells_length, sb_two_size, List.length_cons]
  omega
theorem strCells_app (a b : List Bool) : Lib.strCells (sb (a ++ b)) = Lib.strCells (sb a) ++ Lib.strCells (sb b) := by
 unfold Lib.strCells sb
 rw [cs_app]
 simp
theorem pcells_all : ∀ l : List (Bool × Bool), pcells l = Lib.strCells (sb (l.flatMap two))
 | [] => rfl
 | p :: l => by
  show Lib.strCells (sb (two p)) ++ pcells l = Lib.strCells (sb (two p ++ l.flatMap two))
  rw [strCells_app, pcells_all l]

/-! ### the bits that are read off a word -/
/-- After k bits: whatever bits have this word, these are its first k. -/
def Reads (c : ByteArray) (p : List Bool) : Prop := ∀ m, c = sb (enc m) → p = m.take p.length
theorem Reads.nil (c : ByteArray) : Reads c [] := fun m _ => rfl
theorem pair_at (m : List Bool) (k : Nat) (h : k < m.length) : (sb (enc m)).extract (k * 2) ((k + 1) * 2) = sb (out2 (fin false false (m.take k)).1 (fin false false (m.take k)).2 m[k]) := by
 have e : m ++ [false, false] = m.take k ++ (m[k] :: (m.drop (k + 1) ++ [false, false])) := by
  rw [← List.cons_append, ← List.drop_eq_getElem_cons h, ← List.append_assoc, List.take_append_drop]
 unfold enc
 rw [e, run_app]
 show (sb (run false false (m.take k) ++ (out2 _ _ _ ++ run _ _ _))).extract _ _ = _
 have hl : (run false false (m.take k)).length = k * 2 := by rw [run_len, List.length_take]; omega
 generalize run false false (m.take k) = A at hl ⊢
 generalize hO : out2 (fin false false (m.take k)).1 (fin false false (m.take k)).2 m[k] = O
 have hOl : O.length = 2 := by rw [← hO]; rfl
 apply ByteArray.ext
 apply Array.toList_inj.1
 simp only [ByteArray.data_extract, Array.toList_extract]
 show (cs (A ++ (O ++ _))).extract _ _ = cs O
 rw [List.extract_eq_take_drop, cs_app, cs_app, List.drop_left' (by rw [cs_len]; exact hl), List.take_left' (by rw [cs_len, hOl]; omega)]
theorem Reads.step {c : ByteArray} {p : List Bool} {n : Nat} (h : Reads c p) (hn : c.size = 2 * n + 4) (hk : p.length < n) (b : Bool)
  (hb : b = false ↔ c.extract (p.length * 2) ((p.length + 1) * 2) = sb (out2 (fin false false p).1 (fin false false p).2 false)) : Reads c (p ++ [b]) := fun m hm => by
 have hp := h m hm
 have hml : m.length = n := by
  rw [hm, sb_size, enc_len] at hn
  omega
 have hk' : p.length < m.length := by omega
 have hx := pair_at m p.length hk'
 rw [← hp] at hx
 rw [hm, hx] at hb
 have e : b = m[p.length] := by
  generalize m[p.length] = y at hb
  cases y
  ·exact hb.2 rfl
  ·cases b
   ·have := sb_inj (hb.1 rfl)
    injection this with h1 h2
    revert h1
    cases (fin false false p).1 <;> cases (fin false false p).2 <;> decide
   ·rfl
 rw [List.length_append, List.length_singleton, List.take_succ_eq_append_getElem hk', ← hp, e]
theorem Reads.whole {c : ByteArray} {p : List Bool} (h : Reads c p) {m : List Bool} (hm : c = sb (enc m)) (hl : p.length = m.length) : p = m := by
 have := h m hm
 rw [hl, List.take_length] at this
 exact this
theorem fin_snoc (p : List Bool) (b s1 s2 : Bool) : fin s1 s2 (p ++ [b]) = (b, (fin s1 s2 p).1) := by
 rw [fin_app]
 rfl
end C9
namespace C9
open Go.RowKit Mem

theorem i64_and1 (n : Int) : bits .and .i64 n 1 = n % 2 := by
 have h1 : (BitVec.ofInt 64 1).toNat = 2 ^ 1 - 1 := by decide
 have key : (BitVec.ofInt 64 n &&& BitVec.ofInt 64 1).toNat = (n % ((2 ^ 64 : Nat) : Int)).toNat % 2 ^ 1 := by
  rw [BitVec.toNat_and, BitVec.toNat_ofInt, h1, Nat.and_two_pow_sub_one_eq_mod]
 show IntKind.i64.wrap ((BitVec.ofInt 64 n &&& BitVec.ofInt 64 1).toNat : Nat) = n % 2
 rw [key, IntKind.wrap_i64]
 omega
theorem conv_two {P : Program} (w W : World) {src dst e : TypeId} {x y : UInt8} {a b : Int} (ha : a = (x.toNat : Int)) (hb : b = (y.toNat : Int)) (hs : P.underlying src = some (.slice e)) (he : P.underlying e = some (.int .u8)) (hd : P.underlying dst = some .string)
  (h0 : W.cell? ⟨w.heap.size, 0, none⟩ = some (.int .u8 a)) (h1 : W.cell? ⟨w.heap.size, 1, none⟩ = some (.int .u8 b)) :
  (convert src dst (.slice (some ⟨w.heap.size, 0, none⟩) 2 2)).run P W = .ok (.string ⟨#[x, y]⟩) W := by
 subst ha hb
 refine run_convert_bytes_back _ src dst e ⟨w.heap.size, 0, none⟩ 2 [x, y] hs he hd fun j hj => ?_
 match j, hj with
 | 0, _ => exact h0
 | 1, _ => exact h1
theorem two_new (w : World) (a b : Value) (t : TypeId) : (w.alloc (.cells #[a, b] t)).cell? ⟨w.heap.size, 0, none⟩ = some a ∧ (w.alloc (.cells #[a, b] t)).cell? ⟨w.heap.size, 1, none⟩ = some b := by
 constructor <;> rw [World.cell?_alloc_new] <;> rfl
theorem xor_bits : ∀ a b c : Bool, bits .xor .i64 (bits .xor .i64 (bn a : Int) (bn b : Int)) (bn c : Int) = (bn (a ^^ b ^^ c) : Int) := by decide
theorem xor_bits2 : ∀ a b : Bool, bits .xor .i64 (bn a : Int) (bn b : Int) = (bn (a ^^ b) : Int) := by decide
theorem cell_bn (b : Bool) : (48 + (bn b : Int)) % 256 = ((cell b).toNat : Int) := by cases b <;> rfl
theorem bn_le (b : Bool) : bn b ≤ 1 := by cases b <;> decide
theorem bn_dec (p : Prop) [Decidable p] : bn (decide p) = if p then 1 else 0 := by
 by_cases h : p
 ·rw [decide_eq_true h, if_pos h]; rfl
 ·rw [decide_eq_false h, if_neg h]; rfl
set_option maxHeartbeats 4000000 in
theorem next_own (s b : Int) (w : World) (h0 : -9223372036854775808 ≤ s) (h1 : s ≤ 9223372036854775807) (h2 : -9223372036854775808 ≤ b) (h3 : b ≤ 9223372036854775807) :
  Calls Tryz.prog 122 #[.int .i64 s, .int .i64 b] w (Nxt s b w) := by
 have f1 : b % 2 = (bn (twoB b) : Int) := by
  unfold twoB
  rw [bn_dec]
  split <;> omega
 have f2 : s / 2 % 2 = (bn (oneB s) : Int) := by
  unfold oneB
  rw [bn_dec]
  split <;> omega
 have f3 : s % 2 = (bn (twoB s) : Int) := by
  unfold twoB
  rw [bn_dec]
  split <;> omega
 unfold Nxt
 obtain ⟨U, hU⟩ : ∃ U, twoB b = U := ⟨_, rfl⟩
 obtain ⟨S1, hS1⟩ : ∃ S1, oneB s = S1 := ⟨_, rfl⟩
 obtain ⟨S2, hS2⟩ : ∃ S2, twoB s = S2 := ⟨_, rfl⟩
 rw [hU, hS1, hS2]
 rw [hU] at f1
 rw [hS1] at f2
 rw [hS2] at f3
 have e1 : bits .and .i64 b 1 = (bn U : Int) := by rw [i64_and1, f1]
 have e2 : bits .and .i64 (s / 2) 1 = (bn S1 : Int) := by rw [i64_and1, f2]
 have e3 : bits .and .i64 s 1 = (bn S2 : Int) := by rw [i64_and1, f3]
 have x1 := xor_bits U S1 S2
 have x2 := xor_bits2 U S2
 have hst : (stN U S1 : Int) = 2 * (bn U : Int) + (bn S1 : Int) := by unfold stN; omega
 have hu := bn_le U
 have hs1 := bn_le S1
 have hs2 := bn_le S2
 have hx1 := bn_le (U ^^ S1 ^^ S2)
 have hx2 := bn_le (U ^^ S2)
 obtain ⟨u, hu'⟩ : ∃ u, bn U = u := ⟨_, rfl⟩
 obtain ⟨a1, ha1⟩ : ∃ u, bn S1 = u := ⟨_, rfl⟩
 obtain ⟨a2, ha2⟩ : ∃ u, bn S2 = u := ⟨_, rfl⟩
 obtain ⟨v1, hv1⟩ : ∃ u, bn (U ^^ S1 ^^ S2) = u := ⟨_, rfl⟩
 obtain ⟨v2, hv2⟩ : ∃ u, bn (U ^^ S2) = u := ⟨_, rfl⟩
 have c1 := cell_bn (U ^^ S1 ^^ S2)
 have c2 := cell_bn (U ^^ S2)
 have hsb : sb (out2 S1 S2 U) = ⟨#[cell (U ^^ S1 ^^ S2), cell (U ^^ S2)]⟩ := rfl
 rw [hsb]
 obtain ⟨C1, hC1⟩ : ∃ c, cell (U ^^ S1 ^^ S2) = c := ⟨_, rfl⟩
 obtain ⟨C2, hC2⟩ : ∃ c, cell (U ^^ S2) = c := ⟨_, rfl⟩
 rw [hu'] at e1 x1 x2 hst hu
 rw [ha1] at e2 x1 hst hs1
 rw [ha2] at e3 x1 x2 hs2
 rw [hv1] at x1 hx1 c1
 rw [hv2] at x2 hx2 c2
 rw [hC1] at c1 ⊢
 rw [hC2] at c2 ⊢
 have d1 : 48 + (v1 : Int) = (C1.toNat : Int) := by omega
 have d2 : 48 + (v2 : Int) = (C2.toNat : Int) := by omega
 have hst2 : (2 : Int) * (u : Int) + (a1 : Int) = (stN U S1 : Int) := hst.symm
 obtain ⟨Z, hZ⟩ : ∃ z : Nat, stN U S1 = z := ⟨_, rfl⟩
 rw [hZ] at hst2 ⊢
 clear hst hsb hU hS1 hS2 f1 f2 f3 hC1 hC2 hv1 hv2 hu' ha1 ha2 hZ
 have hB := Below.refl w.heap.size w
 have hw1 : IntKind.i64.wrap (2 * (u : Int)) = 2 * (u : Int) := IntWalk.i64_in _ (by omega)
 have hw2 : IntKind.i64.wrap (2 * (u : Int) + (a1 : Int)) = (Z : Int) := by rw [IntWalk.i64_in _ (by omega), hst2]
 have cc : ∀ (v W : World), W.cell? ⟨v.heap.size, 0, none⟩ = some (.int .u8 (48 + (v1 : Int))) ∧ W.cell? ⟨v.heap.size, 1, none⟩ = some (.int .u8 (48 + (v2 : Int))) → (convert 53 9 (.slice (some ⟨v.heap.size, 0, none⟩) 2 2)).run Tryz.prog W = .ok (.string ⟨#[C1, C2]⟩) W := fun v W h => conv_two v W d1 d2 Tryz.underlying53 Tryz.underlying5 Tryz.underlying9 h.1 h.2
 have cv1 := cc w (w.alloc (.cells #[.int .u8 (48 + (v1 : Int)), .int .u8 (48 + (v2 : Int))] 5)) (two_new w _ _ _)
 have cv2 := cc w (w.alloc (.cells #[.int .u8 (48 + (v1 : Int)), .int .u8 (48 + (v2 : Int))] 5)).drew (two_new w _ _ _)
 clear cc hst2 d1 d2 c1 c2
 go_enter Tryz.func122, Tryz.ntmps122
 go_wp2_with fail
 go_region_held (fun _ => True) (trivial) (fail)
 go_wp2
 go_ret2
 exact ⟨rfl, chainN (hB.alloc hB.size _) 1⟩

theorem ix_two (c : UInt8) : decide (Lib.indexByte [48, 49] c < 0) = !bitB c := by
 unfold bitB Lib.indexByte
 by_cases h : c = 48
 ·subst h; rfl
 ·by_cases h1 : c = 49
  ·subst h1; rfl
  ·have n1 : ((48 : UInt8) == c) = false := by simpa using fun e => h e.symm
   have n2 : ((49 : UInt8) == c) = false := by simpa using fun e => h1 e.symm
   have m1 : (c == (48 : UInt8)) = false := by simpa using h
   have m2 : (c == (49 : UInt8)) = false := by simpa using h1
   simp [Lib.indexByte, n1, n2, m1, m2]
theorem ix_three (c : UInt8) : decide (Lib.indexByte [48, 49, 63] c < 0) = !okC c := by
 unfold okC Lib.indexByte
 by_cases h : c = 48
 ·subst h; rfl
 ·by_cases h1 : c = 49
  ·subst h1; rfl
  ·by_cases h2 : c = 63
   ·subst h2; rfl
   ·have n1 : ((48 : UInt8) == c) = false := by simpa using fun e => h e.symm
    have n2 : ((49 : UInt8) == c) = false := by simpa using fun e => h1 e.symm
    have n3 : ((63 : UInt8) == c) = false := by simpa using fun e => h2 e.symm
    have m1 : (c == (48 : UInt8)) = false := by simpa using h
    have m2 : (c == (49 : UInt8)) = false := by simpa using h1
    have m3 : (c == (63 : UInt8)) = false := by simpa using h2
    simp [Lib.indexByte, n1, n2, n3, m1, m2, m3]
theorem byte_back (c : UInt8) : ((c.toNat : Int)).toNat.toUInt8 = c := by
 rw [Int.toNat_natCast]
 exact UInt8.ofNat_toNat
theorem ibyte_any (s : ByteArray) (c : UInt8) (w : World) :
  Calls Tryz.prog 120 #[.string s, .int .u8 (c.toNat : Int)] w fun e w' => e = .returned (.int .i64 (Lib.indexByte s.data.toList c)) ∧ w = w' := by
 have h := Tryz.strings_IndexByte s (c.toNat : Int) w
 rw [byte_back] at h
 exact h.mono fun e w' ⟨a, b⟩ => ⟨a, b.symm⟩
theorem all_take (s : ByteArray) (ok : UInt8 → Bool) (k : Nat) (h : k < s.size) : (s.data.toList.take (k + 1)).all ok = ((s.data.toList.take k).all ok && ok s[k]) := by
 have h' : k < s.data.toList.length := by simpa using h
 rw [List.take_succ_eq_append_getElem h', List.all_append]
 simp
 rfl
set_option maxHeartbeats 4000000 in
theorem consists_own (s al : ByteArray) (ok : UInt8 → Bool) (hok : ∀ c, decide (Lib.indexByte al.data.toList c < 0) = !ok c) (w : World) (hs : s.size ≤ 1000000) :
  Calls Tryz.prog 72 #[.string s, .string al] w fun e w' => e = .returned (.bool (s.data.toList.all ok)) ∧ w = w' := by
 obtain ⟨R, hR⟩ : ∃ R, s.data.toList.all ok = R := ⟨_, rfl⟩
 rw [hR]
 replace hR := Lib.hid hR
 go_enter Tryz.func72, Tryz.ntmps72
 go_wp2
 go_loop [8] (fun i => ∃ k : Nat, k ≤ s.size ∧ i = .int .i64 k ∧ Hid ((s.data.toList.take k).all ok = true)) (fun i => s.size - (intOf i).toNat)
 case atStart => exact ⟨0, Nat.zero_le _, rfl, Lib.hid rfl⟩
 case round =>
  obtain ⟨k, hk, rfl, hall⟩ := hrel
  by_cases hlt : k < s.size
  ·have hc := ibyte_any al s[k] w
   have hd := hok s[k]
   have hn := all_take s ok k hlt
   rw [hall.out, Bool.true_and] at hn
   obtain ⟨j, hj⟩ : ∃ j, Lib.indexByte al.data.toList s[k] = j := ⟨_, rfl⟩
   rw [hj] at hc hd
   have hc := Lib.hid hc
   rcases hb : ok s[k] with _ | _
   ·rw [hb] at hd hn
    have hfin : R = false := by
     rw [← hR.out, ← List.take_append_drop (k + 1) s.data.toList, List.all_append, hn]
     rfl
    replace hd : decide (j < 0) = true := hd
    replace hn := Lib.hid hn
    replace hfin := Lib.hid hfin
    clear hj hb
    go_wp2_with fail
    refine hc.out.mono ?_
    rintro e w1 ⟨rfl, rfl⟩
    go_wp2
    go_ret
    exact ⟨ret_bool hfin.out.symm, rfl⟩
   ·rw [hb] at hd hn
    replace hd : decide (j < 0) = false := hd
    replace hn := Lib.hid hn
    clear hj hb
    go_wp2_with fail
    refine hc.out.mono ?_
    rintro e w1 ⟨rfl, rfl⟩
    go_wp2
    go_round
    case rel => exact ⟨k + 1, by omega, by go_num, hn⟩
    case measure => simp [intOf]; omega
  ·obtain rfl : k = s.size := by omega
   have hfin : R = true := by
    rw [← hR.out]
    have e : s.data.toList.take s.size = s.data.toList := List.take_of_length_le (by simp)
    rw [← e]
    exact hall.out
   replace hfin := Lib.hid hfin
   go_wp2
   go_ret
   exact ⟨ret_bool hfin.out.symm, rfl⟩
end C9
namespace C9
open Go.RowKit Go.Shelf Mem
attribute [local go_sem] Oper.semAt_some

theorem prs_app : ∀ (l m : List Bool) (s1 s2 : Bool), prs s1 s2 (l ++ m) = prs s1 s2 l ++ prs (fin s1 s2 l).1 (fin s1 s2 l).2 m
 | [], m, s1, s2 => rfl
 | u :: l, m, s1, s2 => by
  show _ :: prs u s1 (l ++ m) = _ :: (prs u s1 l ++ _)
  rw [prs_app l m u s1]
  rfl
theorem prs_snoc (l : List Bool) (u : Bool) : prs false false (l ++ [u]) = prs false false l ++ [(u ^^ (fin false false l).1 ^^ (fin false false l).2, u ^^ (fin false false l).2)] := by
 rw [prs_app]
 rfl
theorem next_at (s1 s2 u : Bool) (w : World) : Calls Tryz.prog 122 #[.int .i64 (stN s1 s2 : Int), .int .i64 (bn u : Int)] w fun e w' =>
  e = .returned (.tuple #[.int .i64 (stN u s1 : Int), .string (sb (two (u ^^ s1 ^^ s2, u ^^ s2)))]) ∧ Below w.heap.size w w' := by
 have h := next_own (stN s1 s2 : Int) (bn u : Int) w (by cases s1 <;> cases s2 <;> decide) (by cases s1 <;> cases s2 <;> decide) (by cases u <;> decide) (by cases u <;> decide)
 unfold Nxt at h
 rw [show oneB (stN s1 s2 : Int) = s1 by cases s1 <;> cases s2 <;> decide, show twoB (stN s1 s2 : Int) = s2 by cases s1 <;> cases s2 <;> decide, show twoB (bn u : Int) = u by cases u <;> decide] at h
 exact h
theorem pairs_own (s : ByteArray) (w : World) : Calls Tryz.prog 73 #[.string s] w fun e w' =>
  e = .returned (.func (.func 121) #[] #[.pointer (some ⟨w.heap.size, 0, none⟩)]) ∧ w' = w.alloc (.cells #[.string s] 9) := by
 go_enter Tryz.func73, Tryz.ntmps73
 go_wp2
 go_ret
 exact ⟨rfl, rfl⟩
theorem grown_of {w w' : World} (h : Below w.heap.size w w') : w.grownBy w' none := ⟨h.os, h.tape, h.output, h.size, fun i hi _ => h.block i hi⟩
theorem sb_get (l : List Bool) (k : Nat) (h : k < (sb l).size) (h' : k < l.length) : (((sb l)[k]).toNat : Int) = 48 + (bn l[k] : Int) := by
 have e : (sb l)[k] = cell l[k] := by
  show (cs l).toArray[k]'_ = _
  simp [cs]
 rw [e]
 cases l[k] <;> rfl
set_option maxHeartbeats 4000000 in
/-- The iterator over the pairs of cells of the bits m, for every body of the loop. -/
theorem pairs1_in (m : List Bool) (hm : m.length ≤ 65536) (l Bn n₀ : Nat) (J Jx : List (Bool × Bool) → World → Prop)
  (hJ : ∀ pre W W', J pre W → W.grownBy W' none → J pre W')
  (hY : ∀ pre x W, J pre W → pre.length < m.length + 2 → YieldAt Fence.wide 1 Tryz.prog l #[.string (sb (two x))] W fun e W' =>
   (e = .returned (.bool true) ∧ J (pre ++ [x]) W' ∧ Below n₀ W W') ∨ (e = .returned (.bool false) ∧ Jx (pre ++ [x]) W'))
  (W : World) (hBn : W.cell? ⟨Bn, 0, none⟩ = some (.string (sb m))) (h0 : J [] W) :
  CallsIn Fence.wide 2 Tryz.prog 121 #[.func (.yield l) #[] #[], .pointer (some ⟨Bn, 0, none⟩)] W fun e W' => (∃ v, e = .returned v) ∧
   ((∃ ys, ys = prs false false (m ++ [false, false]) ∧ J ys W') ∨ (∃ pre, pre <+: prs false false (m ++ [false, false]) ∧ Jx pre W')) := by
 obtain ⟨T, hT⟩ : ∃ T, sb (m ++ [false, false]) = T := ⟨_, rfl⟩
 obtain ⟨M, hM⟩ : ∃ M, m ++ [false, false] = M := ⟨_, rfl⟩
 obtain ⟨L, hL⟩ : ∃ L, M.length = L := ⟨_, rfl⟩
 have hLm : L = m.length + 2 := by rw [← hL, ← hM, List.length_append]; rfl
 have hTs : T.size = L := by rw [← hT, sb_size, hM, hL]
 have hmS := sb_size m
 obtain ⟨S, hS⟩ : ∃ S, sb m = S := ⟨_, rfl⟩
 rw [hS] at hmS hBn
 have r0 : ∀ W, (Op.stringOp .add S ⟨#[48, 48]⟩).run Tryz.prog W = .ok (.string T) W := fun W => by
  rw [Go.run_string_add_sum _ _ _ (by show S.size + 2 ≤ _; omega), ← hT, ← hS, ← sb_app]
  rfl
 rw [hM] at hT ⊢
 have hget : ∀ (k : Nat) (h : k < T.size) (h' : k < M.length), ((T[k]).toNat : Int) = 48 + (bn M[k] : Int) := fun k h h' => by
  subst hT
  exact sb_get M k h h'
 replace hget := Lib.hid hget
 have hL6 : L ≤ 65538 := by omega
 rw [← hLm] at hY
 replace hS := Lib.hid hS
 replace hM := Lib.hid hM
 replace hT := Lib.hid hT
 replace hL := Lib.hid hL
 clear hmS hLm
 refine callsIn_of_wp Tryz.func121 rfl trivial ?_ rfl
 simp only [Tryz.ntmps121, List.size_toArray, List.length_cons, List.length_nil, Nat.reduceAdd, Nat.reduceSub, Array.replicate_succ, Array.replicate_zero, List.push_toArray, List.append_toArray, List.nil_append, List.cons_append]
 gi_wp2
 gi_loopw [4, 12] (fun st i wr => ∃ k : Nat, k ≤ L ∧ i = .int .i64 (k : Int) ∧ st = .int .i64 (stN (fin false false (M.take k)).1 (fin false false (M.take k)).2 : Int) ∧ J (prs false false (M.take k)) wr)
  (fun _ i _ => L - (intOf i).toNat)
 case atStart => exact ⟨0, Nat.zero_le _, rfl, rfl, h0⟩
 case round =>
  obtain ⟨k, hk, rfl, rfl, hJs⟩ := hrel
  by_cases hlt : k < L
  ·have hkM : k < M.length := by rw [hL.out]; exact hlt
   have hkT : k < T.size := by omega
   have hx := hget.out k hkT hkM
   have hts := List.take_succ_eq_append_getElem hkM
   obtain ⟨b, hb⟩ : ∃ b, M[k] = b := ⟨_, rfl⟩
   rw [hb] at hx hts
   obtain ⟨P, hP⟩ : ∃ P, M.take k = P := ⟨_, rfl⟩
   rw [hP] at hts hJs ⊢
   have hfs := fin_snoc P b false false
   have hps := prs_snoc P b
   rw [← hts] at hfs hps
   have hPl : (prs false false P).length = k := by rw [prs_len, ← hP, List.length_take]; omega
   have c := next_at (fin false false P).1 (fin false false P).2 b wr
   obtain ⟨s1, hs1⟩ : ∃ s, (fin false false P).1 = s := ⟨_, rfl⟩
   obtain ⟨s2, hs2⟩ : ∃ s, (fin false false P).2 = s := ⟨_, rfl⟩
   rw [hs1, hs2] at c hps ⊢
   rw [hs1] at hfs
   obtain ⟨Y, hY0⟩ : ∃ Y, (b ^^ s1 ^^ s2, b ^^ s2) = Y := ⟨_, rfl⟩
   rw [hY0] at c hps
   obtain ⟨st, hst⟩ : ∃ n, stN s1 s2 = n := ⟨_, rfl⟩
   have hst3 : st ≤ 3 := by rw [← hst]; cases s1 <;> cases s2 <;> decide
   obtain ⟨st', hst'⟩ : ∃ n, stN b s1 = n := ⟨_, rfl⟩
   obtain ⟨d, hd⟩ : ∃ n, bn b = n := ⟨_, rfl⟩
   have hd1 : d ≤ 1 := by rw [← hd]; exact bn_le b
   rw [hst, hst', hd] at c
   rw [hd] at hx
   rw [hst]
   have hfin' : stN (fin false false (M.take (k + 1))).1 (fin false false (M.take (k + 1))).2 = st' := by rw [hfs]; exact hst'
   replace c := Lib.hid c
   replace hps := Lib.hid hps
   replace hfin' := Lib.hid hfin'
   have hI0 : (0 : Int) ≤ (k : Int) := by omega
   have hI1 : (k : Int) < (L : Int) := by omega
   have hI2 : (k : Int) < (T.size : Int) := by omega
   have hw0 : 48 + (d : Int) - 48 = (d : Int) := by omega
   have hw1 : (d : Int) % 256 = (d : Int) := by omega
   replace hPl := Lib.hid hPl
   clear hts hP hfs hs1 hs2 hY0 hst hst' hd hb
   gi_wp2_with (refine ⟨trivial, ?_⟩; gi_at_call 122; refine (callsIn_wide.2 c.out).mono ?_; rintro e w1 ⟨rfl, hb1⟩; have hJ1 := hJ _ _ _ hJs (grown_of hb1); obtain ⟨fn, tmps, assign, body, hy, hR⟩ := hY (prs false false P) Y w1 hJ1 (by rw [hPl.out]; exact hlt))
   refine hR.mono ?_
   rintro e W3 (⟨rfl, hJ3, hk3⟩ | ⟨rfl, hJx3⟩)
   ·gi_wp2
    go_roundw
    case rel => exact ⟨k + 1, by omega, by go_num, by rw [hfin'.out], by rw [hps.out]; exact hJ3⟩
    case measure => simp [intOf]; omega
   ·gi_wp2
    refine bodyPost_ret (results_none rfl _ _ _) rfl ?_
    refine ⟨⟨_, rfl⟩, .inr ⟨prs false false P ++ [Y], ?_, hJx3⟩⟩
    rw [← hps.out]
    have e : prs false false M = prs false false (M.take (k + 1)) ++ prs (fin false false (M.take (k + 1))).1 (fin false false (M.take (k + 1))).2 (M.drop (k + 1)) := by
     rw [← prs_app, List.take_append_drop]
    rw [e]
    exact List.prefix_append _ _
  ·obtain rfl : k = L := by omega
   have hall : M.take k = M := List.take_of_length_le (by rw [hL.out]; exact Nat.le_refl _)
   rw [hall] at hJs ⊢
   have hd : decide ((k : Int) < (k : Int)) = false := decide_eq_false (by omega)
   clear hall
   gi_wp2
   go_end0
   exact ⟨⟨_, rfl⟩, .inl ⟨_, rfl, hJs⟩⟩
theorem pairs_stops (m : List Bool) (hm : m.length ≤ 65536) (Bn n₀ : Nat) (w : World) (hBn : Bn < w.heap.size) (hc : w.cell? ⟨Bn, 0, none⟩ = some (.string (sb m))) :
  SeqStopsK Fence.wide 2 Tryz.prog 121 #[.pointer (some ⟨Bn, 0, none⟩)] (fun x : Bool × Bool => #[.string (sb (two x))]) (Below n₀) (fun ys => ys = prs false false (m ++ [false, false])) (fun pre => pre <+: prs false false (m ++ [false, false])) (m.length + 2) w :=
 fun l J Jx W hW hJ _ hY h0 => pairs1_in m hm l Bn n₀ J Jx (fun pre A B h hg => hJ pre A B none h hg (fun r e => by cases e)) hY W ((hW.cell (p := ⟨Bn, 0, none⟩) hBn).trans hc) h0
end C9
namespace C9
open Go.RowKit Go.Shelf Mem Bld
attribute [local go_sem] Oper.semAt_some

theorem strCells_bytes (l : List Bool) : Lib.strCells (sb l) = Lib.byteCells (cs l) := rfl
theorem pcells_code (m : List Bool) : pcells (prs false false (m ++ [false, false])) = Lib.byteCells (cs (enc m)) := by
 rw [pcells_all, prs_run, strCells_bytes]
 rfl
theorem consists_bits (s : ByteArray) (w : World) (hs : s.size ≤ 1000000) :
  Calls Tryz.prog 72 #[.string s, .string ⟨#[48, 49]⟩] w fun e w' => e = .returned (.bool (s.data.toList.all bitB)) ∧ w = w' := consists_own s ⟨#[48, 49]⟩ bitB ix_two w hs
theorem consists_cells (s : ByteArray) (w : World) (hs : s.size ≤ 1000000) :
  Calls Tryz.prog 72 #[.string s, .string ⟨#[48, 49, 63]⟩] w fun e w' => e = .returned (.bool (s.data.toList.all okC)) ∧ w = w' := consists_own s ⟨#[48, 49, 63]⟩ okC ix_three w hs
set_option maxHeartbeats 4000000 in
theorem encode_good (m : List Bool) (w : World) (hm : m.length ≤ 65536) :
  Calls Tryz.prog 39 #[.string (sb m)] w fun e w' => e = .returned (.tuple #[.string (sb (enc m)), .int .i64 0]) ∧ Below w.heap.size w w' := by
 have c1 := fun W => consists_bits (sb m) W (by rw [sb_size]; omega)
 rw [show (sb m).data.toList.all bitB = true from Bits.sb m] at c1
 have c2 := fun W => pairs_own (sb m) W
 have hms := sb_size m
 have hst := fun (W : World) h1 h2 => pairs_stops m hm (w.heap.size + 1) w.heap.size W h1 h2
 obtain ⟨S, hS⟩ : ∃ S, sb m = S := ⟨_, rfl⟩
 rw [hS] at c1 c2 hms hst ⊢
 have d0 : decide ((65536 : Int) < (m.length : Int)) = false := decide_eq_false (by omega)
 replace c1 := Lib.hid c1
 replace c2 := Lib.hid c2
 replace hS := Lib.hid hS
 replace hst := Lib.hid hst
 refine (callsIn_wide (n := 3)).1 ?_
 refine callsIn_of_wp_marks Tryz.func39 rfl trivial ?_ rfl
 simp only [Tryz.ntmps39, List.size_toArray, List.length_cons, List.length_nil, Nat.reduceAdd, Nat.reduceSub, Array.replicate_succ, Array.replicate_zero, List.push_toArray, List.append_toArray, List.nil_append, List.cons_append]
 gi_wp2_with (first
  |(refine ⟨trivial, ?_⟩; gi_at_call 72; refine (callsIn_wide.2 (c1.out _)).mono ?_; rintro e w' ⟨rfl, rfl⟩)
  |(refine ⟨trivial, ?_⟩; gi_at_call 73; refine (callsIn_wide.2 (c2.out _)).mono ?_; rintro e w' ⟨rfl, rfl⟩))
 have hf0 := Lib.fresh_isBuilder 74 5 w
 have hI0 : Lib.IsBuilder 74 5 w.heap.size w.heap.size (pcells []) ((w.alloc (.cells #[.pointer none, .slice none 0 0] 74)).alloc (.cells #[.string S] 9)) :=
  builder_below hf0 ((Below.refl _ _).alloc (Nat.le_refl _) _)
 have hB0 : Below w.heap.size w ((w.alloc (.cells #[.pointer none, .slice none 0 0] 74)).alloc (.cells #[.string S] 9)) := ((Below.refl _ w).alloc (Nat.le_refl _) _).alloc (by simp) _
 have hc0 : ((w.alloc (.cells #[.pointer none, .slice none 0 0] 74)).alloc (.cells #[.string S] 9)).cell? ⟨w.heap.size + 1, 0, none⟩ = some (.string S) := by
  have h := one_new (w.alloc (.cells #[.pointer none, .slice none 0 0] 74)) (.string S) 9 0 _ rfl
  rw [World.size_alloc] at h
  exact h
 clear hf0
 refine wpIn_rangeFunc_ownF rfl (by omega) (gf := 121) (lb := #[.pointer (some ⟨w.heap.size + 1, 0, none⟩)]) rfl trivial (enters_of Tryz.func121 (by kernel_rfl) rfl)
  (hst.out _ (by simp) hc0) belowK_t (belowK_b (by simp; omega)) (Below.refl _ _) (fun _ => rfl)
  (fun pre W => Lib.IsBuilder 74 5 w.heap.size w.heap.size (pcells pre) W ∧ Below w.heap.size w W)
  (fun _ _ _ => False)
  (OwnFrom.and (show OwnFrom _ (fun (pre : List (Bool × Bool)) W => Lib.IsBuilder 74 5 w.heap.size w.heap.size (pcells pre) W) from fun pre A B row hs hg hr => builder_grown hs hg fun r e => (hr r e).2) (ownFrom_below (Nat.le_refl _) (by simp; omega)))
  (fun _ _ _ _ _ hs _ _ => hs)
  ⟨hI0, hB0⟩
  (fun x => { tmps := #[.string S, undef, .string ⟨#[]⟩, .int .i64 0, .pointer (some ⟨w.heap.size, 0, none⟩), .string (sb (two x)), .bool false, .string S, .int .i64 m.length, .bool false, .bool false, .string S, .bool true, .bool false, .string S,
   .func (.func 121) #[] #[.pointer (some ⟨w.heap.size + 1, 0, none⟩)], .string (sb (two x)), undef, undef, undef], defers := [] }) ?assign ?body ?done ?stop
 case assign =>
  intro l x W K hK
  gi_wp2
  exact hK
 case body =>
  rintro l pre x W ⟨hI, hB⟩ hlt
  have hl : (pcells pre).length + (sb (two x)).size ≤ 140737488355328 := by rw [pcells_len, sb_two_size]; omega
  have cw := Lib.hid (write_any w.heap.size w.heap.size (pcells pre) (sb (two x)) W hI hl hB.size)
  clear hI0 hB0 hc0
  gi_wp2_with (refine ⟨trivial, ?_⟩; gi_at_call 31; refine (CallsIn.inRound l (callsIn_wide.2 cw.out)).mono ?_; rintro e w' ⟨rfl, hI2, hb2, hk2⟩)
  refine ⟨hk2, hb2, ?_, hB.trans hb2⟩
  rw [pcells_snoc]
  exact hI2
 case done =>
  rintro D ys W hD rfl ⟨hI, hB⟩ hK
  rw [pcells_code] at hI
  have cw := Lib.hid (Tryz.Builder_String_any_k _ _ _ W (Lib.IsBuilderF.of hI) hB.size)
  have hDw : w.heap.size + 2 ≤ D := by simpa using hD
  clear hI0 hB0 hc0
  gi_wp2_with (refine ⟨trivial, ?_⟩; gi_at_call 32; refine (callsIn_wide.2 cw.out).mono ?_; rintro e w' ⟨rfl, hI2, hb2, hok⟩)
  have hK2 := hok D _ hK (by intro e; injection e with e; omega) (by intro c fz e; cases e)
  refine ⟨by simp, .inl ⟨_, _, rfl, run_takeDeferred hK2, ?_⟩⟩
  refine ⟨_, results_tmp2 rfl _ _ _, rfl, (hB.trans hb2).trans (belowK_b (w := w) (Nat.le_refl _) w' D _ _ (by omega) hK2 rfl rfl)⟩
 case stop =>
  rintro D c pre W _ _ h _
  exact h.elim
set_option maxHeartbeats 4000000 in
theorem encode_own (s : ByteArray) (w : World) (hs : s.size ≤ 281474976710656) : Calls Tryz.prog 39 #[.string s] w (Enco s w) := by
 by_cases h1 : 65536 < s.size
 ·have hq : EncQ s ⟨#[]⟩ 6 := ⟨fun _ => ⟨rfl, rfl⟩, fun h => absurd h (by omega)⟩
  have d0 : decide ((65536 : Int) < (s.size : Int)) = true := decide_eq_true (by omega)
  have d1 : decide (65536 < s.size) = true := decide_eq_true h1
  replace hq := Lib.hid hq
  clear h1
  go_enter Tryz.func39, Tryz.ntmps39
  go_wp2
  go_ret2
  exact ⟨_, _, hq.out, rfl, Below.refl _ _⟩
 ·cases hb : s.data.toList.all bitB
  ·have hq : EncQ s ⟨#[]⟩ 3 := ⟨fun h => absurd h h1, fun _ => ⟨fun _ => ⟨rfl, rfl⟩, fun h => by unfold Bits at h; rw [hb] at h; cases h⟩⟩
   have c1 := consists_bits s w (by omega)
   rw [hb] at c1
   have d0 : decide ((65536 : Int) < (s.size : Int)) = false := decide_eq_false (by omega)
   have d1 : decide (65536 < s.size) = false := decide_eq_false h1
   replace hq := Lib.hid hq
   replace c1 := Lib.hid c1
   clear h1 hb
   go_enter Tryz.func39, Tryz.ntmps39
   go_wp2_with fail
   refine c1.out.mono ?_
   rintro e w1 ⟨rfl, rfl⟩
   go_wp2
   go_ret2
   exact ⟨_, _, hq.out, rfl, Below.refl _ _⟩
  ·have hbs : Bits s := hb
   have hq : EncQ s (sb (enc (tb s))) 0 := ⟨fun h => absurd h h1, fun _ => ⟨fun h => absurd hbs h, fun _ => ⟨rfl, rfl⟩⟩⟩
   have hgood := encode_good (tb s) w (by rw [tb_len]; omega)
   rw [sb_tb hbs] at hgood
   refine hgood.mono ?_
   rintro e w1 ⟨rfl, hb1⟩
   exact ⟨_, _, hq, rfl, hb1⟩
end C9
namespace C9
open Go.RowKit Go.Shelf Mem

theorem info_byte9 : (Tryz.prog.info? 5).map (fun i => (i.zero, i.size, i.bytes)) = some (some (.int .u8 0), 1, 1) := by kernel_rfl
theorem make_bytes (w : World) (n : Nat) (h : n ≤ 1000000) : (Instr.makeSlice 53 (.int .i64 (n : Int)) (.int .i64 (n : Int))).run Tryz.prog w = .ok (.slice (some ⟨w.heap.size, 0, none⟩) n n) (w.alloc (.cells (madeCells #[.int .u8 0] n) 5)) := by
 obtain ⟨i0, hi, hz0, hz1, hz2⟩ := info_parts info_byte9
 have hr := run_make (P := Tryz.prog) w 53 5 i0 (.int .u8 0) Tryz.underlying53 hi hz0 .i64 .i64 (n : Int) (n : Int) (by omega) (Int.le_refl _) (by rw [hz2]; omega) (by omega)
 rw [hz1, Nat.mul_one, show (Value.int .u8 0).cells = #[.int .u8 0] from rfl] at hr
 simp only [Int.toNat_natCast] at hr
 exact hr
theorem bytes_at (w : World) (n : Nat) (h : n ≤ 1000000) : BAt (w.alloc (.cells (madeCells #[.int .u8 0] n) 5)) w.heap.size (List.replicate n 0) := by
 have hz := World.ownsRow_lit (base := w.heap.size) (e := 5) (size := 1) w (madeCells #[.int .u8 0] n) n (Nat.le_refl _) (by unfold maxLen; omega) (by rw [← Array.length_toList, toList_madeCells_one]; simp)
 rw [toList_madeCells_one] at hz
 have hv := VAt.of_own hz
 intro j hj
 have hj' : j < n := by simpa using hj
 have := hv j (by simpa using hj')
 simpa using this
def rowk (p : List Bool) (n : Nat) : List UInt8 := cs p ++ List.replicate (n - p.length) 0
theorem rowk_nil (n : Nat) : rowk [] n = List.replicate n 0 := rfl
theorem rowk_len (p : List Bool) (n : Nat) (h : p.length ≤ n) : (rowk p n).length = n := by
 unfold rowk
 rw [List.length_append, cs_len, List.length_replicate]
 omega
theorem rowk_set (p : List Bool) (n : Nat) (h : p.length < n) (b : Bool) : (rowk p n).set p.length (cell b) = rowk (p ++ [b]) n := by
 unfold rowk
 have e : n - p.length = (n - (p.length + 1)) + 1 := by omega
 rw [List.set_append, if_neg (by rw [cs_len]; omega), cs_len, Nat.sub_self, e, List.replicate_succ, List.set_cons_zero, cs_app, List.length_append, List.length_singleton, List.append_assoc]
 rfl
theorem rowk_full (p : List Bool) (n : Nat) (h : p.length = n) : rowk p n = cs p := by
 unfold rowk
 rw [h, Nat.sub_self, List.replicate_zero, List.append_nil]
theorem str_beq_no {a b : ByteArray} (h : ¬ a = b) : (a.toList == b.toList) = false := beq_eq_false_iff_ne.2 fun e => h (by
 rw [str_toList, str_toList] at e
 exact ByteArray.ext (Array.toList_inj.1 e))
theorem str_beq_yes {a b : ByteArray} (h : a = b) : (a.toList == b.toList) = true := by
 rw [h]
 exact beq_self_eq_true _
set_option maxHeartbeats 4000000 in
theorem candidate_own (c : ByteArray) (n : Nat) (w : World) (hn : c.size = 2 * n + 4) (hn6 : n ≤ 1000000) :
  Calls Tryz.prog 161 #[.string c] w fun e w' => ∃ p : List Bool, p.length = n ∧ Reads c p ∧ e = .returned (.string (sb p)) ∧ Below w.heap.size w w' := by
 have hmk := make_bytes w n hn6
 have hat := bytes_at w n hn6
 rw [← rowk_nil] at hat
 have hcn : (c.size : Int) = 2 * (n : Int) + 4 := by omega
 have q1 : (c.size : Int) / 2 - 2 = (n : Int) := by omega
 have q2 : c.size / 2 = n + 2 := by omega
 have q3 : (c.size : Int) / 2 = (n : Int) + 2 := by omega
 have hB0 : Below w.heap.size w (w.alloc (.cells (madeCells #[.int .u8 0] n) 5)) := (Below.refl _ w).alloc (Nat.le_refl _) _
 have hcn' := Lib.hid hcn
 have hnh := Lib.hid hn
 replace hat := Lib.hid hat
 clear hcn hn
 go_enter Tryz.func161, Tryz.ntmps161
 go_wp2
 clear hmk q1 q2 q3
 go_loopw [4, 16] (fun st i wr => ∃ p : List Bool, p.length ≤ n ∧ i = .int .i64 (p.length : Int) ∧ st = .int .i64 (stN (fin false false p).1 (fin false false p).2 : Int) ∧ Hid (BAt wr w.heap.size (rowk p n)) ∧ Hid (Reads c p) ∧ w.heap.size < wr.heap.size ∧ Below w.heap.size w wr)
  (fun _ i _ => n - (intOf i).toNat)
 case atStart => exact ⟨[], Nat.zero_le _, rfl, rfl, hat, Lib.hid (Reads.nil c), by simp, hB0⟩
 case round =>
  obtain ⟨p, hp, rfl, rfl, hA, hR, hlt0, hb⟩ := hrel
  clear hat hB0
  obtain ⟨k, hk⟩ : ∃ k, p.length = k := ⟨_, rfl⟩
  rw [hk] at hp ⊢
  by_cases hlt : k < n
  ·have hrs := fun b => rowk_set p n (by rw [hk]; exact hlt) b
   rw [hk] at hrs
   have hrl := rowk_len p n (by rw [hk]; exact hp)
   have hstep := fun b => hR.out.step (b := b) hnh.out (by rw [hk]; exact hlt)
   rw [hk] at hstep
   have hfs := fun b => fin_snoc p b false false
   have cn := fun u W => next_at (fin false false p).1 (fin false false p).2 u W
   obtain ⟨s1, hs1⟩ : ∃ s, (fin false false p).1 = s := ⟨_, rfl⟩
   obtain ⟨s2, hs2⟩ : ∃ s, (fin false false p).2 = s := ⟨_, rfl⟩
   rw [hs1, hs2] at cn hstep ⊢
   rw [hs1] at hfs
   have hst3 : stN s1 s2 ≤ 3 := by cases s1 <;> cases s2 <;> decide
   have c0 := cn false
   have c1 := cn true
   rw [show (bn false : Int) = 0 from rfl] at c0
   rw [show (bn true : Int) = 1 from rfl] at c1
   have hP0 : sb (two (false ^^ s1 ^^ s2, false ^^ s2)) = sb (out2 s1 s2 false) := rfl
   rw [hP0] at c0
   obtain ⟨P0, hP⟩ : ∃ P, sb (out2 s1 s2 false) = P := ⟨_, rfl⟩
   obtain ⟨P1, hP1⟩ : ∃ P, sb (two (true ^^ s1 ^^ s2, true ^^ s2)) = P := ⟨_, rfl⟩
   rw [hP] at c0 hstep
   rw [hP1] at c1
   obtain ⟨st, hst⟩ : ∃ z, stN s1 s2 = z := ⟨_, rfl⟩
   obtain ⟨t0, ht0⟩ : ∃ z, stN false s1 = z := ⟨_, rfl⟩
   obtain ⟨t1, ht1⟩ : ∃ z, stN true s1 = z := ⟨_, rfl⟩
   rw [hst, ht0] at c0
   rw [hst, ht1] at c1
   rw [hst] at hst3 ⊢
   have hf0 : stN (fin false false (p ++ [false])).1 (fin false false (p ++ [false])).2 = t0 := by rw [hfs]; exact ht0
   have hf1 : stN (fin false false (p ++ [true])).1 (fin false false (p ++ [true])).2 = t1 := by rw [hfs]; exact ht1
   have hl1 : ∀ b, (p ++ [b]).length = k + 1 := fun b => by rw [List.length_append, hk]; rfl
   replace c0 := Lib.hid c0
   replace c1 := Lib.hid c1
   replace hf0 := Lib.hid hf0
   replace hf1 := Lib.hid hf1
   replace hl1 := Lib.hid hl1
   replace hrs := Lib.hid hrs
   have hI0 : (0 : Int) ≤ (k : Int) := by omega
   have hI1 : (k : Int) < (n : Int) := by omega
   have hcI := hcn'.out
   have hcN := hnh.out
   obtain ⟨A, hA1⟩ : ∃ A, k * 2 = A := ⟨_, rfl⟩
   obtain ⟨B, hB1⟩ : ∃ B, (k + 1) * 2 = B := ⟨_, rfl⟩
   have a1 : (k : Int) * 2 = (A : Int) := by omega
   have a2 : ((k : Int) + 1) * 2 = (B : Int) := by omega
   have a3 : (A : Int) ≤ (B : Int) := by omega
   have a4 : (B : Int) ≤ (c.size : Int) := by omega
   have a5 : A ≤ B := by omega
   have a6 : B ≤ c.size := by omega
   have a7 : (0 : Int) ≤ (A : Int) := by omega
   have a8 : IntKind.i64.wrap (A : Int) = (A : Int) := IntWalk.i64_in _ (by omega)
   have a9 : IntKind.i64.wrap (B : Int) = (B : Int) := IntWalk.i64_in _ (by omega)
   rw [hA1, hB1] at hstep
   obtain ⟨E, hE⟩ : ∃ E, c.extract A B = E := ⟨_, rfl⟩
   rw [hE] at hstep
   clear hcI hcN hA1 hB1 hs1 hs2 hfs hst ht0 ht1 hP hP1 cn hP0
   by_cases hPE : P0 = E
   ·have hR1 := Lib.hid (hstep false ⟨fun _ => hPE.symm, fun _ => rfl⟩)
    have d1 := str_beq_yes hPE
    replace hPE := Lib.hid hPE
    clear hstep
    go_wp2_with fail
    refine (c0.out _).mono ?_
    rintro e w1 ⟨rfl, hbA⟩
    have hbb := chain hb hbA
    have hA2 := hA.out.below hbA hlt0
    have hck := (hA2 k (by rw [hrl]; exact hlt))
    have hcf := hck.2
    have hcc := hck.1
    have hset := hA2.set (k := k) (by rw [hrl]; exact hlt) (cell false)
    rw [hrs.out, show ((cell false).toNat : Int) = 48 from rfl] at hset
    have hb3 := hbb.setCell (p := ⟨w.heap.size, k, none⟩) (Nat.le_refl _) (.int .u8 48)
    have hlt3 : w.heap.size < (w1.setCell ⟨w.heap.size, k, none⟩ (.int .u8 48)).heap.size := Nat.lt_of_lt_of_le (Nat.lt_of_lt_of_le hlt0 hbA.size) (by simp)
    replace hset := Lib.hid hset
    have hset := hset
    clear hA hA2 hck hbA
    go_wp2
    go_roundw
    case rel => exact ⟨p ++ [false], by rw [hl1.out]; omega, by rw [hl1.out]; go_num, by rw [hf0.out], hset, hR1, hlt3, hb3⟩
    case measure => simp [intOf]; omega
   ·have hR1 := Lib.hid (hstep true ⟨fun e => Bool.noConfusion e, fun e => absurd e.symm hPE⟩)
    have d1 := str_beq_no hPE
    replace hPE := Lib.hid hPE
    clear hstep
    go_wp2_with fail
    refine (c0.out _).mono ?_
    rintro e w0 ⟨rfl, hbA0⟩
    have hbb0 := chain hb hbA0
    go_wp2_with fail
    refine (c1.out _).mono ?_
    rintro e w1 ⟨rfl, hbA1⟩
    have hbb := chain hbb0 hbA1
    have hbA := chain hbA0 hbA1
    clear hbA0 hbA1 hbb0
    have hA2 := hA.out.below hbA hlt0
    have hck := (hA2 k (by rw [hrl]; exact hlt))
    have hcf := hck.2
    have hcc := hck.1
    have hset := hA2.set (k := k) (by rw [hrl]; exact hlt) (cell true)
    rw [hrs.out, show ((cell true).toNat : Int) = 49 from rfl] at hset
    have hb3 := hbb.setCell (p := ⟨w.heap.size, k, none⟩) (Nat.le_refl _) (.int .u8 49)
    have hlt3 : w.heap.size < (w1.setCell ⟨w.heap.size, k, none⟩ (.int .u8 49)).heap.size := Nat.lt_of_lt_of_le (Nat.lt_of_lt_of_le hlt0 hbA.size) (by simp)
    replace hset := Lib.hid hset
    have hset := hset
    clear hA hA2 hck hbA
    go_wp2
    go_roundw
    case rel => exact ⟨p ++ [true], by rw [hl1.out]; omega, by rw [hl1.out]; go_num, by rw [hf1.out], hset, hR1, hlt3, hb3⟩
    case measure => simp [intOf]; omega
  ·obtain rfl : k = n := by omega
   rw [rowk_full p k hk] at hA
   have hcv := hA.out.conv (P := Tryz.prog) (cap := k) (n := k) (dst := 9) (by rw [cs_len]; exact hk) Tryz.underlying53 Tryz.underlying5 Tryz.underlying9
   have hd : decide ((k : Int) < (k : Int)) = false := decide_eq_false (by omega)
   have hkh := Lib.hid hk
   clear hk hA
   go_wp2
   go_ret
   exact ⟨p, hkh.out, hR.out, rfl, hb⟩
theorem Enco.good {p : List Bool} {w w' : World} {e : Ending} (h : Enco (sb p) w e w') (hp : p.length ≤ 65536) : e = .returned (.tuple #[.string (sb (enc p)), .int .i64 0]) ∧ Below w.heap.size w w' := by
 obtain ⟨S, k, hq, rfl, hb⟩ := h
 obtain ⟨rfl, rfl⟩ := hq.sb hp
 exact ⟨rfl, hb⟩
set_option maxHeartbeats 4000000 in
theorem extract_own (c : ByteArray) (w : World) (hc : c.size ≤ 100000) : Calls Tryz.prog 127 #[.string c] w (Extr c w) := by
 have c1 := consists_cells c w (by omega)
 cases hb : c.data.toList.all okC
 ·have hq : ExtQ c ⟨#[]⟩ 3 := ⟨fun _ => ⟨rfl, rfl⟩, fun h => by rw [hb] at h; cases h⟩
  rw [hb] at c1
  replace hq := Lib.hid hq
  replace c1 := Lib.hid c1
  clear hb
  go_enter Tryz.func127, Tryz.ntmps127
  go_wp2_with fail
  refine c1.out.mono ?_
  rintro e w1 ⟨rfl, rfl⟩
  go_wp2
  go_ret2
  exact ⟨_, _, hq.out, rfl, Below.refl _ _⟩
 ·rw [hb] at c1
  replace c1 := Lib.hid c1
  by_cases hodd : c.size % 2 = 1
  ·have hq : ExtQ c ⟨#[]⟩ 4 := ⟨fun h => (by rw [hb] at h; cases h), fun _ => ⟨fun _ => ⟨rfl, rfl⟩, fun h => by omega⟩⟩
   replace hq := Lib.hid hq
   have q1 : (c.size : Int) % 2 = 1 := by omega
   clear hb
   go_enter Tryz.func127, Tryz.ntmps127
   go_wp2_with fail
   refine c1.out.mono ?_
   rintro e w1 ⟨rfl, rfl⟩
   go_wp2
   go_ret2
   exact ⟨_, _, hq.out, rfl, Below.refl _ _⟩
  ·have q1 : (c.size : Int) % 2 = 0 := by omega
   have q1' : c.size % 2 = 0 := by omega
   by_cases hsh : c.size < 4
   ·have hq : ExtQ c ⟨#[]⟩ 4 := ⟨fun h => (by rw [hb] at h; cases h), fun _ => ⟨fun _ => ⟨rfl, rfl⟩, fun h => by omega⟩⟩
    replace hq := Lib.hid hq
    have d1 : decide (c.size < 4) = true := decide_eq_true hsh
    have d2 : decide ((c.size : Int) < 4) = true := decide_eq_true (by omega)
    clear hb hodd hsh
    go_enter Tryz.func127, Tryz.ntmps127
    go_wp2_with fail
    refine c1.out.mono ?_
    rintro e w1 ⟨rfl, rfl⟩
    go_wp2
    go_ret2
    exact ⟨_, _, hq.out, rfl, Below.refl _ _⟩
   ·obtain ⟨n, hn⟩ : ∃ n, c.size = 2 * n + 4 := ⟨(c.size - 4) / 2, by omega⟩
    have d1 : decide (c.size < 4) = false := decide_eq_false hsh
    have d2 : decide ((c.size : Int) < 4) = false := decide_eq_false (by omega)
    have c2 := Lib.hid (candidate_own c n w hn (by omega))
    have hyes : ∀ p : List Bool, p.length = n → c = sb (enc p) → ExtQ c (sb p) 0 := fun p hp he => ⟨fun h => (by rw [hb] at h; cases h), fun _ => ⟨fun h => by omega, fun _ => ⟨fun l hl => by
     have := hl.only (l := l) ⟨by omega, he⟩
     rw [this]
     exact ⟨rfl, rfl⟩, fun h => absurd (⟨by omega, he⟩ : CodeOf c p) (h p)⟩⟩⟩
    have hno : ∀ p : List Bool, p.length = n → Reads c p → ¬ c = sb (enc p) → ExtQ c ⟨#[]⟩ 11 := fun p hp hr he => ⟨fun h => (by rw [hb] at h; cases h), fun _ => ⟨fun h => by omega, fun _ => ⟨fun l hl => by
     have hll : l.length = n := by
      have := congrArg ByteArray.size hl.eq
      rw [sb_size, enc_len] at this
      omega
     have := hr.whole hl.eq (by omega)
     rw [this] at he
     exact absurd hl.eq he, fun _ => ⟨rfl, rfl⟩⟩⟩⟩
    have hn6 : n ≤ 65536 := by omega
    replace hyes := Lib.hid hyes
    replace hno := Lib.hid hno
    replace hn := Lib.hid hn
    clear hb hodd hsh hc
    go_enter Tryz.func127, Tryz.ntmps127
    go_wp2_with fail
    refine c1.out.mono ?_
    rintro e w1 ⟨rfl, rfl⟩
    go_wp2_with fail
    refine c2.out.mono ?_
    rintro e w1 ⟨p, hp, hr, rfl, hb⟩
    have c3 := Lib.hid ((encode_own (sb p) w1 (by rw [sb_size]; omega)).mono fun e w' h => h.good (by omega))
    have hy := hyes.out p hp
    have hnn := hno.out p hp hr
    obtain ⟨Z, hZ⟩ : ∃ Z, sb (enc p) = Z := ⟨_, rfl⟩
    obtain ⟨P, hP⟩ : ∃ P, sb p = P := ⟨_, rfl⟩
    rw [hZ, hP] at c3 hy
    rw [hZ] at hnn
    rw [hP]
    clear hZ hP hr c1 c2
    by_cases hcz : Z = c
    ·have hq := Lib.hid (hy hcz.symm)
     have d3 := str_beq_yes hcz
     clear hy hnn hcz
     go_wp2_with fail
     refine c3.out.mono ?_
     rintro e w2 ⟨rfl, hb2⟩
     go_wp2
     go_ret2
     exact ⟨_, _, hq.out, rfl, chain hb hb2⟩
    ·have hq := Lib.hid (hnn fun e => hcz e.symm)
     have d3 := str_beq_no hcz
     clear hy hnn hcz
     go_wp2_with fail
     refine c3.out.mono ?_
     rintro e w2 ⟨rfl, hb2⟩
     go_wp2
     go_ret2
     exact ⟨_, _, hq.out, rfl, chain hb hb2⟩
end C9
end Go.Proofs.YtiodkllckcpinaaGreatDoor
