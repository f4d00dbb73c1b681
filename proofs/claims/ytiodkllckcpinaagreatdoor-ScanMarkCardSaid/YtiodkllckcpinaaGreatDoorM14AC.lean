/- Facts and contracts that the walks of this layer use, merged: C1Math, C1Num, C1OwnFrom, C1OwnCheck, C1OwnUnr, C1OwnTo, C1Back, C1OwnDist, C1RefCheck, C1RefTo, C1RefUnr. -/
import Derived.Calls
import Derived.Test.YtiodkllckcpinaaGreatDoorRows
import Derived.Test.YtiodkllckcpinaaGreatDoorM14AA
import Derived.WalkKit
import Derived.BigQuiet
import Derived.Deep.QuietTactic
import Derived.WalkSpells
import Derived.WalkLawsBesides
import Derived.Lib.Hide
import Derived.Laws.BitsAllLaws
import Derived.Lib.Strings
set_option linter.unusedVariables false
set_option linter.unusedSimpArgs false
set_option maxRecDepth 100000
namespace Go.Proofs.YtiodkllckcpinaaGreatDoor
namespace C1

def okB (b : UInt8) : Bool := b == 48 || b == 49 || b == 63
def chk (l : List UInt8) : Int := if l.all okB = true then 0 else 3
def unr (l : List UInt8) : Nat := (l.filter (· == 63)).length
theorem take_snoc (s : ByteArray) (k : Nat) (h : k < s.size) : s.data.toList.take (k + 1) = s.data.toList.take k ++ [s[k]] := by
 rw [List.take_succ_eq_append_getElem (by simpa using h)]; rfl
theorem take_all (s : ByteArray) : s.data.toList.take s.size = s.data.toList := List.take_of_length_le (by simp)
theorem getl (s : ByteArray) (k : Nat) (h : k < s.size) : s.data.toList[k]'(by simpa using h) = s[k] := rfl

theorem okB_of (c : UInt8) : okB c = (decide ((c.toNat : Int) = 48) || decide ((c.toNat : Int) = 49) || decide ((c.toNat : Int) = 63)) := by
 have h : ∀ n : UInt8, (c == n) = decide ((c.toNat : Int) = (n.toNat : Int)) := by
  intro n
  rw [Bool.eq_iff_iff]
  simp [← UInt8.toNat_inj]
  omega
 unfold okB
 rw [h, h, h]
 rfl

theorem okB_iff (c : UInt8) : okB c = true ↔ ((c.toNat : Int) == 48) = true ∨ ((c.toNat : Int) == 49) = true ∨ ((c.toNat : Int) == 63) = true := by
 rw [okB_of]
 simp [or_assoc]
theorem okB_yes1 {c : UInt8} (h : ((c.toNat : Int) == 48) = true) : okB c = true := (okB_iff c).2 (.inl h)
theorem okB_yes2 {c : UInt8} (h : ((c.toNat : Int) == 49) = true) : okB c = true := (okB_iff c).2 (.inr (.inl h))
theorem okB_yes3 {c : UInt8} (h : ((c.toNat : Int) == 63) = true) : okB c = true := (okB_iff c).2 (.inr (.inr h))
theorem okB_no {c : UInt8} (h1 : ((c.toNat : Int) == 48) = false) (h2 : ((c.toNat : Int) == 49) = false) (h3 : ((c.toNat : Int) == 63) = false) : okB c = false := by
 rcases hc : okB c with _ | _
 ·rfl
 ·rcases (okB_iff c).1 hc with h | h | h
  ·rw [h1] at h; cases h
  ·rw [h2] at h; cases h
  ·rw [h3] at h; cases h
theorem ne_of_eq {c : Int} {n : Int} (h : (c == n) = true) : (c != n) = false := by simp [bne, h]
theorem ne_of_no {c : Int} {n : Int} (h : (c == n) = false) : (c != n) = true := by simp [bne, h]
theorem ret_int {k : IntKind} {a b : Int} (h : a = b) : Ending.returned (.int k a) = .returned (.int k b) := by rw [h]

theorem chk_bad (s : ByteArray) (k : Nat) (h : k < s.size) (hb : okB s[k] = false) : chk s.data.toList = 3 := by
 unfold chk
 rw [if_neg]
 intro ha
 have := List.all_eq_true.mp ha s[k] (by rw [← getl s k h]; exact List.getElem_mem _)
 rw [hb] at this
 cases this
theorem all_snoc (s : ByteArray) (k : Nat) (h : k < s.size) (ha : (s.data.toList.take k).all okB = true) (hb : okB s[k] = true) : (s.data.toList.take (k + 1)).all okB = true := by
 rw [take_snoc s k h]
 simp [ha, hb]
theorem chk_good (s : ByteArray) (ha : (s.data.toList.take s.size).all okB = true) : chk s.data.toList = 0 := by
 rw [take_all] at ha
 unfold chk
 rw [if_pos ha]

theorem is63 (c : UInt8) : (c == 63) = ((c.toNat : Int) == 63) := by
 rw [Bool.eq_iff_iff]
 simp [← UInt8.toNat_inj]
 omega
theorem unr_snoc_yes (s : ByteArray) (k : Nat) (h : k < s.size) (hb : (((s[k]).toNat : Int) == 63) = true) : unr (s.data.toList.take (k + 1)) = unr (s.data.toList.take k) + 1 := by
 rw [take_snoc s k h]
 unfold unr
 rw [List.filter_append]
 simp [is63, hb]
theorem unr_snoc_no (s : ByteArray) (k : Nat) (h : k < s.size) (hb : (((s[k]).toNat : Int) == 63) = false) : unr (s.data.toList.take (k + 1)) = unr (s.data.toList.take k) := by
 rw [take_snoc s k h]
 unfold unr
 rw [List.filter_append]
 simp [is63, hb]
theorem unr_le (l : List UInt8) : unr l ≤ l.length := List.length_filter_le _ _

end C1
namespace C1

theorem i49 (c : UInt8) (h : ((c.toNat : Int) == 49) = true) : c = 49 := by
 apply UInt8.toNat_inj.1
 have : ((c.toNat : Int)) = 49 := by simpa using h
 show c.toNat = 49
 omega
theorem n49 (c : UInt8) (h : ((c.toNat : Int) == 49) = false) : c ≠ 49 := by
 rintro rfl
 simp at h

theorem chk_cases (l : List UInt8) : chk l = 0 ∨ chk l = 3 := by
 unfold chk
 split
 ·exact .inl rfl
 ·exact .inr rfl
end C1
namespace C1
open Go.RowKit Mem

theorem info_byteF : (Tryz.prog.info? 5).map (fun i => (i.zero, i.size, i.bytes)) = some (some (.int .u8 0), 1, 1) := by kernel_rfl
def cellAt (c : UInt8) (j : Nat) : UInt8 := UInt8.ofNat (48 + c.toNat / 2 ^ (7 - j) % 2)
def bits8 (c : UInt8) : List UInt8 := [cellAt c 0, cellAt c 1, cellAt c 2, cellAt c 3, cellAt c 4, cellAt c 5, cellAt c 6, cellAt c 7]
def fromB (l : List UInt8) : List UInt8 := l.flatMap bits8
theorem bits8_len (c : UInt8) : (bits8 c).length = 8 := rfl
theorem fromB_len (l : List UInt8) : (fromB l).length = 8 * l.length := by
 induction l with
 | nil => rfl
 | cons a l ih => simp only [fromB, List.flatMap_cons, List.length_append, List.length_cons, bits8_len] at ih ⊢; omega
theorem fromB_snoc (s : ByteArray) (k : Nat) (h : k < s.size) : fromB (s.data.toList.take (k + 1)) = fromB (s.data.toList.take k) ++ bits8 s[k] := by
 rw [take_snoc s k h]
 simp [fromB]
theorem bits8_get (c : UInt8) (j : Nat) (h : j < 8) : (bits8 c).take (j + 1) = (bits8 c).take j ++ [cellAt c j] := by
 match j, h with
 | 0, _ => rfl
 | 1, _ => rfl
 | 2, _ => rfl
 | 3, _ => rfl
 | 4, _ => rfl
 | 5, _ => rfl
 | 6, _ => rfl
 | 7, _ => rfl

theorem cellAt_nat (c : UInt8) (j : Nat) : (cellAt c j).toNat = 48 + c.toNat / 2 ^ (7 - j) % 2 := by
 unfold cellAt
 rw [UInt8.toNat_ofNat']
 omega
theorem cell_num (c : UInt8) (j : Nat) : ((48 + bits .and .u8 ((c.toNat : Int) / 2 ^ (7 - j)) 1) % 256 : Int) = ((cellAt c j).toNat : Int) := by
 have h0 : c.toNat < 256 := c.toNat_lt
 have h1 : c.toNat / 2 ^ (7 - j) < 256 := Nat.lt_of_le_of_lt (Nat.div_le_self _ _) h0
 have e : ((c.toNat : Int) / 2 ^ (7 - j)) = ((c.toNat / 2 ^ (7 - j) : Nat) : Int) := by simp
 rw [e, show (1 : Int) = ((1 : Nat) : Int) from rfl, u8_and_nat _ _ h1 (by decide), Nat.and_one_is_mod, cellAt_nat]
 omega
theorem cell_ref (c : UInt8) (j P : Nat) (hP : P = 128 / 2 ^ j) (hj : j < 8) : c.toNat / P % 2 = c.toNat / 2 ^ (7 - j) % 2 := by
 have : 128 / 2 ^ j = 2 ^ (7 - j) := by
  match j, hj with
  | 0, _ => rfl
  | 1, _ => rfl
  | 2, _ => rfl
  | 3, _ => rfl
  | 4, _ => rfl
  | 5, _ => rfl
  | 6, _ => rfl
  | 7, _ => rfl
 rw [hP, this]

set_option maxHeartbeats 1000000 in
theorem fromBytes_any (s : ByteArray) (w : World) (hs : s.size ≤ 100000) :
  Calls Tryz.prog 38 #[.string s] w fun e w' => e = .returned (.string ⟨(fromB s.data.toList).toArray⟩) ∧ Below w.heap.size w w' := by
 obtain ⟨i0, hi, hz0, hz1, hz2⟩ := info_parts info_byteF
 go_enter Tryz.func38, Tryz.ntmps38
 go_wp2_with (at_make; refine wpList_make_own _ rfl _ _ 53 rfl w.heap.size 5 i0 (.int .u8 0) 1 Tryz.underlying53 hi hz0 hz1 _ _ _ (s.size * 8) rfl rfl (by omega) ?b2 ?b3 (Nat.le_refl _) ?_)
 case b2 => rw [hz2]; omega
 case b3 => unfold maxLen; omega
 intro w0 hown0 hgrow0
 go_wp2
 go_loopw [3, 12] (fun v i wr => ∃ k : Nat, k ≤ s.size ∧ i = .int .i64 k ∧ wr.ownsRow w.heap.size 5 1 v (8 * k) (bys (fromB (s.data.toList.take k))) ∧ Below w.heap.size w wr) (fun _ i _ => s.size - (intOf i).toNat)
 case atStart => exact ⟨0, Nat.zero_le _, rfl, hown0, (Below.refl _ _).grown hgrow0 (Nat.le_refl _) (fun k h => by cases h)⟩
 case round =>
  obtain ⟨k, hk, rfl, hown, hb⟩ := hrel
  by_cases hlt : k < s.size
  ·go_wp2
   obtain ⟨wo, hwo⟩ : ∃ wo : World, wo = wr := ⟨_, rfl⟩
   subst hwo
   go_loopw [3, 15] (fun v i wr => ∃ j : Nat, j ≤ 8 ∧ i = .int .i64 j ∧ wr.ownsRow w.heap.size 5 1 v (8 * k + j) (bys (fromB (s.data.toList.take k) ++ (bits8 s[k]).take j)) ∧ Below w.heap.size w wr) (fun _ i _ => 8 - (intOf i).toNat)
   case atStart => exact ⟨0, by omega, rfl, by simpa using hown, hb⟩
   case round =>
    obtain ⟨j, hj, rfl, hown1, hb1⟩ := hrel
    clear hown hb
    by_cases hlt1 : j < 8
    ·have hv := cell_num s[k] j
     have hl1 : (bys (fromB (s.data.toList.take k) ++ (bits8 s[k]).take j)) ++ [.int .u8 ((cellAt s[k] j).toNat : Int)] = bys (fromB (s.data.toList.take k) ++ (bits8 s[k]).take (j + 1)) := by
      rw [← bys_snoc, bits8_get _ _ hlt1, List.append_assoc]
     have hlh := Lib.hid hl1
     clear hl1
     go_wp2_with (at_builtin; refine wpList_append_own _ rfl _ _ 53 rfl w.heap.size 5 i0 (.int .u8 0) 1 1 Tryz.underlying53 hi hz0 hz1 hz2 rfl (by decide) _ _ _ rfl (hown1.alloc _) ⟨wr.heap.size, 0, none⟩ 1 1 [.int .u8 ((cellAt s[k] j).toNat : Int)] rfl rfl (one_new _ _ _) (one_cell _ _) ?c3 ?c4 ?c5 ?_)
     case c3 => unfold maxLen; omega
     case c4 => omega
     case c5 => have := hb1.size; simp; omega
     intro v' w1 hown' hgrow _
     rw [hlh.out] at hown'
     have hb' : Below w.heap.size w w1 := (hb1.alloc hb1.size _).grown hgrow (by have := hb1.size; simp; omega) (fun j hj => (hown1.lt j hj).1)
     clear hown1 hb1 hgrow hv hlh
     go_wp2
     go_roundw
     case rel => exact ⟨j + 1, by omega, by go_num, hown', hb'⟩
     case measure => simp [intOf]; omega
    ·obtain rfl : j = 8 := by omega
     rw [show (bits8 s[k]).take 8 = bits8 s[k] from rfl, ← fromB_snoc s k hlt] at hown1
     go_wp2
     go_roundw
     case rel => exact ⟨k + 1, by omega, by go_num, by rw [show 8 * (k + 1) = 8 * k + 8 by omega]; exact hown1, hb1⟩
     case measure => simp [intOf]; omega
  ·have hconv := conv_own (dst := 9) Tryz.underlying53 Tryz.underlying5 Tryz.underlying9 hown
   rw [show s.data.toList.take k = s.data.toList by rw [show k = s.size by omega, take_all]] at hconv
   go_wp2
   go_ret
   exact ⟨rfl, hb⟩

end C1
namespace C1
open Go.RowKit

set_option maxHeartbeats 400000 in
theorem check_wide (s : ByteArray) (w : World) (hs : s.size ≤ 140737488351232) :
  Calls Tryz.prog 124 #[.string s] w fun e w' => e = .returned (.int .i64 (chk s.data.toList)) ∧ w = w' := by
 go_enter Tryz.func124, Tryz.ntmps124
 go_wp2
 go_loop [6] (fun i => ∃ k : Nat, k ≤ s.size ∧ i = .int .i64 k ∧ (s.data.toList.take k).all okB = true) (fun i => s.size - (intOf i).toNat)
 case atStart => exact ⟨0, Nat.zero_le _, rfl, rfl⟩
 case round =>
  obtain ⟨k, hk, rfl, hall⟩ := hrel
  by_cases hlt : k < s.size
  ·go_wp2
   all_goals first
    |(go_round
      case rel => exact ⟨k + 1, by omega, by go_num, all_snoc s k hlt hall (by first | exact okB_yes1 (by assumption) | exact okB_yes2 (by assumption) | exact okB_yes3 (by assumption))⟩
      case measure => simp [intOf]; omega)
    |(go_ret
      exact ⟨ret_int (chk_bad s k hlt (okB_no (by assumption) (by assumption) (by assumption))).symm, rfl⟩)
  ·go_wp2
   go_ret
   exact ⟨ret_int (chk_good s (by rw [show s.size = k by omega]; exact hall)).symm, rfl⟩

theorem check_any (s : ByteArray) (w : World) (hs : s.size ≤ 1000000) :
  Calls Tryz.prog 124 #[.string s] w fun e w' => e = .returned (.int .i64 (chk s.data.toList)) ∧ w = w' := check_wide s w (by omega)
end C1
namespace C1
open Go.RowKit

set_option maxHeartbeats 400000 in
theorem unreadable_any (s : ByteArray) (w : World) (hs : s.size ≤ 1000000) :
  Calls Tryz.prog 78 #[.string s] w fun e w' => e = .returned (.int .i64 (unr s.data.toList)) ∧ w = w' := by
 go_enter Tryz.func78, Tryz.ntmps78
 go_wp2
 go_loop [3, 7] (fun n i => ∃ k : Nat, k ≤ s.size ∧ i = .int .i64 k ∧ n = .int .i64 (unr (s.data.toList.take k))) (fun _ i => s.size - (intOf i).toNat)
 case atStart => exact ⟨0, Nat.zero_le _, rfl, rfl⟩
 case round =>
  obtain ⟨k, hk, rfl, rfl⟩ := hrel
  have hu := unr_le (s.data.toList.take k)
  have hl : (s.data.toList.take k).length ≤ k := List.length_take_le _ _
  by_cases hlt : k < s.size
  ·go_wp2
   all_goals
    go_round
    case rel => exact ⟨k + 1, by omega, by go_num, by first | (rw [unr_snoc_yes s k hlt (by assumption)]; go_num) | rw [unr_snoc_no s k hlt (by assumption)]⟩
    case measure => simp [intOf]; omega
  ·go_wp2
   go_ret
   exact ⟨ret_int (by rw [show k = s.size by omega, take_all]), rfl⟩

end C1
namespace C1
open Go.RowKit Mem

theorem info_byteT : (Tryz.prog.info? 5).map (fun i => (i.zero, i.size, i.bytes)) = some (some (.int .u8 0), 1, 1) := by kernel_rfl
def num (l : List UInt8) : Nat := l.foldl (fun n c => n * 2 + (if c = 49 then 1 else 0)) 0
theorem num_snoc (l : List UInt8) (c : UInt8) : num (l ++ [c]) = num l * 2 + (if c = 49 then 1 else 0) := by simp [num]
theorem num_lt (l : List UInt8) : num l < 2 ^ l.length := by
 suffices h : ∀ m : List UInt8, num m.reverse < 2 ^ m.length by simpa using h l.reverse
 intro m
 induction m with
 | nil => decide
 | cons c m ih =>
  rw [List.reverse_cons, num_snoc, List.length_cons, Nat.pow_succ]
  split <;> omega
theorem num_take_lt (s : ByteArray) (k : Nat) : num (s.data.toList.take k) < 2 ^ k := by
 refine Nat.lt_of_lt_of_le (num_lt _) (Nat.pow_le_pow_right (by decide) (List.length_take_le _ _))

theorem num_yes (s : ByteArray) (k : Nat) (h : k < s.size) (hc : (((s[k]).toNat : Int) == 49) = true) : num (s.data.toList.take (k + 1)) = num (s.data.toList.take k) * 2 + 1 := by
 rw [take_snoc s k h, num_snoc, if_pos (i49 _ hc)]
theorem num_no (s : ByteArray) (k : Nat) (h : k < s.size) (hc : (((s[k]).toNat : Int) == 49) = false) : num (s.data.toList.take (k + 1)) = num (s.data.toList.take k) * 2 := by
 rw [take_snoc s k h, num_snoc, if_neg (n49 _ hc)]
 rfl
theorem or_one (n : Nat) (h : n < 128) : bits .or .u8 ((n : Int) * 2) 1 = (n : Int) * 2 + 1 := by
 rw [show (n : Int) * 2 = ((n * 2 : Nat) : Int) by simp, show (1 : Int) = ((1 : Nat) : Int) from rfl, u8_or_nat _ _ (by omega) (by decide), nat_join 1 _ _ (by omega) (by decide)]
 rfl

def grp (l : List UInt8) (i : Nat) : List UInt8 := (l.drop (8 * i)).take 8
def toB (l : List UInt8) (n : Nat) : List UInt8 := (List.range n).map fun i => UInt8.ofNat (num (grp l i))
def bad (l : List UInt8) (n : Nat) : List Nat := (List.range n).filter fun i => decide (0 < unr (grp l i))
theorem toB_snoc (l : List UInt8) (n : Nat) : toB l (n + 1) = toB l n ++ [UInt8.ofNat (num (grp l n))] := by simp [toB, List.range_succ]
theorem toB_len (l : List UInt8) (n : Nat) : (toB l n).length = n := by simp [toB]
theorem bad_yes (l : List UInt8) (n : Nat) (h : 0 < unr (grp l n)) : bad l (n + 1) = bad l n ++ [n] := by simp [bad, List.range_succ, h]
theorem bad_no (l : List UInt8) (n : Nat) (h : ¬ 0 < unr (grp l n)) : bad l (n + 1) = bad l n := by
 have h' : unr (grp l n) = 0 := by omega
 simp [bad, List.range_succ, h']
theorem bad_le (l : List UInt8) (n : Nat) : (bad l n).length ≤ n := Nat.le_trans (List.length_filter_le _ _) (by simp)
theorem grp_num (l : List UInt8) (i : Nat) : num (grp l i) < 256 := by
 refine Nat.lt_of_lt_of_le (num_lt _) ?_
 have : 2 ^ (grp l i).length ≤ 2 ^ 8 := Nat.pow_le_pow_right (by decide) (List.length_take_le _ _)
 omega
theorem grp_byte (l : List UInt8) (i : Nat) : ((UInt8.ofNat (num (grp l i))).toNat : Int) = (num (grp l i) : Int) := by
 have := grp_num l i
 rw [UInt8.toNat_ofNat']
 omega

theorem toB_cells (l : List UInt8) (k : Nat) : bys (toB l k) ++ [.int .u8 (num (grp l k) : Int)] = bys (toB l (k + 1)) := by
 rw [toB_snoc, bys_snoc, grp_byte]
theorem bad_cells (l : List UInt8) (k : Nat) (h : 0 < unr (grp l k)) : nats (bad l k) ++ [.int .i64 (k : Int)] = nats (bad l (k + 1)) := by
 rw [bad_yes l k h, nats_snoc]
theorem bad_yes_len (l : List UInt8) (k : Nat) (h : 0 < unr (grp l k)) : (bad l (k + 1)).length = (bad l k).length + 1 := by
 rw [bad_yes l k h]; simp
theorem ext_grp (s : ByteArray) (k : Nat) : (s.extract (k * 8) ((k + 1) * 8)).data.toList = grp s.data.toList k := by
 rw [Lib.extract_data]
 simp only [grp]
 rw [show (k + 1) * 8 - k * 8 = 8 by omega, show k * 8 = 8 * k by omega]
theorem ext_size (s : ByteArray) (k : Nat) (h : 8 * k + 8 ≤ s.size) : (s.extract (k * 8) ((k + 1) * 8)).size = 8 := by
 simp; omega

def tbE (l : List UInt8) : Int := if chk l = 0 then (if l.length % 8 = 0 then 0 else 4) else 3
def tbS (l : List UInt8) : List UInt8 := if tbE l = 0 then toB l (l.length / 8) else []
def tbL (l : List UInt8) : List Nat := if tbE l = 0 then bad l (l.length / 8) else []
theorem tbE_ok {l : List UInt8} (h : chk l = 0) (h8 : l.length % 8 = 0) : tbE l = 0 := by unfold tbE; rw [if_pos h, if_pos h8]
theorem tbE_short {l : List UInt8} (h : chk l = 0) (h8 : l.length % 8 ≠ 0) : tbE l = 4 := by unfold tbE; rw [if_pos h, if_neg h8]
theorem tbE_syn {l : List UInt8} (h : chk l = 3) : tbE l = 3 := by unfold tbE; rw [if_neg (by omega)]
theorem tbS_ok {l : List UInt8} (h : tbE l = 0) : tbS l = toB l (l.length / 8) := by unfold tbS; rw [if_pos h]
theorem tbL_ok {l : List UInt8} (h : tbE l = 0) : tbL l = bad l (l.length / 8) := by unfold tbL; rw [if_pos h]
theorem tbS_no {l : List UInt8} (h : tbE l ≠ 0) : tbS l = [] := by unfold tbS; rw [if_neg h]
theorem tbL_no {l : List UInt8} (h : tbE l ≠ 0) : tbL l = [] := by unfold tbL; rw [if_neg h]

def TbPost (l : List UInt8) (w : World) (e : Ending) (w' : World) : Prop :=
 ∃ v : Value, e = .returned (.tuple #[.string ⟨(tbS l).toArray⟩, v, .int .i64 (tbE l)]) ∧ w'.ownsRow w.heap.size 3 1 v (tbL l).length (nats (tbL l)) ∧ Below w.heap.size w w'
theorem tbPost_no {l : List UInt8} {w : World} {e : Int} (h : tbE l = e) (h0 : e ≠ 0) : TbPost l w (.returned (.tuple #[.string ⟨#[]⟩, .slice none 0 0, .int .i64 e])) w := by
 refine ⟨.slice none 0 0, ?_, ?_, Below.refl _ _⟩
 ·rw [tbS_no (by omega), h]
 ·rw [tbL_no (by omega)]
  exact World.ownsRow_nil _ _ _ _
theorem tbPost_ok {l : List UInt8} {w w' : World} {v : Value} {n : Nat} (h : tbE l = 0) (hn : l.length / 8 = n) (hown : w'.ownsRow w.heap.size 3 1 v (bad l n).length (nats (bad l n))) (hb : Below w.heap.size w w') :
  TbPost l w (.returned (.tuple #[.string ⟨(toB l n).toArray⟩, v, .int .i64 0])) w' := by
 subst hn
 refine ⟨v, ?_, ?_, hb⟩
 ·rw [tbS_ok h, h]
 ·rw [tbL_ok h]
  exact hown

set_option maxHeartbeats 1000000 in
theorem byteOf_any (s : ByteArray) (w : World) (hs : s.size ≤ 8) :
  Calls Tryz.prog 129 #[.string s] w fun e w' => e = .returned (.int .u8 (num s.data.toList)) ∧ w = w' := by
 go_enter Tryz.func129, Tryz.ntmps129
 go_wp2
 go_loop [3, 7] (fun b i => ∃ k : Nat, k ≤ s.size ∧ i = .int .i64 k ∧ b = .int .u8 (num (s.data.toList.take k))) (fun _ i => s.size - (intOf i).toNat)
 case atStart => exact ⟨0, Nat.zero_le _, rfl, rfl⟩
 case round =>
  obtain ⟨k, hk, rfl, rfl⟩ := hrel
  by_cases hlt : k < s.size
  ·have hn := num_take_lt s k
   have hp : 2 ^ k ≤ 2 ^ 7 := Nat.pow_le_pow_right (by decide) (by omega)
   have hn128 : num (s.data.toList.take k) < 128 := by omega
   have hor := or_one _ hn128
   rcases hc : (((s[k]).toNat : Int) == 49) with _ | _
   ·have hnext := Lib.hid (num_no s k hlt hc)
    clear hp hn hor
    go_wp2
    go_round
    case rel => exact ⟨k + 1, by omega, by go_num, by rw [hnext.out]; go_num⟩
    case measure => simp [intOf]; omega
   ·have hnext := Lib.hid (num_yes s k hlt hc)
    clear hp hn
    go_wp2
    go_round
    case rel => exact ⟨k + 1, by omega, by go_num, by rw [hnext.out]; go_num⟩
    case measure => simp [intOf]; omega
  ·go_wp2
   go_ret
   exact ⟨ret_int (by rw [show k = s.size by omega, take_all]), rfl⟩

theorem info_int : (Tryz.prog.info? 3).map (fun i => (i.zero, i.size, i.bytes)) = some (some (.int .i64 0), 1, 8) := by kernel_rfl

set_option maxHeartbeats 2000000 in
theorem toBytes_any (s : ByteArray) (w : World) (hs : s.size ≤ 100000) :
  Calls Tryz.prog 83 #[.string s] w (TbPost s.data.toList w) := by
 rcases chk_cases s.data.toList with hc | hc
 ·by_cases h8 : s.size % 8 = 0
  ·have hE := Lib.hid (tbE_ok hc h8)
   obtain ⟨n, hn⟩ : ∃ n, s.size = 8 * n := ⟨s.size / 8, by omega⟩
   have hn8 : s.data.toList.length / 8 = n := by simp; omega
   have hn8h := Lib.hid hn8
   have hq : ((s.size : Nat) : Int) % 8 = 0 := by omega
   have hd : ((s.size : Nat) : Int) / 8 = (n : Int) := by omega
   have hnn : n ≤ 12500 := by omega
   have hnh := Lib.hid hn
   clear hn hn8 h8
   obtain ⟨i0, hi, hz0, hz1, hz2⟩ := info_parts info_byteT
   obtain ⟨j0, hj, hy0, hy1, hy2⟩ := info_parts info_int
   go_enter Tryz.func83, Tryz.ntmps83
   go_wp2_with (first
    |(go_at_call 124; refine (check_any _ _ (by omega)).mono ?_; rintro e w' ⟨rfl, rfl⟩)
    |(at_make; refine wpList_make_own _ rfl _ _ 53 rfl w.heap.size 5 i0 (.int .u8 0) 1 Tryz.underlying53 hi hz0 hz1 _ _ _ n rfl rfl (by omega) ?b2 ?b3 (Nat.le_refl _) ?_))
   case b2 => rw [hz2]; omega
   case b3 => unfold maxLen; omega
   intro w0 hown0 hgrow0
   go_wp2
   clear hc hq
   go_loopw [6, 7, 26] (fun b v i wr => ∃ k : Nat, k ≤ n ∧ i = .int .i64 k ∧ wr.ownsRow w.heap.size 5 1 b k (bys (toB s.data.toList k)) ∧
    wr.ownsRow w.heap.size 3 1 v (bad s.data.toList k).length (nats (bad s.data.toList k)) ∧ Below w.heap.size w wr) (fun _ _ i _ => n - (intOf i).toNat)
   case atStart => exact ⟨0, Nat.zero_le _, rfl, hown0, World.ownsRow_nil _ _ _ _, (Below.refl _ _).grown hgrow0 (Nat.le_refl _) (fun k h => by cases h)⟩
   case round =>
    obtain ⟨k, hk, rfl, hob, hov, hb⟩ := hrel
    by_cases hlt : k < n
    ·obtain ⟨g, hg⟩ : ∃ g, s.extract (k * 8) ((k + 1) * 8) = g := ⟨_, rfl⟩
     have hgs : g.size = 8 := by rw [← hg]; exact ext_size s k (by have := hnh.out; omega)
     have hgl : g.data.toList = grp s.data.toList k := by rw [← hg]; exact ext_grp s k
     have hB := Lib.hid (fun W => byteOf_any g W (by omega))
     have hU := Lib.hid (fun W => unreadable_any g W (by omega))
     rw [hgl] at hB hU
     have hul := unr_le (grp s.data.toList k)
     have hul2 : (grp s.data.toList k).length ≤ 8 := List.length_take_le _ _
     have hbl := bad_le s.data.toList k
     have hgsh := Lib.hid hgs
     have hglh := Lib.hid hgl
     clear hgs hgl
     by_cases hu : 0 < unr (grp s.data.toList k)
     ·have huI : (0 : Int) < (unr (grp s.data.toList k) : Int) := by omega
      have hbc := Lib.hid (bad_cells s.data.toList k hu)
      have hbn := Lib.hid (bad_yes_len s.data.toList k hu)
      have htc := Lib.hid (toB_cells s.data.toList k)
      go_wp2_with (first
       |(go_at_call 129; refine (hB.out _).mono ?_; rintro e w' ⟨rfl, rfl⟩)
       |(at_builtin; refine wpList_append_own _ rfl _ _ 53 rfl w.heap.size 5 i0 (.int .u8 0) 1 1 Tryz.underlying53 hi hz0 hz1 hz2 rfl (by decide) _ _ _ rfl (hob.alloc _) ⟨wr.heap.size, 0, none⟩ 1 1 [.int .u8 (num (grp s.data.toList k) : Int)] rfl rfl (one_new _ _ _) (one_cell _ _) ?c3 ?c4 ?c5 ?_))
      case c3 => unfold maxLen; omega
      case c4 => omega
      case c5 => have := hb.size; simp; omega
      intro b' w1 hob' hgrow _
      rw [htc.out] at hob'
      have hov' := (hov.alloc _).kept hgrow (own_apart hov hob (by decide))
      have hb' : Below w.heap.size w w1 := (hb.alloc hb.size _).grown hgrow (by have := hb.size; simp; omega) (fun j hj => (hob.lt j hj).1)
      clear hob hov hb hgrow htc
      go_wp2_with (first
       |(go_at_call 78; refine (hU.out _).mono ?_; rintro e w' ⟨rfl, rfl⟩)
       |(at_builtin; refine wpList_append_own _ rfl _ _ 95 rfl w.heap.size 3 j0 (.int .i64 0) 1 8 Tryz.underlying95 hj hy0 hy1 hy2 rfl (by decide) _ _ _ rfl (hov'.alloc _) ⟨w1.heap.size, 0, none⟩ 1 1 [.int .i64 (k : Int)] rfl rfl (one_new _ _ _) (one_cell _ _) ?d3 ?d4 ?d5 ?_))
      case d3 => unfold maxLen; omega
      case d4 => omega
      case d5 => have := hb'.size; simp; omega
      intro v' w2 hov2 hgrow2 _
      rw [hbc.out] at hov2
      have hob2 := (hob'.alloc _).kept hgrow2 (own_apart hob' hov' (by decide))
      have hb2 : Below w.heap.size w w2 := (hb'.alloc hb'.size _).grown hgrow2 (by have := hb'.size; simp; omega) (fun j hj => (hov'.lt j hj).1)
      clear hob' hov' hb' hgrow2 hbc
      go_wp2
      go_roundw
      case rel => exact ⟨k + 1, by omega, by go_num, hob2, by rw [hbn.out]; exact hov2, hb2⟩
      case measure => simp [intOf]; omega
     ·have huI : ¬ (0 : Int) < (unr (grp s.data.toList k) : Int) := by omega
      have hbn := Lib.hid (bad_no s.data.toList k hu)
      have htc := Lib.hid (toB_cells s.data.toList k)
      go_wp2_with (first
       |(go_at_call 129; refine (hB.out _).mono ?_; rintro e w' ⟨rfl, rfl⟩)
       |(at_builtin; refine wpList_append_own _ rfl _ _ 53 rfl w.heap.size 5 i0 (.int .u8 0) 1 1 Tryz.underlying53 hi hz0 hz1 hz2 rfl (by decide) _ _ _ rfl (hob.alloc _) ⟨wr.heap.size, 0, none⟩ 1 1 [.int .u8 (num (grp s.data.toList k) : Int)] rfl rfl (one_new _ _ _) (one_cell _ _) ?c3 ?c4 ?c5 ?_))
      case c3 => unfold maxLen; omega
      case c4 => omega
      case c5 => have := hb.size; simp; omega
      intro b' w1 hob' hgrow _
      rw [htc.out] at hob'
      have hov' := (hov.alloc _).kept hgrow (own_apart hov hob (by decide))
      have hb' : Below w.heap.size w w1 := (hb.alloc hb.size _).grown hgrow (by have := hb.size; simp; omega) (fun j hj => (hob.lt j hj).1)
      clear hob hov hb hgrow htc
      go_wp2_with (go_at_call 78; refine (hU.out _).mono ?_; rintro e w' ⟨rfl, rfl⟩)
      go_roundw
      case rel => exact ⟨k + 1, by omega, by go_num, hob', by rw [hbn.out]; exact hov', hb'⟩
      case measure => simp [intOf]; omega
    ·have hconv := conv_own (dst := 9) Tryz.underlying53 Tryz.underlying5 Tryz.underlying9 hob
     obtain rfl : k = n := by omega
     go_wp2
     go_ret3
     exact tbPost_ok hE.out hn8h.out hov hb
  ·have hE := Lib.hid (tbE_short hc h8)
   have hq : (((s.size : Nat) : Int) % 8 == 0) = false := by simp; omega
   have hq' := ne_of_no hq
   go_enter Tryz.func83, Tryz.ntmps83
   go_wp2_with (go_at_call 124; refine (check_any _ _ (by omega)).mono ?_; rintro e w' ⟨rfl, rfl⟩)
   go_ret3
   exact tbPost_no hE.out (by decide)
 ·have hE := Lib.hid (tbE_syn hc)
  go_enter Tryz.func83, Tryz.ntmps83
  go_wp2_with (go_at_call 124; refine (check_any _ _ (by omega)).mono ?_; rintro e w' ⟨rfl, rfl⟩)
  go_ret3
  exact tbPost_no hE.out (by decide)
end C1
namespace C1
open Go.RowKit Mem

theorem byte_cases (p : UInt8 → Bool) (h : ∀ n : Fin 256, p (UInt8.ofNat n.val) = true) (c : UInt8) : p c = true := by
 have := h ⟨c.toNat, c.toNat_lt⟩
 simpa using this
theorem num_bits8 (c : UInt8) : num (bits8 c) = c.toNat := by
 have := byte_cases (fun c => num (bits8 c) == c.toNat) (by decide +kernel) c
 simpa using this
theorem ok_bits8 (c : UInt8) : (bits8 c).all okB = true := by
 have := byte_cases (fun c => (bits8 c).all okB) (by decide +kernel) c
 simpa using this
theorem chk_fromB (l : List UInt8) : chk (fromB l) = 0 := by
 have : (fromB l).all okB = true := by
  induction l with
  | nil => rfl
  | cons c l ih => simp only [fromB, List.flatMap_cons, List.all_append] at ih ⊢; rw [ok_bits8, ih]; rfl
 unfold chk
 rw [if_pos this]
theorem grp_fromB (l : List UInt8) : ∀ i (h : i < l.length), grp (fromB l) i = bits8 l[i] := by
 induction l with
 | nil => intro i h; simp at h
 | cons c l ih =>
  intro i h
  have e : fromB (c :: l) = bits8 c ++ fromB l := by simp [fromB]
  cases i with
  | zero =>
   rw [e]
   show ((bits8 c ++ fromB l).drop 0).take 8 = bits8 c
   rw [List.drop_zero, List.take_append_of_le_length (by rw [bits8_len]; exact Nat.le_refl _)]
   rfl
  | succ i =>
   rw [e]
   have hi : i < l.length := by simpa using h
   have := ih i hi
   unfold grp at this ⊢
   rw [show 8 * (i + 1) = (bits8 c).length + 8 * i by rw [bits8_len]; omega, List.drop_append, List.drop_of_length_le (show (bits8 c).length ≤ (bits8 c).length + 8 * i by omega)]
   simpa using this
theorem toB_fromB (l : List UInt8) : toB (fromB l) l.length = l := by
 apply List.ext_getElem
 ·simp [toB]
 ·intro i h1 h2
  simp only [toB, List.getElem_map, List.getElem_range]
  rw [grp_fromB l i h2, num_bits8]
  simp
theorem tbE_fromB (l : List UInt8) : tbE (fromB l) = 0 := tbE_ok (chk_fromB l) (by rw [fromB_len]; omega)
theorem tbS_fromB (l : List UInt8) : tbS (fromB l) = l := by
 rw [tbS_ok (tbE_fromB l), fromB_len, show 8 * l.length / 8 = l.length by omega, toB_fromB]
end C1
namespace C1
open Go.RowKit

def diffB (p : UInt8 × UInt8) : Bool := p.1 != p.2 && (p.1 != 63 && p.2 != 63)
def dis (a b : List UInt8) : Nat := ((a.zip b).filter diffB).length
def disN (a b : List UInt8) : Int := if chk a = 0 ∧ chk b = 0 ∧ a.length = b.length then (dis a b : Int) else 0
def disE (a b : List UInt8) : Int := if chk a = 0 ∧ chk b = 0 then (if a.length = b.length then 0 else 1) else 3

theorem zip_snoc (a b : ByteArray) (k : Nat) (ha : k < a.size) (hb : k < b.size) : (a.data.toList.zip b.data.toList).take (k + 1) = (a.data.toList.zip b.data.toList).take k ++ [(a[k], b[k])] := by
 rw [List.take_succ_eq_append_getElem (by simp [List.length_zip]; omega)]
 simp only [List.getElem_zip]
 rfl
def disTo (a b : ByteArray) (k : Nat) : Nat := (((a.data.toList.zip b.data.toList).take k).filter diffB).length
theorem disTo_le (a b : ByteArray) (k : Nat) : disTo a b k ≤ k := Nat.le_trans (List.length_filter_le _ _) (List.length_take_le _ _)
theorem disTo_zero (a b : ByteArray) : disTo a b 0 = 0 := by simp [disTo]
theorem disTo_all (a b : ByteArray) (h : a.size = b.size) : disTo a b a.size = dis a.data.toList b.data.toList := by
 unfold disTo dis
 rw [List.take_of_length_le (by simp [List.length_zip]; omega)]
theorem u8_ne (x y : UInt8) : (x != y) = ((x.toNat : Int) != (y.toNat : Int)) := by
 rw [Bool.eq_iff_iff]
 simp [← UInt8.toNat_inj]
 omega
theorem disTo_yes (a b : ByteArray) (k : Nat) (ha : k < a.size) (hb : k < b.size) (h1 : (((a[k]).toNat : Int) != ((b[k]).toNat : Int)) = true) (h2 : (((a[k]).toNat : Int) != 63) = true) (h3 : (((b[k]).toNat : Int) != 63) = true) :
  disTo a b (k + 1) = disTo a b k + 1 := by
 unfold disTo
 rw [zip_snoc a b k ha hb, List.filter_append, List.length_append]
 have : diffB (a[k], b[k]) = true := by
  unfold diffB
  rw [u8_ne, u8_ne, u8_ne]
  simp only [h1]
  rw [show (((63 : UInt8)).toNat : Int) = 63 from rfl, h2, h3]
  rfl
 simp [this]
theorem disTo_no (a b : ByteArray) (k : Nat) (ha : k < a.size) (hb : k < b.size) (h : (((a[k]).toNat : Int) != ((b[k]).toNat : Int)) = false ∨ (((a[k]).toNat : Int) != 63) = false ∨ (((b[k]).toNat : Int) != 63) = false) :
  disTo a b (k + 1) = disTo a b k := by
 unfold disTo
 rw [zip_snoc a b k ha hb, List.filter_append, List.length_append]
 have : diffB (a[k], b[k]) = false := by
  unfold diffB
  rw [u8_ne, u8_ne, u8_ne, show (((63 : UInt8)).toNat : Int) = 63 from rfl]
  rcases h with h | h | h <;> simp only [h, Bool.false_and, Bool.and_false]
 simp [this]
theorem disN_yes (a b : ByteArray) (ha : chk a.data.toList = 0) (hb : chk b.data.toList = 0) (h : a.size = b.size) : disN a.data.toList b.data.toList = (disTo a b a.size : Int) := by
 unfold disN
 rw [if_pos ⟨ha, hb, h⟩, disTo_all a b h]
theorem ret_two {x y x' y' : Int} (h : x = x') (h' : y = y') : Ending.returned (.tuple #[.int .i64 x, .int .i64 y]) = .returned (.tuple #[.int .i64 x', .int .i64 y']) := by rw [h, h']

theorem disE_eq {a b : List UInt8} (ha : chk a = 0) (hb : chk b = 0) (h : a.length = b.length) : disE a b = 0 := by unfold disE; rw [if_pos ⟨ha, hb⟩, if_pos h]
theorem disE_arg {a b : List UInt8} (ha : chk a = 0) (hb : chk b = 0) (h : a.length ≠ b.length) : disE a b = 1 := by unfold disE; rw [if_pos ⟨ha, hb⟩, if_neg h]
theorem disN_arg {a b : List UInt8} (h : a.length ≠ b.length) : disN a b = 0 := by unfold disN; rw [if_neg (fun x => h x.2.2)]
theorem disE_syn1 {a b : List UInt8} (ha : chk a = 3) : disE a b = 3 := by unfold disE; rw [if_neg (fun x => by have := x.1; omega)]
theorem disE_syn2 {a b : List UInt8} (hb : chk b = 3) : disE a b = 3 := by unfold disE; rw [if_neg (fun x => by have := x.2; omega)]
theorem disN_syn1 {a b : List UInt8} (ha : chk a = 3) : disN a b = 0 := by unfold disN; rw [if_neg (fun x => by have := x.1; omega)]
theorem disN_syn2 {a b : List UInt8} (hb : chk b = 3) : disN a b = 0 := by unfold disN; rw [if_neg (fun x => by have := x.2.1; omega)]

set_option maxHeartbeats 1000000 in
theorem distance_any (a b : ByteArray) (w : World) (hsa : a.size ≤ 1000000) (hsb : b.size ≤ 1000000) :
  Calls Tryz.prog 213 #[.string a, .string b] w fun e w' => e = .returned (.tuple #[.int .i64 (disN a.data.toList b.data.toList), .int .i64 (disE a.data.toList b.data.toList)]) ∧ ∃ n, w' = w.drewN n := by
 rcases chk_cases a.data.toList with ha | ha
 ·rcases chk_cases b.data.toList with hb | hb
  ·by_cases hl : a.size = b.size
   ·have hNh := Lib.hid (disN_yes a b ha hb hl)
    have hEh := Lib.hid (disE_eq ha hb hl)
    have hlh := Lib.hid hl
    have hl1 : (((a.size : Nat) : Int) != ((b.size : Nat) : Int)) = false := by simp [hl]
    have hle : a.size ≤ b.size := by omega
    clear hl
    go_enter Tryz.func213, Tryz.ntmps213
    go_wp2_with (go_at_call 124; refine (check_any _ _ (by assumption)).mono ?_; rintro e w' ⟨rfl, rfl⟩)
    clear ha hb hl1
    go_loopw [8, 27] (fun u i wr => ∃ k : Nat, k ≤ a.size ∧ i = .int .i64 k ∧ u = .int .i64 (disTo a b k) ∧ ∃ n, wr = w.drewN n) (fun _ i _ => a.size - (intOf i).toNat)
    case atStart => exact ⟨0, Nat.zero_le _, rfl, by rw [disTo_zero]; rfl, 0, rfl⟩
    case round =>
     obtain ⟨k, hk, rfl, rfl, n, rfl⟩ := hrel
     have hd := disTo_le a b k
     by_cases hlt : k < a.size
     ·have hltb : k < b.size := by omega
      have hI0 : (0 : Int) ≤ (k : Int) := by omega
      have hI1 : (k : Int) < (a.size : Int) := by omega
      have hI2 : (k : Int) < (b.size : Int) := by omega
      rcases h1 : (((a[k]).toNat : Int) != ((b[k]).toNat : Int)) with _ | _
      ·have hn := Lib.hid (disTo_no a b k hlt hltb (.inl h1))
       go_wp2
       go_quiet (fail)
       go_wp2
       go_roundw
       case rel => exact ⟨k + 1, by omega, by go_num, by rw [hn.out], _, rfl⟩
       case measure => simp [intOf]; omega
      ·rcases h2 : (((a[k]).toNat : Int) != 63) with _ | _
       ·have hn := Lib.hid (disTo_no a b k hlt hltb (.inr (.inl h2)))
        go_wp2
        go_quiet (fail)
        go_wp2
        go_roundw
        case rel => exact ⟨k + 1, by omega, by go_num, by rw [hn.out], _, rfl⟩
        case measure => simp [intOf]; omega
       ·rcases h3 : (((b[k]).toNat : Int) != 63) with _ | _
        ·have hn := Lib.hid (disTo_no a b k hlt hltb (.inr (.inr h3)))
         go_wp2
         go_quiet (fail)
         go_wp2
         go_roundw
         case rel => exact ⟨k + 1, by omega, by go_num, by rw [hn.out], _, rfl⟩
         case measure => simp [intOf]; omega
        ·have hn := Lib.hid (disTo_yes a b k hlt hltb h1 h2 h3)
         go_wp2
         go_quiet (fail)
         go_wp2
         go_roundw
         case rel => exact ⟨k + 1, by omega, by go_num, by rw [hn.out]; go_num, _, rfl⟩
         case measure => simp [intOf]; omega
     ·go_wp2
      go_ret2
      exact ⟨ret_two (by rw [hNh.out, show k = a.size by omega]) hEh.out.symm, n, rfl⟩
   ·have hl1 : (((a.size : Nat) : Int) != ((b.size : Nat) : Int)) = true := by simp; omega
    have hNh := Lib.hid (disN_arg (a := a.data.toList) (b := b.data.toList) hl)
    have hEh := Lib.hid (disE_arg ha hb hl)
    have hlh := Lib.hid hl
    clear hl
    go_enter Tryz.func213, Tryz.ntmps213
    go_wp2_with (go_at_call 124; refine (check_any _ _ (by assumption)).mono ?_; rintro e w' ⟨rfl, rfl⟩)
    go_ret2
    exact ⟨ret_two hNh.out.symm hEh.out.symm, 0, rfl⟩
  ·have hNh := Lib.hid (disN_syn2 (a := a.data.toList) hb)
   have hEh := Lib.hid (disE_syn2 (a := a.data.toList) hb)
   go_enter Tryz.func213, Tryz.ntmps213
   go_wp2_with (go_at_call 124; refine (check_any _ _ (by assumption)).mono ?_; rintro e w' ⟨rfl, rfl⟩)
   go_ret2
   exact ⟨ret_two hNh.out.symm hEh.out.symm, 0, rfl⟩
 ·have hNh := Lib.hid (disN_syn1 (b := b.data.toList) ha)
  have hEh := Lib.hid (disE_syn1 (b := b.data.toList) ha)
  go_enter Tryz.func213, Tryz.ntmps213
  go_wp2_with (go_at_call 124; refine (check_any _ _ (by assumption)).mono ?_; rintro e w' ⟨rfl, rfl⟩)
  go_ret2
  exact ⟨ret_two hNh.out.symm hEh.out.symm, 0, rfl⟩

end C1
namespace C1
open Go.RowKit

set_option maxHeartbeats 1000000 in
theorem rcheck_any (s : ByteArray) (w : World) (hs : s.size ≤ 1000000) :
  Calls Tryz.prog 56 #[.string s] w fun e w' => e = .returned (.int .i64 (chk s.data.toList)) ∧ w = w' := by
 go_enter Tryz.func56, Tryz.ntmps56
 go_wp2
 go_loop [3] (fun i => ∃ k : Nat, k ≤ s.size ∧ i = .int .i64 k ∧ (s.data.toList.take k).all okB = true) (fun i => s.size - (intOf i).toNat)
 case atStart => exact ⟨0, Nat.zero_le _, rfl, rfl⟩
 case round =>
  obtain ⟨k, hk, rfl, hall⟩ := hrel
  by_cases hlt : k < s.size
  ·rcases h1 : (((s[k]).toNat : Int) == 48) with _ | _
   ·have h1' := ne_of_no h1
    rcases h2 : (((s[k]).toNat : Int) == 49) with _ | _
    ·have h2' := ne_of_no h2
     rcases h3 : (((s[k]).toNat : Int) == 63) with _ | _
     ·have h3' := ne_of_no h3
      have hbad := Lib.hid (chk_bad s k hlt (okB_no h1 h2 h3))
      go_wp2
      go_ret
      exact ⟨ret_int hbad.out.symm, rfl⟩
     ·have h3' := ne_of_eq h3
      have hall' := all_snoc s k hlt hall (okB_yes3 h3)
      go_wp2
      go_round
      case rel => exact ⟨k + 1, by omega, by go_num, hall'⟩
      case measure => simp [intOf]; omega
    ·have h2' := ne_of_eq h2
     have hall' := all_snoc s k hlt hall (okB_yes2 h2)
     go_wp2
     go_round
     case rel => exact ⟨k + 1, by omega, by go_num, hall'⟩
     case measure => simp [intOf]; omega
   ·have h1' := ne_of_eq h1
    have hall' := all_snoc s k hlt hall (okB_yes1 h1)
    go_wp2
    go_round
    case rel => exact ⟨k + 1, by omega, by go_num, hall'⟩
    case measure => simp [intOf]; omega
  ·go_wp2
   go_ret
   exact ⟨ret_int (chk_good s (by rw [show s.size = k by omega]; exact hall)).symm, rfl⟩

end C1
namespace C1
open Go.RowKit Mem

theorem info_byteU : (Tryz.prog.info? 5).map (fun i => (i.zero, i.size, i.bytes)) = some (some (.int .u8 0), 1, 1) := by kernel_rfl
theorem grp_take (s : ByteArray) (k j q : Nat) (hq : q = 8 * k + j) (hj : j < 8) (hlt : q < s.size) : (grp s.data.toList k).take (j + 1) = (grp s.data.toList k).take j ++ [s[q]] := by
 subst hq
 have hl : 8 * k + j < s.data.toList.length := by simpa using hlt
 unfold grp
 rw [List.take_take, List.take_take, show min (j + 1) 8 = j + 1 by omega, show min j 8 = j by omega]
 rw [List.take_succ_eq_append_getElem (by simp at hl ⊢; omega)]
 simp only [List.getElem_drop]
 rfl
theorem grp_full (l : List UInt8) (k : Nat) : (grp l k).take 8 = grp l k := List.take_of_length_le (List.length_take_le _ _)
theorem num_pre (l : List UInt8) (k j : Nat) (h : j ≤ 7) : num ((grp l k).take j) < 128 := by
 refine Nat.lt_of_lt_of_le (num_lt _) ?_
 have h1 : ((grp l k).take j).length ≤ 7 := Nat.le_trans (List.length_take_le _ _) h
 exact Nat.pow_le_pow_right (n := 2) (by decide) h1
theorem numq_yes {l : List UInt8} {c : UInt8} (h : ((c.toNat : Int) == 49) = true) : num (l ++ [c]) = num l * 2 + 1 := by rw [num_snoc, if_pos (i49 _ h)]
theorem numq_no {l : List UInt8} {c : UInt8} (h : ((c.toNat : Int) == 49) = false) : num (l ++ [c]) = num l * 2 := by rw [num_snoc, if_neg (n49 _ h)]; rfl
theorem unrq_yes {l : List UInt8} {c : UInt8} (h : ((c.toNat : Int) == 63) = true) : unr (l ++ [c]) = unr l + 1 := by
 unfold unr
 rw [List.filter_append]
 simp [is63, h]
theorem unrq_no {l : List UInt8} {c : UInt8} (h : ((c.toNat : Int) == 63) = false) : unr (l ++ [c]) = unr l := by
 unfold unr
 rw [List.filter_append]
 simp [is63, h]
set_option maxHeartbeats 2000000 in
theorem rtoBytes_any (s : ByteArray) (w : World) (hs : s.size ≤ 100000) :
  Calls Tryz.prog 61 #[.string s] w (TbPost s.data.toList w) := by
 rcases chk_cases s.data.toList with hc | hc
 ·by_cases h8 : s.size % 8 = 0
  ·have hE := Lib.hid (tbE_ok hc h8)
   obtain ⟨n, hn⟩ : ∃ n, s.size = 8 * n := ⟨s.size / 8, by omega⟩
   have hn8 : s.data.toList.length / 8 = n := by simp; omega
   have hn8h := Lib.hid hn8
   have hq : (((s.size : Nat) : Int) % 8 == 0) = true := by simp; omega
   have hq' := ne_of_eq hq
   have hnn : n ≤ 12500 := by omega
   have hnh := Lib.hid hn
   clear hn hn8 h8
   obtain ⟨i0, hi, hz0, hz1, hz2⟩ := info_parts info_byteU
   obtain ⟨j0, hj, hy0, hy1, hy2⟩ := info_parts info_int
   go_enter Tryz.func61, Tryz.ntmps61
   go_wp2_with (go_at_call 56; refine (rcheck_any _ _ (by omega)).mono ?_; rintro e w' ⟨rfl, rfl⟩)
   clear hc hq hq'
   go_loopw [5, 6, 7] (fun b v i wr => ∃ k p : Nat, k ≤ n ∧ Hid (p = 8 * k) ∧ p ≤ s.size ∧ i = .int .i64 p ∧ wr.ownsRow w.heap.size 5 1 b k (bys (toB s.data.toList k)) ∧
    wr.ownsRow w.heap.size 3 1 v (bad s.data.toList k).length (nats (bad s.data.toList k)) ∧ Below w.heap.size w wr) (fun _ _ i _ => s.size - (intOf i).toNat)
   case atStart => exact ⟨0, 0, Nat.zero_le _, Lib.hid rfl, Nat.zero_le _, rfl, (empty_at rfl (Nat.le_refl _)).alloc _, empty_at (by simp) (Nat.le_succ _), ((Below.refl _ _).alloc (Nat.le_refl _) _).alloc (by simp) _⟩
   case round =>
    obtain ⟨k, p, hk, hp, hps, rfl, hob, hov, hb⟩ := hrel
    by_cases hlt : p < s.size
    ·have hkn : k < n := by have := hp.out; have := hnh.out; omega
     have hp8 : p + 8 ≤ s.size := by have := hp.out; have := hnh.out; omega
     go_wp2
     go_loop [8, 9, 10] (fun a o q => ∃ (j t : Nat) (u : Bool), j ≤ 8 ∧ t ≤ p + 8 ∧ p ≤ t ∧ Hid (t = p + j) ∧ q = .int .i64 t ∧ o = .bool u ∧ Hid (u = decide (0 < unr ((grp s.data.toList k).take j))) ∧ a = .int .i64 (num ((grp s.data.toList k).take j))) (fun _ _ q => p + 8 - (intOf q).toNat)
     case atStart => exact ⟨0, p, false, by omega, by omega, by omega, Lib.hid rfl, rfl, rfl, Lib.hid rfl, rfl⟩
     case round =>
      obtain ⟨j, t, u, hj8, ht8, hpt, htj, rfl, rfl, hu, rfl⟩ := hrel
      by_cases htl : t < p + 8
      ·have hj7 : j < 8 := by have := htj.out; omega
       have hts : t < s.size := by omega
       have hpre := num_pre s.data.toList k j (by omega)
       have htk := Lib.hid (grp_take s k j t (by have := htj.out; have := hp.out; omega) hj7 hts)
       have htn := Lib.hid (show t + 1 = p + (j + 1) by have := htj.out; omega)
       rcases h1 : (((s[t]).toNat : Int) == 49) with _ | _
       ·have hnum := Lib.hid (show num ((grp s.data.toList k).take (j + 1)) = num ((grp s.data.toList k).take j) * 2 by rw [htk.out, numq_no h1])
        rcases u with _ | _
        ·rcases h2 : (((s[t]).toNat : Int) == 63) with _ | _
         ·have hu' : Hid (false = decide (0 < unr ((grp s.data.toList k).take (j + 1)))) := Lib.hid (by rw [htk.out, unrq_no h2]; exact hu.out)
          go_wp2
          go_round
          case rel => exact ⟨j + 1, t + 1, _, by omega, by omega, by omega, htn, by go_num, rfl, hu', by rw [hnum.out]; go_num⟩
          case measure => simp [intOf]; omega
         ·have hu' : Hid (true = decide (0 < unr ((grp s.data.toList k).take (j + 1)))) := Lib.hid (by rw [htk.out, unrq_yes h2]; simp)
          go_wp2
          go_round
          case rel => exact ⟨j + 1, t + 1, _, by omega, by omega, by omega, htn, by go_num, rfl, hu', by rw [hnum.out]; go_num⟩
          case measure => simp [intOf]; omega
        ·have hu' : Hid (true = decide (0 < unr ((grp s.data.toList k).take (j + 1)))) := Lib.hid (by
          have h0 := hu.out
          rw [htk.out]
          rcases h2 : (((s[t]).toNat : Int) == 63) with _ | _
          ·rw [unrq_no h2]; exact h0
          ·rw [unrq_yes h2]; simp)
         go_wp2
         go_round
         case rel => exact ⟨j + 1, t + 1, _, by omega, by omega, by omega, htn, by go_num, rfl, hu', by rw [hnum.out]; go_num⟩
         case measure => simp [intOf]; omega
       ·have hnum := Lib.hid (show num ((grp s.data.toList k).take (j + 1)) = num ((grp s.data.toList k).take j) * 2 + 1 by rw [htk.out, numq_yes h1])
        rcases u with _ | _
        ·rcases h2 : (((s[t]).toNat : Int) == 63) with _ | _
         ·have hu' : Hid (false = decide (0 < unr ((grp s.data.toList k).take (j + 1)))) := Lib.hid (by rw [htk.out, unrq_no h2]; exact hu.out)
          go_wp2
          go_round
          case rel => exact ⟨j + 1, t + 1, _, by omega, by omega, by omega, htn, by go_num, rfl, hu', by rw [hnum.out]; go_num⟩
          case measure => simp [intOf]; omega
         ·have hu' : Hid (true = decide (0 < unr ((grp s.data.toList k).take (j + 1)))) := Lib.hid (by rw [htk.out, unrq_yes h2]; simp)
          go_wp2
          go_round
          case rel => exact ⟨j + 1, t + 1, _, by omega, by omega, by omega, htn, by go_num, rfl, hu', by rw [hnum.out]; go_num⟩
          case measure => simp [intOf]; omega
        ·have hu' : Hid (true = decide (0 < unr ((grp s.data.toList k).take (j + 1)))) := Lib.hid (by
          have h0 := hu.out
          rw [htk.out]
          rcases h2 : (((s[t]).toNat : Int) == 63) with _ | _
          ·rw [unrq_no h2]; exact h0
          ·rw [unrq_yes h2]; simp)
         go_wp2
         go_round
         case rel => exact ⟨j + 1, t + 1, _, by omega, by omega, by omega, htn, by go_num, rfl, hu', by rw [hnum.out]; go_num⟩
         case measure => simp [intOf]; omega
      ·have hj8' : j = 8 := by have := htj.out; omega
       subst hj8'
       have hu := hu.out
       rw [grp_full] at hu
       rw [grp_full]
       have hnum := grp_num s.data.toList k
       have hdiv : ((p : Nat) : Int) / 8 = (k : Int) := by have := hp.out; omega
       have htc := Lib.hid (toB_cells s.data.toList k)
       have hbl := bad_le s.data.toList k
       have hpn := Lib.hid (show p + 8 = 8 * (k + 1) by have := hp.out; omega)
       by_cases hu0 : 0 < unr (grp s.data.toList k)
       ·obtain rfl : u = true := by rw [hu]; simpa using hu0
        have hbc := Lib.hid (bad_cells s.data.toList k hu0)
        have hbn := Lib.hid (bad_yes_len s.data.toList k hu0)
        clear hu hu0
        go_wp2_with (at_builtin; refine wpList_append_own _ rfl _ _ 95 rfl w.heap.size 3 j0 (.int .i64 0) 1 8 Tryz.underlying95 hj hy0 hy1 hy2 rfl (by decide) _ _ _ rfl (hov.alloc _) ⟨wr.heap.size, 0, none⟩ 1 1 [.int .i64 (k : Int)] rfl rfl (one_new _ _ _) (one_cell _ _) ?d3 ?d4 ?d5 ?_)
        case d3 => unfold maxLen; omega
        case d4 => omega
        case d5 => have := hb.size; simp; omega
        intro v' w1 hov1 hgrow1 _
        rw [hbc.out] at hov1
        have hob1 := (hob.alloc _).kept hgrow1 (own_apart hob hov (by decide))
        have hb1 : Below w.heap.size w w1 := (hb.alloc hb.size _).grown hgrow1 (by have := hb.size; simp; omega) (fun j hj => (hov.lt j hj).1)
        clear hob hov hb hgrow1 hbc
        go_wp2_with (at_builtin; refine wpList_append_own _ rfl _ _ 53 rfl w.heap.size 5 i0 (.int .u8 0) 1 1 Tryz.underlying53 hi hz0 hz1 hz2 rfl (by decide) _ _ _ rfl (hob1.alloc _) ⟨w1.heap.size, 0, none⟩ 1 1 [.int .u8 (num (grp s.data.toList k) : Int)] rfl rfl (one_new _ _ _) (one_cell _ _) ?c3 ?c4 ?c5 ?_)
        case c3 => unfold maxLen; omega
        case c4 => omega
        case c5 => have := hb1.size; simp; omega
        intro b' w2 hob2 hgrow2 _
        rw [htc.out] at hob2
        have hov2 := (hov1.alloc _).kept hgrow2 (own_apart hov1 hob1 (by decide))
        have hb2 : Below w.heap.size w w2 := (hb1.alloc hb1.size _).grown hgrow2 (by have := hb1.size; simp; omega) (fun j hj => (hob1.lt j hj).1)
        clear hob1 hov1 hb1 hgrow2 htc
        go_wp2
        go_roundw
        case rel => exact ⟨k + 1, p + 8, by omega, hpn, by omega, by go_num, hob2, by rw [hbn.out]; exact hov2, hb2⟩
        case measure => simp [intOf]; omega
       ·obtain rfl : u = false := by rw [hu]; simpa using hu0
        have hbn := Lib.hid (bad_no s.data.toList k hu0)
        clear hu hu0
        go_wp2_with (at_builtin; refine wpList_append_own _ rfl _ _ 53 rfl w.heap.size 5 i0 (.int .u8 0) 1 1 Tryz.underlying53 hi hz0 hz1 hz2 rfl (by decide) _ _ _ rfl (hob.alloc _) ⟨wr.heap.size, 0, none⟩ 1 1 [.int .u8 (num (grp s.data.toList k) : Int)] rfl rfl (one_new _ _ _) (one_cell _ _) ?c3 ?c4 ?c5 ?_)
        case c3 => unfold maxLen; omega
        case c4 => omega
        case c5 => have := hb.size; simp; omega
        intro b' w2 hob2 hgrow2 _
        rw [htc.out] at hob2
        have hov2 := (hov.alloc _).kept hgrow2 (own_apart hov hob (by decide))
        have hb2 : Below w.heap.size w w2 := (hb.alloc hb.size _).grown hgrow2 (by have := hb.size; simp; omega) (fun j hj => (hob.lt j hj).1)
        clear hob hov hb hgrow2 htc
        go_wp2
        go_roundw
        case rel => exact ⟨k + 1, p + 8, by omega, hpn, by omega, by go_num, hob2, by rw [hbn.out]; exact hov2, hb2⟩
        case measure => simp [intOf]; omega
    ·have hkn : k = n := by have := hp.out; have := hnh.out; omega
     subst hkn
     have hconv := conv_own (dst := 9) Tryz.underlying53 Tryz.underlying5 Tryz.underlying9 hob
     go_wp2
     go_ret3
     exact tbPost_ok hE.out hn8h.out hov hb
  ·have hE := Lib.hid (tbE_short hc h8)
   have hq : (((s.size : Nat) : Int) % 8 == 0) = false := by simp; omega
   have hq' := ne_of_no hq
   go_enter Tryz.func61, Tryz.ntmps61
   go_wp2_with (go_at_call 56; refine (rcheck_any _ _ (by omega)).mono ?_; rintro e w' ⟨rfl, rfl⟩)
   go_ret3
   exact tbPost_no hE.out (by decide)
 ·have hE := Lib.hid (tbE_syn hc)
  go_enter Tryz.func61, Tryz.ntmps61
  go_wp2_with (go_at_call 56; refine (rcheck_any _ _ (by omega)).mono ?_; rintro e w' ⟨rfl, rfl⟩)
  go_ret3
  exact tbPost_no hE.out (by decide)
end C1
namespace C1
open Go.RowKit Mem

set_option maxHeartbeats 400000 in
theorem runreadable_any (s : ByteArray) (w : World) (hs : s.size ≤ 1000000) :
  Calls Tryz.prog 58 #[.string s] w fun e w' => e = .returned (.int .i64 (unr s.data.toList)) ∧ w = w' := by
 go_enter Tryz.func58, Tryz.ntmps58
 go_wp2
 go_loop [3, 4] (fun n i => ∃ k : Nat, k ≤ s.size ∧ i = .int .i64 k ∧ n = .int .i64 (unr (s.data.toList.take k))) (fun _ i => s.size - (intOf i).toNat)
 case atStart => exact ⟨0, Nat.zero_le _, rfl, rfl⟩
 case round =>
  obtain ⟨k, hk, rfl, rfl⟩ := hrel
  have hu := unr_le (s.data.toList.take k)
  have hl : (s.data.toList.take k).length ≤ k := List.length_take_le _ _
  by_cases hlt : k < s.size
  ·go_wp2
   all_goals
    go_round
    case rel => exact ⟨k + 1, by omega, by go_num, by first | (rw [unr_snoc_yes s k hlt (by assumption)]; go_num) | rw [unr_snoc_no s k hlt (by assumption)]⟩
    case measure => simp [intOf]; omega
  ·go_wp2
   go_ret
   exact ⟨ret_int (by rw [show k = s.size by omega, take_all]), rfl⟩
end C1
end Go.Proofs.YtiodkllckcpinaaGreatDoor
