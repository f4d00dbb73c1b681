/- Facts and contracts that the walks of this layer use, merged: M12Math, M12OwnMk, M12OwnDs, M12Own3, M12RefMk, M12Str, M12RefFar, M12RefDs. -/
import Derived.Test.YtiodkllckcpinaaGreatDoorM14AA
import Derived.Test.YtiodkllckcpinaaGreatDoorRows
import Derived.Lib.Hide
import Derived.WalkKit
import Derived.BigQuiet
import Derived.Deep.QuietTactic
import Derived.WalkSpells
import Derived.WalkLawsBesides
set_option linter.unusedVariables false
set_option linter.unusedSimpArgs false
set_option maxRecDepth 100000
namespace Go.Proofs.YtiodkllckcpinaaGreatDoor
namespace M12
def mkB : ByteArray := ⟨#[49, 49, 49, 49, 49, 48, 48, 49, 49, 48, 49, 48, 49, 48, 48, 48]⟩
def plB : ByteArray := ⟨#[48, 48, 48, 48, 48, 49, 49, 48, 48, 49, 48, 49, 48, 49, 49, 49]⟩
def mk : List UInt8 := mkB.data.toList
def pl : List UInt8 := plB.data.toList
def cellAt (l : List UInt8) (a : Int) (i : Nat) : Option UInt8 := if 0 ≤ a + i then l[(a + i).toNat]? else none
def mm (l : List UInt8) (a : Int) (i : Nat) : Bool := cellAt l a i != mk[i]?
def pm (l : List UInt8) (a : Int) (i : Nat) : Bool := cellAt l a i == pl[i]?
def dsTo (l : List UInt8) (a : Int) (k : Nat) : Nat := ((List.range k).filter (mm l a)).length
def ds (l : List UInt8) (a : Int) : Nat := dsTo l a 16
def pp (l : List UInt8) (a : Int) : Bool := (List.range 16).all (pm l a)
def fq (l : List UInt8) (a : Int) (o : Nat) : Bool := decide (a ≤ (o : Int)) && decide (ds l (o : Int) ≤ 2)
def fd (l : List UInt8) (a : Int) : Option Nat := (List.range (l.length - 15)).find? (fq l a)
def fdI (l : List UInt8) (a : Int) : Int := match fd l a with | some o => (o : Int) | none => 0
def fdB (l : List UInt8) (a : Int) : Bool := (fd l a).isSome

theorem dsTo_le (l : List UInt8) (a : Int) (k : Nat) : dsTo l a k ≤ k := by
 have := List.length_filter_le (mm l a) (List.range k)
 rwa [List.length_range] at this
theorem dsTo_yes {l : List UInt8} {a : Int} {k : Nat} (h : mm l a k = true) : dsTo l a (k + 1) = dsTo l a k + 1 := by
 unfold dsTo
 rw [List.range_succ, List.filter_append, List.length_append]
 simp [h]
theorem dsTo_no {l : List UInt8} {a : Int} {k : Nat} (h : mm l a k = false) : dsTo l a (k + 1) = dsTo l a k := by
 unfold dsTo
 rw [List.range_succ, List.filter_append, List.length_append]
 simp [h]
theorem mk_len : mk.length = 16 := rfl
theorem mk_some {k : Nat} (h : k < 16) : mk[k]? = some (mk[k]'h) := List.getElem?_eq_getElem h
theorem mm_none {l : List UInt8} {a : Int} {k : Nat} (hk : k < 16) (h : cellAt l a k = none) : mm l a k = true := by
 unfold mm
 rw [h, mk_some hk]
 rfl
theorem cell_neg {l : List UInt8} {a : Int} {k : Nat} (h : a + k < 0) : cellAt l a k = none := by
 unfold cellAt
 rw [if_neg (by omega)]
theorem cell_past {l : List UInt8} {a : Int} {k : Nat} (h : (l.length : Int) ≤ a + k) : cellAt l a k = none := by
 unfold cellAt
 split
 ·exact List.getElem?_eq_none (by omega)
 ·rfl
theorem cell_in {l : List UInt8} {a : Int} {k c : Nat} (h : a + k = c) (hc : c < l.length) : cellAt l a k = some (l[c]'hc) := by
 unfold cellAt
 rw [h, if_pos (by omega)]
 exact List.getElem?_eq_getElem hc
theorem cell_nat (l : List UInt8) (a k : Nat) : cellAt l (a : Int) k = l[a + k]? := by
 unfold cellAt
 rw [if_pos (by omega)]
 rfl
theorem mm_in {l : List UInt8} {a : Int} {k c : Nat} (hk : k < 16) (h : a + k = c) (hc : c < l.length) : mm l a k = (l[c]'hc != mk[k]'hk) := by
 unfold mm
 rw [cell_in h hc, mk_some hk]
 rfl
theorem pm_none {l : List UInt8} {a : Int} {k : Nat} (hk : k < 16) (h : cellAt l a k = none) : pm l a k = false := by
 unfold pm
 rw [h, List.getElem?_eq_getElem (show k < pl.length from hk)]
 rfl
theorem dsTo_congr {l l' : List UInt8} {a a' : Int} (n : Nat) (h : ∀ k, k < n → cellAt l a k = cellAt l' a' k) : dsTo l a n = dsTo l' a' n := by
 unfold dsTo
 congr 1
 refine List.filter_congr fun k hk => ?_
 unfold mm
 rw [h k (List.mem_range.1 hk)]
theorem ds_congr {l l' : List UInt8} {a a' : Int} (h : ∀ k, k < 16 → cellAt l a k = cellAt l' a' k) : ds l a = ds l' a' := dsTo_congr 16 h
theorem dsTo_none {l : List UInt8} {a : Int} : ∀ n, n ≤ 16 → (∀ k, k < n → cellAt l a k = none) → dsTo l a n = n
 | 0, _, _ => rfl
 | n + 1, hn, h => by rw [dsTo_yes (mm_none (by omega) (h n (by omega))), dsTo_none n (by omega) fun k hk => h k (by omega)]
theorem ds_far {l : List UInt8} {a : Int} (h : a < -15 ∨ (l.length : Int) ≤ a) : ds l a = 16 := dsTo_none 16 (by omega) fun k hk => by
 rcases h with h | h
 ·exact cell_neg (by omega)
 ·exact cell_past (by omega)
theorem pp_yes {l : List UInt8} {a : Int} : pp l a = true ↔ ∀ k, k < 16 → pm l a k = true := by
 unfold pp
 rw [List.all_eq_true]
 exact ⟨fun h k hk => h k (List.mem_range.2 hk), fun h k hk => h k (List.mem_range.1 hk)⟩
theorem pp_no {l : List UInt8} {a : Int} {k : Nat} (hk : k < 16) (h : pm l a k = false) : pp l a = false := by
 rw [Bool.eq_false_iff]
 intro h'
 rw [pp_yes.1 h' k hk] at h
 cases h
theorem pp_far {l : List UInt8} {a : Int} (h : a < 0 ∨ (l.length : Int) < a + 16) : pp l a = false := by
 rcases h with h | h
 ·exact pp_no (k := 0) (by omega) (pm_none (by omega) (cell_neg (by omega)))
 ·exact pp_no (k := 15) (by omega) (pm_none (by omega) (cell_past (by omega)))
theorem fd_some {l : List UInt8} {a : Int} {o : Nat} : fd l a = some o ↔ (a ≤ (o : Int) ∧ o + 16 ≤ l.length ∧ ds l (o : Int) ≤ 2 ∧ ∀ k : Nat, a ≤ (k : Int) → k < o → 2 < ds l (k : Int)) := by
 unfold fd
 rw [List.find?_range_eq_some]
 constructor
 ·rintro ⟨h1, h2, h3⟩
  unfold fq at h1 h3
  rw [Bool.and_eq_true, decide_eq_true_eq, decide_eq_true_eq] at h1
  refine ⟨h1.1, by have := List.mem_range.1 h2; omega, h1.2, fun k ha hk => ?_⟩
  have := h3 k hk
  rw [decide_eq_true ha, Bool.true_and, Bool.not_eq_true', decide_eq_false_iff_not] at this
  omega
 ·rintro ⟨h1, h2, h3, h4⟩
  refine ⟨?_, List.mem_range.2 (by omega), fun k hk => ?_⟩
  ·unfold fq
   rw [decide_eq_true h1, decide_eq_true h3]
   rfl
  ·unfold fq
   by_cases ha : a ≤ (k : Int)
   ·have := h4 k ha hk
    rw [decide_eq_false (p := ds l (k : Int) ≤ 2) (by omega), Bool.and_false]
    rfl
   ·rw [decide_eq_false ha]
    rfl
theorem fd_none {l : List UInt8} {a : Int} : fd l a = none ↔ ∀ k : Nat, a ≤ (k : Int) → k + 16 ≤ l.length → 2 < ds l (k : Int) := by
 unfold fd
 rw [List.find?_range_eq_none]
 constructor
 ·intro h k ha hk
  have := h k (by omega)
  unfold fq at this
  rw [decide_eq_true ha, Bool.true_and, Bool.not_eq_true', decide_eq_false_iff_not] at this
  omega
 ·intro h k hk
  unfold fq
  by_cases ha : a ≤ (k : Int)
  ·have := h k ha (by omega)
   rw [decide_eq_false (p := ds l (k : Int) ≤ 2) (by omega), Bool.and_false]
   rfl
  ·rw [decide_eq_false ha]
   rfl
theorem fd_no_neg {l : List UInt8} {a : Int} (h : a < 0) : fd l a = fd l 0 := by
 rcases h0 : fd l 0 with _ | o
 ·rw [fd_none] at *
  exact fun k _ hk => h0 k (by omega) hk
 ·rw [fd_some] at *
  exact ⟨by omega, h0.2.1, h0.2.2.1, fun k _ hk => h0.2.2.2 k (by omega) hk⟩
theorem fdIB_some {l : List UInt8} {a : Int} {o : Nat} (h : fd l a = some o) : fdI l a = (o : Int) ∧ fdB l a = true := by
 unfold fdI fdB
 rw [h]
 exact ⟨rfl, rfl⟩
theorem fdIB_none {l : List UInt8} {a : Int} (h : fd l a = none) : fdI l a = 0 ∧ fdB l a = false := by
 unfold fdI fdB
 rw [h]
 exact ⟨rfl, rfl⟩

theorem cell_shift (b l : List UInt8) (k i : Nat) : cellAt (b ++ l) ((b.length + k : Nat) : Int) i = cellAt l (k : Int) i := by
 rw [cell_nat, cell_nat, Nat.add_assoc, List.getElem?_append_right (by omega), Nat.add_sub_cancel_left]
theorem cell_more (l m : List UInt8) (k i : Nat) (h : k + i < l.length) : cellAt (l ++ m) (k : Int) i = cellAt l (k : Int) i := by
 rw [cell_nat, cell_nat, List.getElem?_append_left h]
theorem ds_shift (b l : List UInt8) (k : Nat) : ds (b ++ l) ((b.length + k : Nat) : Int) = ds l (k : Int) := ds_congr fun i _ => cell_shift b l k i
theorem ds_more (l m : List UInt8) {k : Nat} (h : k + 16 ≤ l.length) : ds (l ++ m) (k : Int) = ds l (k : Int) := ds_congr fun i _ => cell_more l m k i (by omega)
theorem ds_context (b l f : List UInt8) {k : Nat} (h : k + 16 ≤ l.length) : ds (b ++ l ++ f) ((b.length + k : Nat) : Int) = ds l (k : Int) := by
 rw [ds_more _ _ (by rw [List.length_append]; omega), ds_shift]
theorem fd_here {l : List UInt8} {a : Nat} (h : a + 16 ≤ l.length) : fd l (a : Int) = some a ↔ ds l (a : Int) ≤ 2 := by
 rw [fd_some]
 exact ⟨fun h => h.2.2.1, fun h' => ⟨by omega, h, h', fun k _ _ => by omega⟩⟩
theorem ds_mid (b m f : List UInt8) (h : m.length = 16) : ds (b ++ m ++ f) (b.length : Int) = ds m 0 := ds_context b m f (k := 0) (by omega)
theorem mk_cell {k : Nat} (hk : k < 16) : mk[k]'hk = 48 ∨ mk[k]'hk = 49 := by
 have : ∀ k : Fin 16, mk[k.1]'k.2 = 48 ∨ mk[k.1]'k.2 = 49 := by decide
 exact this ⟨k, hk⟩
end M12
namespace M12
open Go.RowKit Mem

theorem mark_any (w : World) : Calls Tryz.prog 43 #[] w fun e w' => e = .returned (.string mkB) ∧ w = w' := by
 go_enter Tryz.func43, Tryz.ntmps43
 go_wp2
 go_ret
 exact ⟨rfl, rfl⟩
end M12
namespace M12
open Go.RowKit Mem

theorem u8_neI (x y : UInt8) : (x != y) = ((x.toNat : Int) != (y.toNat : Int)) := by
 rw [Bool.eq_iff_iff]
 simp [← UInt8.toNat_inj]
 omega
theorem wrap_over {x : Int} (h : 9223372036854775807 < x) (h' : x < 18446744073709551616) : wrap64 x = x - 18446744073709551616 := by
 unfold wrap64
 omega
theorem wrap_in {x : Int} (h : -9223372036854775808 ≤ x) (h' : x ≤ 9223372036854775807) : wrap64 x = x := IntWalk.wrap64_in _ ⟨h, h'⟩
theorem step_in {c : ByteArray} {a : Int} {k j : Nat} (hk : k < 16) (hj : a + k = j) (hc : j < c.size) : mm c.data.toList a k = (((c[j]'hc).toNat : Int) != ((((ByteArray.mk #[49, 49, 49, 49, 49, 48, 48, 49, 49, 48, 49, 48, 49, 48, 48, 48])[k]'hk).toNat : Nat) : Int)) := by
 rw [mm_in hk hj (show j < c.data.toList.length by simpa using hc), ← u8_neI]
 rfl
set_option maxHeartbeats 2000000 in
theorem distance_any (c : ByteArray) (a : Int) (w : World) (hc : c.size ≤ 9223372036854775807) (a1 : -9223372036854775808 ≤ a) (a2 : a ≤ 9223372036854775807) :
  Calls Tryz.prog 45 #[.string c, .int .i64 a] w fun e w' => e = .returned (.int .i64 (ds c.data.toList a : Int)) ∧ ∃ n, w' = w.drewN n := by
 obtain ⟨l, hl⟩ : ∃ l, c.data.toList = l := ⟨_, rfl⟩
 have hll : l.length = c.size := by rw [← hl]; simp
 rw [hl]
 go_enter Tryz.func45, Tryz.ntmps45
 go_wp2
 go_loopw [5, 8] (fun u i wr => ∃ k : Nat, k ≤ 16 ∧ i = .int .i64 k ∧ u = .int .i64 (dsTo l a k) ∧ ∃ n, wr = w.drewN n) (fun _ i _ => 16 - (intOf i).toNat)
 case atStart => exact ⟨0, Nat.zero_le _, rfl, rfl, 0, rfl⟩
 case round =>
  obtain ⟨k, hk, rfl, rfl, n, rfl⟩ := hrel
  have hd := dsTo_le l a k
  by_cases hlt : k < 16
  ·by_cases ho : a + k < 0
   ·have hn := Lib.hid (dsTo_yes (mm_none hlt (cell_neg (l := l) ho)))
    have d1 : decide (a + (k : Int) < 0) = true := decide_eq_true ho
    go_wp2
    go_quiet (fail)
    go_wp2
    go_roundw
    case rel => exact ⟨k + 1, by omega, by go_num, by rw [hn.out]; go_num, _, rfl⟩
    case measure => simp [intOf]; omega
   ·by_cases hp : 9223372036854775807 < a + k
    ·have hn := Lib.hid (dsTo_yes (mm_none hlt (cell_past (l := l) (a := a) (k := k) (by omega))))
     have d1 : decide (wrap64 (a + (k : Int)) < 0) = true := decide_eq_true (by rw [wrap_over hp (by omega)]; omega)
     clear hll
     go_wp2
     go_quiet (fail)
     go_wp2
     go_roundw
     case rel => exact ⟨k + 1, by omega, by go_num, by rw [hn.out]; go_num, _, rfl⟩
     case measure => simp [intOf]; omega
    ·obtain ⟨j, hj⟩ : ∃ j : Nat, a + (k : Int) = j := ⟨(a + k).toNat, by omega⟩
     have hw : wrap64 (a + (k : Int)) = (j : Int) := by rw [wrap_in (by omega) (by omega), hj]
     have d1 : decide ((j : Int) < 0) = false := decide_eq_false (by omega)
     by_cases hs : j < c.size
     ·have d2 : decide ((c.size : Int) ≤ (j : Int)) = false := decide_eq_false (by omega)
      have d2' : decide (c.size ≤ j) = false := decide_eq_false (by omega)
      have j0 : (0 : Int) ≤ (j : Int) := by omega
      have j1 : (j : Int) < (c.size : Int) := by omega
      have hm := step_in hlt hj hs
      rw [hl] at hm
      rcases h1 : (((c[j]'hs).toNat : Int) != ((((ByteArray.mk #[49, 49, 49, 49, 49, 48, 48, 49, 49, 48, 49, 48, 49, 48, 48, 48])[k]'hlt).toNat : Nat) : Int)) with _ | _
      ·have hn := Lib.hid (dsTo_no (hm.trans h1))
       clear hll hm ho hp
       go_wp2
       go_quiet (fail)
       go_wp2
       go_roundw
       case rel => exact ⟨k + 1, by omega, by go_num, by rw [hn.out], _, rfl⟩
       case measure => simp [intOf]; omega
      ·have hn := Lib.hid (dsTo_yes (hm.trans h1))
       clear hll hm ho hp
       go_wp2
       go_quiet (fail)
       go_wp2
       go_roundw
       case rel => exact ⟨k + 1, by omega, by go_num, by rw [hn.out]; go_num, _, rfl⟩
       case measure => simp [intOf]; omega
     ·have d2 : decide ((c.size : Int) ≤ (j : Int)) = true := decide_eq_true (by omega)
      have d2' : decide (c.size ≤ j) = true := decide_eq_true (by omega)
      have hn := Lib.hid (dsTo_yes (mm_none hlt (cell_past (l := l) (a := a) (k := k) (by omega))))
      have j2 : (j : Int) ≤ 9223372036854775807 := by omega
      clear hll ho hp
      go_wp2
      go_quiet (fail)
      go_wp2
      go_roundw
      case rel => exact ⟨k + 1, by omega, by go_num, by rw [hn.out]; go_num, _, rfl⟩
      case measure => simp [intOf]; omega
  ·obtain rfl : k = 16 := by omega
   go_wp2
   go_ret
   exact ⟨rfl, n, rfl⟩
end M12
namespace M12
open Go.RowKit Mem

set_option maxHeartbeats 2000000 in
theorem found_own {c : ByteArray} {b : Nat} {w : World} (o : Nat) (hc : c.size ≤ 9223372036854775807) (ho : o ≤ 9223372036854775807) (hcell : w.cell? ⟨b, 0, none⟩ = some (.string c)) :
  Calls Tryz.prog 44 #[.int .i64 (o : Int), .pointer (some ⟨b, 0, none⟩)] w fun e w' => e = .returned (.bool (decide (ds c.data.toList (o : Int) ≤ 2))) ∧ ∃ n, w' = w.drewN n := by
 have cD := Lib.hid (fun W => distance_any c (o : Int) W hc (by omega) (by omega))
 obtain ⟨d, hd⟩ : ∃ d, ds c.data.toList (o : Int) = d := ⟨_, rfl⟩
 rw [hd] at cD ⊢
 have e : decide ((d : Int) ≤ 2) = decide (d ≤ 2) := by rw [decide_eq_decide]; omega
 obtain ⟨B, hB⟩ : ∃ B, decide (d ≤ 2) = B := ⟨_, rfl⟩
 rw [hB] at e ⊢
 clear hd
 go_enter Tryz.func44, Tryz.ntmps44
 go_wp2_with (go_at_call 45; refine (cD.out _).mono ?_; rintro e w1 ⟨rfl, n, rfl⟩)
 go_ret
 exact ⟨rfl, n, rfl⟩
set_option maxHeartbeats 2000000 in
theorem find_core (c : ByteArray) (a : Int) (A : Nat) (w : World) (hc : c.size ≤ 140737488351232) (a1 : -9223372036854775808 ≤ a) (a2 : a ≤ 9223372036854775807) (hmax : (if a < 0 then (0 : Int) else a) = (A : Int)) (hA : A ≤ 9223372036854775807) :
  Calls Tryz.prog 23 #[.string c, .int .i64 a] w fun e w' => e = .returned (.tuple #[.int .i64 (fdI c.data.toList A), .bool (fdB c.data.toList A)]) ∧ Below w.heap.size w w' := by
 have hmf : ∀ (fn : Fn) (first cap : Array Value) (w : World), (Instr.makeFunc fn first cap).run Tryz.prog w = .ok (.func fn first cap) w := fun _ _ _ _ => rfl
 obtain ⟨l, hl⟩ : ∃ l, c.data.toList = l := ⟨_, rfl⟩
 have hll : l.length = c.size := by rw [← hl]; simp
 have cF := fun (o : Nat) (ho : o ≤ 9223372036854775807) (W : World) (b : Nat) (h : W.cell? ⟨b, 0, none⟩ = some (.string c)) => found_own (c := c) (b := b) (w := W) o (by omega) ho h
 rw [hl] at cF
 rw [hl]
 replace hll := Lib.hid hll
 replace cF := Lib.hid cF
 clear hl
 go_enter Tryz.func23, Tryz.ntmps23
 go_wp2
 obtain ⟨W0, hW0⟩ : ∃ W0, w.alloc (.cells #[.string c] 9) = W0 := ⟨_, rfl⟩
 obtain ⟨b, hb⟩ : ∃ b, w.heap.size = b := ⟨_, rfl⟩
 have hbW : Below w.heap.size w W0 := by rw [← hW0]; exact (Below.refl w.heap.size w).alloc (by simp) _
 have hcell : W0.cell? ⟨b, 0, none⟩ = some (.string c) := by
  rw [← hW0, ← hb]
  simp
 have hlt : b < W0.heap.size := by rw [← hW0, ← hb]; simp
 rw [hW0, hb]
 replace hcell := Lib.hid hcell
 replace hlt := Lib.hid hlt
 clear hW0 hb hmf
 go_loopw [7] (fun i wr => ∃ o : Nat, i = .int .i64 (o : Int) ∧ o ≤ 9223372036854775807 ∧ A ≤ o ∧ Hid (∀ k : Nat, (A : Int) ≤ (k : Int) → k < o → 2 < ds l (k : Int)) ∧ Below W0.heap.size W0 wr) (fun i _ => c.size - (intOf i).toNat)
 case atStart => exact ⟨A, rfl, hA, Nat.le_refl _, Lib.hid (fun k h1 h2 => by omega), Below.refl _ _⟩
 case round =>
  obtain ⟨o, rfl, ho, hAo, hz, hB⟩ := hrel
  have hce := (hB.cell (p := ⟨b, 0, none⟩) hlt.out).trans hcell.out
  by_cases hs : o + 16 ≤ c.size
  ·have d1 : decide ((o : Int) ≤ (c.size : Int) - 16) = true := decide_eq_true (by omega)
   by_cases h2 : ds l (o : Int) ≤ 2
   ·have d2 : decide (ds l (o : Int) ≤ 2) = true := decide_eq_true h2
    have e : fd l (A : Int) = some o := fd_some.2 ⟨by omega, by rw [hll.out]; exact hs, h2, hz.out⟩
    obtain ⟨e1, e2⟩ := fdIB_some e
    have c1 := cF.out o ho wr b hce
    rw [d2] at c1
    replace c1 := Lib.hid c1
    replace e1 := Lib.hid e1
    replace e2 := Lib.hid e2
    clear e h2 hs hz cF d2
    go_wp2_with fail
    refine c1.out.mono ?_
    rintro e w1 ⟨rfl, n, rfl⟩
    go_wp2
    go_ret2
    exact ⟨ret_ib e1.out.symm e2.out.symm, chainN (chain hbW hB) n⟩
   ·have d2 : decide (ds l (o : Int) ≤ 2) = false := decide_eq_false h2
    have hz2 : Hid (∀ k : Nat, (A : Int) ≤ (k : Int) → k < o + 1 → 2 < ds l (k : Int)) := Lib.hid (fun k g1 g2 => by
     by_cases hk : k = o
     ·rw [hk]; omega
     ·exact hz.out k g1 (by omega))
    have c1 := cF.out o ho wr b hce
    rw [d2] at c1
    replace c1 := Lib.hid c1
    have hB2 := fun n => chainN hB n
    replace hB2 := Lib.hid hB2
    clear h2 hz cF d2
    go_wp2_with fail
    refine c1.out.mono ?_
    rintro e w1 ⟨rfl, n, rfl⟩
    go_wp2
    go_roundw
    case rel => exact ⟨o + 1, by go_num, by omega, by omega, hz2, hB2.out n⟩
    case measure => simp [intOf]; omega
  ·have d1 : decide ((o : Int) ≤ (c.size : Int) - 16) = false := decide_eq_false (by omega)
   have e : fd l (A : Int) = none := fd_none.2 fun k g1 g2 => hz.out k g1 (by rw [hll.out] at g2; omega)
   obtain ⟨e1, e2⟩ := fdIB_none e
   replace e1 := Lib.hid e1
   replace e2 := Lib.hid e2
   clear e hs hz cF
   go_wp2
   go_ret2
   exact ⟨ret_ib e1.out.symm e2.out.symm, chain hbW hB⟩
theorem find_any (c : ByteArray) (a : Int) (w : World) (hc : c.size ≤ 140737488351232) (a1 : -9223372036854775808 ≤ a) (a2 : a ≤ 9223372036854775807) :
  Calls Tryz.prog 23 #[.string c, .int .i64 a] w fun e w' => e = .returned (.tuple #[.int .i64 (fdI c.data.toList a), .bool (fdB c.data.toList a)]) ∧ Below w.heap.size w w' := by
 by_cases h : a < 0
 ·have e := fd_no_neg (l := c.data.toList) h
  have := find_core c a 0 w hc a1 a2 (by rw [if_pos h]; rfl) (by omega)
  unfold fdI fdB at *
  rw [e]
  exact this
 ·obtain ⟨A, rfl⟩ : ∃ A : Nat, a = A := ⟨a.toNat, by omega⟩
  exact find_core c (A : Int) A w hc a1 a2 (by rw [if_neg h]) (by omega)
end M12
namespace M12
open Go.RowKit Mem

theorem rmark_any (w : World) : Calls Tryz.prog 53 #[] w fun e w' => e = .returned (.string mkB) ∧ w = w' := by
 go_enter Tryz.func53, Tryz.ntmps53
 go_wp2
 go_ret
 exact ⟨rfl, rfl⟩
end M12
namespace M12
open Go.RowKit Mem
theorem size_list (a : ByteArray) : a.data.toList.length = a.size := by simp
end M12
namespace M12
open Go.RowKit Mem

def farB (l : List UInt8) (a : Int) : Bool := decide (a < -16) || decide ((l.length : Int) ≤ a)
theorem rfar_any (c : ByteArray) (a : Int) (w : World) (hc : c.size ≤ 9223372036854775807) : Calls Tryz.prog 95 #[.string c, .int .i64 a] w fun e w' => e = .returned (.bool (farB c.data.toList a)) ∧ w = w' := by
 unfold farB
 rw [size_list]
 rcases h1 : decide (a < -16) with _ | _
 ·obtain ⟨B, hB⟩ : ∃ B, decide ((c.size : Int) ≤ a) = B := ⟨_, rfl⟩
  rw [hB]
  go_enter Tryz.func95, Tryz.ntmps95
  go_wp2
  go_ret
  exact ⟨rfl, rfl⟩
 ·go_enter Tryz.func95, Tryz.ntmps95
  go_wp2
  go_ret
  exact ⟨rfl, rfl⟩
def rcell (c : ByteArray) (i : Int) : UInt8 := if 0 ≤ i then (c.data.toList[i.toNat]?).getD 0 else 0
theorem rcell_any (c : ByteArray) (a : Int) (w : World) (hc : c.size ≤ 9223372036854775807) : Calls Tryz.prog 96 #[.string c, .int .i64 a] w fun e w' => e = .returned (.int .u8 ((rcell c a).toNat : Int)) ∧ w = w' := by
 by_cases h0 : a < 0
 ·have e : rcell c a = 0 := by unfold rcell; rw [if_neg (by omega)]
  rw [e]
  have d1 : decide (a < 0) = true := decide_eq_true h0
  go_enter Tryz.func96, Tryz.ntmps96
  go_wp2
  go_ret
  exact ⟨rfl, rfl⟩
 ·have d1 : decide (a < 0) = false := decide_eq_false h0
  by_cases h1 : (c.size : Int) ≤ a
  ·have e : rcell c a = 0 := by
    unfold rcell
    rw [if_pos (by omega), List.getElem?_eq_none (by rw [size_list]; omega)]
    rfl
   rw [e]
   have d2 : decide ((c.size : Int) ≤ a) = true := decide_eq_true h1
   go_enter Tryz.func96, Tryz.ntmps96
   go_wp2
   go_ret
   exact ⟨rfl, rfl⟩
  ·obtain ⟨A, rfl⟩ : ∃ A : Nat, a = A := ⟨a.toNat, by omega⟩
   have hA : A < c.size := by omega
   have e : rcell c (A : Int) = c[A]'hA := by
    unfold rcell
    rw [if_pos (by omega)]
    show (c.data.toList[A]?).getD 0 = _
    rw [List.getElem?_eq_getElem (by rw [size_list]; exact hA)]
    rfl
   rw [e]
   have d2 : decide ((c.size : Int) ≤ (A : Int)) = false := decide_eq_false h1
   have A0 : (0 : Int) ≤ (A : Int) := by omega
   have A1 : (A : Int) < (c.size : Int) := by omega
   go_enter Tryz.func96, Tryz.ntmps96
   go_wp2
   go_ret
   exact ⟨rfl, rfl⟩
end M12
namespace M12
open Go.RowKit Mem

theorem rcell_some {c : ByteArray} {i : Int} {j : Nat} (h : i = j) (hj : j < c.size) : rcell c i = c.data.toList[j]'(by rw [size_list]; exact hj) := by
 rw [h]
 unfold rcell
 rw [if_pos (by omega)]
 show (c.data.toList[j]?).getD 0 = _
 rw [List.getElem?_eq_getElem (by rw [size_list]; exact hj)]
 rfl
theorem rcell_none {c : ByteArray} {i : Int} (h : i < 0 ∨ (c.size : Int) ≤ i) : rcell c i = 0 := by
 unfold rcell
 split
 ·rw [List.getElem?_eq_none (by rw [size_list]; omega)]
  rfl
 ·rfl
theorem none_at {c : ByteArray} {a : Int} {k : Nat} (h : a + k < 0 ∨ (c.size : Int) ≤ a + k) : cellAt c.data.toList a k = none := by
 rcases h with h | h
 ·exact cell_neg h
 ·exact cell_past (by rw [size_list]; exact h)
theorem rmm {c : ByteArray} {a : Int} {k : Nat} (hk : k < 16) : mm c.data.toList a k = (((rcell c (a + k)).toNat : Int) != ((((ByteArray.mk #[49, 49, 49, 49, 49, 48, 48, 49, 49, 48, 49, 48, 49, 48, 48, 48])[k]'hk).toNat : Nat) : Int)) := by
 rw [← u8_neI]
 by_cases h : a + k < 0 ∨ (c.size : Int) ≤ a + k
 ·rw [mm_none hk (none_at h), rcell_none h]
  show true = (0 != mk[k]'hk)
  rcases mk_cell hk with e | e <;> rw [e] <;> rfl
 ·obtain ⟨j, hj⟩ : ∃ j : Nat, a + (k : Int) = j := ⟨(a + k).toNat, by omega⟩
  have hjs : j < c.size := by omega
  rw [mm_in hk hj (by rw [size_list]; exact hjs), rcell_some hj hjs]
  rfl
theorem far_cases {l : List UInt8} {a : Int} : (farB l a = true ∧ ds l a = 16 ∧ pp l a = false) ∨ (farB l a = false ∧ -16 ≤ a ∧ a < (l.length : Int)) := by
 unfold farB
 by_cases h : a < -16 ∨ (l.length : Int) ≤ a
 ·refine .inl ⟨by rw [Bool.or_eq_true, decide_eq_true_eq, decide_eq_true_eq]; exact h, ds_far (by omega), pp_far (by omega)⟩
 ·refine .inr ⟨by rw [Bool.or_eq_false_iff, decide_eq_false_iff_not, decide_eq_false_iff_not]; omega, by omega, by omega⟩
set_option maxHeartbeats 2000000 in
theorem rdistance_any (c : ByteArray) (a : Int) (w : World) (hc : c.size ≤ 140737488351232) :
  Calls Tryz.prog 54 #[.string c, .int .i64 a] w fun e w' => e = .returned (.int .i64 (ds c.data.toList a : Int)) ∧ w = w' := by
 have cF := Lib.hid (fun W => rfar_any c a W (by omega))
 have cM := Lib.hid (fun W => rmark_any W)
 rcases far_cases (l := c.data.toList) (a := a) with ⟨h1, h2, _⟩ | ⟨h1, h2, h3⟩
 ·rw [h1] at cF
  rw [h2]
  go_enter Tryz.func54, Tryz.ntmps54
  go_wp2_with (go_at_call 95; refine (cF.out _).mono ?_; rintro e w1 ⟨rfl, rfl⟩)
  go_ret
  exact ⟨rfl, rfl⟩
 ·rw [h1] at cF
  rw [size_list] at h3
  have hmm := fun (k : Nat) (hk : k < 16) => rmm (c := c) (a := a) hk
  have cC := fun (k : Nat) (W : World) => rcell_any c (a + (k : Int)) W (by omega)
  obtain ⟨l, hl⟩ : ∃ l, c.data.toList = l := ⟨_, rfl⟩
  rw [hl] at hmm ⊢
  replace hmm := Lib.hid hmm
  replace cC := Lib.hid cC
  unfold mkB at cM
  clear hl h1
  go_enter Tryz.func54, Tryz.ntmps54
  go_wp2_with (go_at_call 95; refine (cF.out _).mono ?_; rintro e w1 ⟨rfl, rfl⟩)
  clear cF
  go_loopw [5, 6] (fun u i wr => ∃ k : Nat, k ≤ 16 ∧ i = .int .i64 k ∧ u = .int .i64 (dsTo l a k) ∧ w = wr) (fun _ i _ => 16 - (intOf i).toNat)
  case atStart => exact ⟨0, Nat.zero_le _, rfl, rfl, rfl⟩
  case round =>
   obtain ⟨k, hk, rfl, rfl, rfl⟩ := hrel
   have hd := dsTo_le l a k
   by_cases hlt : k < 16
   ·have hm := hmm.out k hlt
    have cC1 := cC.out k
    obtain ⟨X, hX⟩ : ∃ X, rcell c (a + (k : Int)) = X := ⟨_, rfl⟩
    rw [hX] at hm cC1
    obtain ⟨B, hB⟩ : ∃ B, mm l a k = B := ⟨_, rfl⟩
    rw [hB] at hm
    replace cC1 := Lib.hid cC1
    replace hm := hm.symm
    clear hX hmm cC
    rcases B with _ | _
    ·have hn := Lib.hid (dsTo_no hB)
     clear hB
     go_wp2_with fail
     refine (cC1.out _).mono ?_
     rintro e w1 ⟨rfl, rfl⟩
     go_wp2_with (go_at_call 53; refine (cM.out _).mono ?_; rintro e w1 ⟨rfl, rfl⟩)
     go_roundw
     case rel => exact ⟨k + 1, by omega, by go_num, by rw [hn.out], trivial⟩
     case measure => simp [intOf]; omega
    ·have hn := Lib.hid (dsTo_yes hB)
     clear hB
     go_wp2_with fail
     refine (cC1.out _).mono ?_
     rintro e w1 ⟨rfl, rfl⟩
     go_wp2_with (go_at_call 53; refine (cM.out _).mono ?_; rintro e w1 ⟨rfl, rfl⟩)
     go_roundw
     case rel => exact ⟨k + 1, by omega, by go_num, by rw [hn.out]; go_num, trivial⟩
     case measure => simp [intOf]; omega
   ·obtain rfl : k = 16 := by omega
    go_wp2
    go_ret
    exact ⟨rfl, rfl⟩
end M12
end Go.Proofs.YtiodkllckcpinaaGreatDoor
