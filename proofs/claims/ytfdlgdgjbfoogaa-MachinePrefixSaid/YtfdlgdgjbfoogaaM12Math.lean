/- The mathematics of layer 12: marks, distances, the first offset. No program. -/
import Derived.Test.YtfdlgdgjbfoogaaMem
namespace Go.Proofs.Ytfdlgdgjbfoogaa.M12
/-- The mark, and the plain mark. -/
def mkB : ByteArray := ⟨#[49, 49, 49, 49, 49, 48, 48, 49, 49, 48, 49, 48, 49, 48, 48, 48]⟩
def plB : ByteArray := ⟨#[48, 48, 48, 48, 48, 49, 49, 48, 48, 49, 48, 49, 48, 49, 49, 49]⟩
def mk : List UInt8 := mkB.data.toList
def pl : List UInt8 := plB.data.toList
/-- The cell at an offset plus i, if there is one. -/
def cellAt (l : List UInt8) (a : Int) (i : Nat) : Option UInt8 := if 0 ≤ a + i then l[(a + i).toNat]? else none
/-- Whether the cell is not the mark's; whether it is the plain mark's. -/
def mm (l : List UInt8) (a : Int) (i : Nat) : Bool := cellAt l a i != mk[i]?
def pm (l : List UInt8) (a : Int) (i : Nat) : Bool := cellAt l a i == pl[i]?
def dsTo (l : List UInt8) (a : Int) (k : Nat) : Nat := ((List.range k).filter (mm l a)).length
/-- The distance; whether a plain mark stands. -/
def ds (l : List UInt8) (a : Int) : Nat := dsTo l a 16
def pp (l : List UInt8) (a : Int) : Bool := (List.range 16).all (pm l a)
/-- Whether a mark is found; the first. -/
def fq (l : List UInt8) (a : Int) (o : Nat) : Bool := decide (a ≤ (o : Int)) && decide (ds l (o : Int) ≤ 2)
def fd (l : List UInt8) (a : Int) : Option Nat := (List.range (l.length - 15)).find? (fq l a)
def fdI (l : List UInt8) (a : Int) : Int := match fd l a with | some o => (o : Int) | none => 0
def fdB (l : List UInt8) (a : Int) : Bool := (fd l a).isSome

theorem dsTo_zero (l : List UInt8) (a : Int) : dsTo l a 0 = 0 := rfl
theorem dsTo_le (l : List UInt8) (a : Int) (k : Nat) : dsTo l a k ≤ k := by
  have := List.length_filter_le (mm l a) (List.range k)
  rwa [List.length_range] at this
theorem dsTo_yes {l : List UInt8} {a : Int} {k : Nat} (h : mm l a k = true) : dsTo l a (k + 1) = dsTo l a k + 1 := by
  unfold dsTo
  rw [List.range_succ, List.filter_append, List.length_append]
  simp [h]
theorem dsTo_no {l : List UInt8} {a : Int} {k : Nat} (h : mm l a k = false) : dsTo l a (k + 1) = dsTo l a k := by
  unfold dsTo
  rw [List.range_succ, List.filter_append, List.length_append]
  simp [h]
theorem ds_le (l : List UInt8) (a : Int) : ds l a ≤ 16 := dsTo_le l a 16
theorem mk_len : mk.length = 16 := rfl
theorem mk_some {k : Nat} (h : k < 16) : mk[k]? = some (mk[k]'h) := List.getElem?_eq_getElem h
/-- No cell there. -/
theorem mm_none {l : List UInt8} {a : Int} {k : Nat} (hk : k < 16) (h : cellAt l a k = none) : mm l a k = true := by
  unfold mm
  rw [h, mk_some hk]
  rfl
theorem cell_neg {l : List UInt8} {a : Int} {k : Nat} (h : a + k < 0) : cellAt l a k = none := by
  unfold cellAt
  rw [if_neg (by omega)]
theorem cell_past {l : List UInt8} {a : Int} {k : Nat} (h : (l.length : Int) ≤ a + k) : cellAt l a k = none := by
  unfold cellAt
  split
  · exact List.getElem?_eq_none (by omega)
  · rfl
theorem cell_in {l : List UInt8} {a : Int} {k c : Nat} (h : a + k = c) (hc : c < l.length) : cellAt l a k = some (l[c]'hc) := by
  unfold cellAt
  rw [h, if_pos (by omega)]
  exact List.getElem?_eq_getElem hc
theorem cell_nat (l : List UInt8) (a k : Nat) : cellAt l (a : Int) k = l[a + k]? := by
  unfold cellAt
  rw [if_pos (by omega)]
  rfl
theorem mm_in {l : List UInt8} {a : Int} {k c : Nat} (hk : k < 16) (h : a + k = c) (hc : c < l.length) : mm l a k = (l[c]'hc != mk[k]'hk) := by
  unfold mm
  rw [cell_in h hc, mk_some hk]
  rfl
theorem pm_none {l : List UInt8} {a : Int} {k : Nat} (hk : k < 16) (h : cellAt l a k = none) : pm l a k = false := by
  unfold pm
  rw [h, List.getElem?_eq_getElem (show k < pl.length from hk)]
  rfl
theorem pm_in {l : List UInt8} {a : Int} {k c : Nat} (hk : k < 16) (h : a + k = c) (hc : c < l.length) : pm l a k = (l[c]'hc == pl[k]'hk) := by
  unfold pm
  rw [cell_in h hc, List.getElem?_eq_getElem (show k < pl.length from hk)]
  rfl
/-- The same cells: the same distance. -/
theorem dsTo_congr {l l' : List UInt8} {a a' : Int} (n : Nat) (h : ∀ k, k < n → cellAt l a k = cellAt l' a' k) : dsTo l a n = dsTo l' a' n := by
  unfold dsTo
  congr 1
  refine List.filter_congr fun k hk => ?_
  unfold mm
  rw [h k (List.mem_range.1 hk)]
theorem ds_congr {l l' : List UInt8} {a a' : Int} (h : ∀ k, k < 16 → cellAt l a k = cellAt l' a' k) : ds l a = ds l' a' := dsTo_congr 16 h
theorem pp_congr {l l' : List UInt8} {a a' : Int} (h : ∀ k, k < 16 → cellAt l a k = cellAt l' a' k) : pp l a = pp l' a' := by
  unfold pp
  rw [Bool.eq_iff_iff, List.all_eq_true, List.all_eq_true]
  constructor <;> intro H k hk
  · have := H k hk
    unfold pm at *
    rwa [← h k (List.mem_range.1 hk)]
  · have := H k hk
    unfold pm at *
    rwa [h k (List.mem_range.1 hk)]
theorem dsTo_none {l : List UInt8} {a : Int} : ∀ n, n ≤ 16 → (∀ k, k < n → cellAt l a k = none) → dsTo l a n = n
  | 0, _, _ => rfl
  | n + 1, hn, h => by rw [dsTo_yes (mm_none (by omega) (h n (by omega))), dsTo_none n (by omega) fun k hk => h k (by omega)]
theorem ds_far {l : List UInt8} {a : Int} (h : a < -15 ∨ (l.length : Int) ≤ a) : ds l a = 16 := dsTo_none 16 (by omega) fun k hk => by
  rcases h with h | h
  · exact cell_neg (by omega)
  · exact cell_past (by omega)
theorem pp_yes {l : List UInt8} {a : Int} : pp l a = true ↔ ∀ k, k < 16 → pm l a k = true := by
  unfold pp
  rw [List.all_eq_true]
  exact ⟨fun h k hk => h k (List.mem_range.2 hk), fun h k hk => h k (List.mem_range.1 hk)⟩
theorem pp_no {l : List UInt8} {a : Int} {k : Nat} (hk : k < 16) (h : pm l a k = false) : pp l a = false := by
  rw [Bool.eq_false_iff]
  intro h'
  rw [pp_yes.1 h' k hk] at h
  cases h
theorem pp_far {l : List UInt8} {a : Int} (h : a < 0 ∨ (l.length : Int) < a + 16) : pp l a = false := by
  rcases h with h | h
  · exact pp_no (k := 0) (by omega) (pm_none (by omega) (cell_neg (by omega)))
  · exact pp_no (k := 15) (by omega) (pm_none (by omega) (cell_past (by omega)))
theorem pp_take {l : List UInt8} {a : Nat} : pp l (a : Int) = true ↔ (l.drop a).take 16 = pl := by
  rw [pp_yes]
  constructor
  · intro h
    refine List.ext_getElem? fun k => ?_
    by_cases hk : k < 16
    · have h1 := h k hk
      unfold pm at h1
      rw [cell_nat] at h1
      rw [List.getElem?_take_of_lt hk, List.getElem?_drop]
      exact eq_of_beq h1
    · rw [List.getElem?_eq_none (by rw [List.length_take]; omega), List.getElem?_eq_none (show pl.length ≤ k by show 16 ≤ k; omega)]
  · intro h k hk
    unfold pm
    rw [cell_nat, ← h, List.getElem?_take_of_lt hk, List.getElem?_drop]
    exact beq_self_eq_true _
/-- The first offset. -/
theorem fd_some {l : List UInt8} {a : Int} {o : Nat} : fd l a = some o ↔ (a ≤ (o : Int) ∧ o + 16 ≤ l.length ∧ ds l (o : Int) ≤ 2 ∧ ∀ k : Nat, a ≤ (k : Int) → k < o → 2 < ds l (k : Int)) := by
  unfold fd
  rw [List.find?_range_eq_some]
  constructor
  · rintro ⟨h1, h2, h3⟩
    unfold fq at h1 h3
    rw [Bool.and_eq_true, decide_eq_true_eq, decide_eq_true_eq] at h1
    refine ⟨h1.1, by have := List.mem_range.1 h2; omega, h1.2, fun k ha hk => ?_⟩
    have := h3 k hk
    rw [decide_eq_true ha, Bool.true_and, Bool.not_eq_true', decide_eq_false_iff_not] at this
    omega
  · rintro ⟨h1, h2, h3, h4⟩
    refine ⟨?_, List.mem_range.2 (by omega), fun k hk => ?_⟩
    · unfold fq
      rw [decide_eq_true h1, decide_eq_true h3]
      rfl
    · unfold fq
      by_cases ha : a ≤ (k : Int)
      · have := h4 k ha hk
        rw [decide_eq_false (p := ds l (k : Int) ≤ 2) (by omega), Bool.and_false]
        rfl
      · rw [decide_eq_false ha]
        rfl
theorem fd_none {l : List UInt8} {a : Int} : fd l a = none ↔ ∀ k : Nat, a ≤ (k : Int) → k + 16 ≤ l.length → 2 < ds l (k : Int) := by
  unfold fd
  rw [List.find?_range_eq_none]
  constructor
  · intro h k ha hk
    have := h k (by omega)
    unfold fq at this
    rw [decide_eq_true ha, Bool.true_and, Bool.not_eq_true', decide_eq_false_iff_not] at this
    omega
  · intro h k hk
    unfold fq
    by_cases ha : a ≤ (k : Int)
    · have := h k ha (by omega)
      rw [decide_eq_false (p := ds l (k : Int) ≤ 2) (by omega), Bool.and_false]
      rfl
    · rw [decide_eq_false ha]
      rfl
theorem fd_no_neg {l : List UInt8} {a : Int} (h : a < 0) : fd l a = fd l 0 := by
  rcases h0 : fd l 0 with _ | o
  · rw [fd_none] at *
    exact fun k _ hk => h0 k (by omega) hk
  · rw [fd_some] at *
    exact ⟨by omega, h0.2.1, h0.2.2.1, fun k _ hk => h0.2.2.2 k (by omega) hk⟩
theorem fdIB_some {l : List UInt8} {a : Int} {o : Nat} (h : fd l a = some o) : fdI l a = (o : Int) ∧ fdB l a = true := by
  unfold fdI fdB
  rw [h]
  exact ⟨rfl, rfl⟩
theorem fdIB_none {l : List UInt8} {a : Int} (h : fd l a = none) : fdI l a = 0 ∧ fdB l a = false := by
  unfold fdI fdB
  rw [h]
  exact ⟨rfl, rfl⟩

/-- Cells before and behind. -/
theorem cell_shift (b l : List UInt8) (k i : Nat) : cellAt (b ++ l) ((b.length + k : Nat) : Int) i = cellAt l (k : Int) i := by
  rw [cell_nat, cell_nat, Nat.add_assoc, List.getElem?_append_right (by omega), Nat.add_sub_cancel_left]
theorem cell_more (l m : List UInt8) (k i : Nat) (h : k + i < l.length) : cellAt (l ++ m) (k : Int) i = cellAt l (k : Int) i := by
  rw [cell_nat, cell_nat, List.getElem?_append_left h]
theorem ds_shift (b l : List UInt8) (k : Nat) : ds (b ++ l) ((b.length + k : Nat) : Int) = ds l (k : Int) := ds_congr fun i _ => cell_shift b l k i
theorem ds_more (l m : List UInt8) {k : Nat} (h : k + 16 ≤ l.length) : ds (l ++ m) (k : Int) = ds l (k : Int) := ds_congr fun i _ => cell_more l m k i (by omega)
theorem pp_shift (b l : List UInt8) (k : Nat) : pp (b ++ l) ((b.length + k : Nat) : Int) = pp l (k : Int) := pp_congr fun i _ => cell_shift b l k i
theorem pp_more (l m : List UInt8) {k : Nat} (h : k + 16 ≤ l.length) : pp (l ++ m) (k : Int) = pp l (k : Int) := pp_congr fun i _ => cell_more l m k i (by omega)
theorem ds_context (b l f : List UInt8) {k : Nat} (h : k + 16 ≤ l.length) : ds (b ++ l ++ f) ((b.length + k : Nat) : Int) = ds l (k : Int) := by
  rw [ds_more _ _ (by rw [List.length_append]; omega), ds_shift]
theorem fd_shift (b l : List UInt8) (k : Nat) : fd (b ++ l) ((b.length + k : Nat) : Int) = (fd l (k : Int)).map (b.length + ·) := by
  rcases h0 : fd l (k : Int) with _ | o
  · rw [Option.map_none, fd_none]
    rw [fd_none] at h0
    intro j hj hl
    obtain ⟨i, rfl⟩ : ∃ i, j = b.length + i := ⟨j - b.length, by omega⟩
    rw [ds_shift]
    rw [List.length_append] at hl
    exact h0 i (by omega) (by omega)
  · rw [Option.map_some, fd_some]
    rw [fd_some] at h0
    obtain ⟨h1, h2, h3, h4⟩ := h0
    refine ⟨by omega, by rw [List.length_append]; omega, by rw [ds_shift]; exact h3, fun j hj hl => ?_⟩
    obtain ⟨i, rfl⟩ : ∃ i, j = b.length + i := ⟨j - b.length, by omega⟩
    rw [ds_shift]
    exact h4 i (by omega) (by omega)
theorem fd_ext_some {l : List UInt8} (m : List UInt8) {a : Int} {o : Nat} (h : fd l a = some o) : fd (l ++ m) a = some o := by
  rw [fd_some] at *
  obtain ⟨h1, h2, h3, h4⟩ := h
  refine ⟨h1, by rw [List.length_append]; omega, by rw [ds_more _ _ h2]; exact h3, fun k ha hk => ?_⟩
  rw [ds_more _ _ (by omega)]
  exact h4 k ha hk
theorem fd_ext_none {l m : List UInt8} {a : Int} {o : Nat} (h : fd l a = none) (h' : fd (l ++ m) a = some o) : l.length < o + 16 := by
  rw [fd_some] at h'
  rw [fd_none] at h
  by_cases ho : o + 16 ≤ l.length
  · have h1 := h o h'.1 ho
    have h2 := h'.2.2.1
    rw [ds_more _ _ ho] at h2
    omega
  · omega
/-- A mark that was changed: the distance, and whether it is found. -/
theorem fd_here {l : List UInt8} {a : Nat} (h : a + 16 ≤ l.length) : fd l (a : Int) = some a ↔ ds l (a : Int) ≤ 2 := by
  rw [fd_some]
  exact ⟨fun h => h.2.2.1, fun h' => ⟨by omega, h, h', fun k _ _ => by omega⟩⟩
theorem ds_mid (b m f : List UInt8) (h : m.length = 16) : ds (b ++ m ++ f) (b.length : Int) = ds m 0 := ds_context b m f (k := 0) (by omega)
theorem pp_mid (b m f : List UInt8) (h : m.length = 16) : pp (b ++ m ++ f) (b.length : Int) = pp m 0 := by
  rw [pp_more _ _ (by rw [List.length_append]; omega)]
  exact pp_shift b m 0
theorem pp_all {m : List UInt8} (h : m.length = 16) : pp m 0 = true ↔ m = pl := by
  rw [show (0 : Int) = ((0 : Nat) : Int) from rfl, pp_take, List.drop_zero, List.take_of_length_le (by omega)]
theorem ds_pl : ds pl 0 = 16 := by decide
theorem inv_pl : pl = mk.map fun x => 97 - x := by decide
theorem pp_short (b l : List UInt8) : pp ((b ++ l).take (b.length + 15)) (b.length : Int) = false := pp_far (.inr (by rw [List.length_take]; omega))
theorem pp_set {b f : List UInt8} {j : Nat} (hj : j < 16) (c : UInt8) : pp ((b ++ pl ++ f).set (b.length + j) c) (b.length : Int) = (c == pl[j]'hj) := by
  rw [List.append_assoc, List.set_append_right _ _ (by omega), Nat.add_sub_cancel_left, List.set_append_left _ _ (show j < pl.length from hj), ← List.append_assoc,
    pp_mid _ _ _ (by rw [List.length_set]; rfl), Bool.eq_iff_iff, pp_all (by rw [List.length_set]; rfl), beq_iff_eq]
  constructor
  · intro h
    have := congrArg (fun l => l[j]?) h
    simp only [List.getElem?_set_self (show j < pl.length from hj), List.getElem?_eq_getElem (show j < pl.length from hj), Option.some.injEq] at this
    exact this
  · rintro rfl
    exact List.set_getElem_self _
theorem pl_get {b f : List UInt8} {j : Nat} (hj : j < 16) (h : b.length + j < (b ++ pl ++ f).length) : (b ++ pl ++ f)[b.length + j]'h = pl[j]'hj := by
  have : (b ++ pl ++ f)[b.length + j]? = some (pl[j]'hj) := by
    rw [List.append_assoc, List.getElem?_append_right (by omega), Nat.add_sub_cancel_left, List.getElem?_append_left (show j < pl.length from hj)]
    exact List.getElem?_eq_getElem (show j < pl.length from hj)
  rw [List.getElem?_eq_getElem h] at this
  exact Option.some.inj this
/-- The mark, changed: 0 makes a cell unreadable, 1 inverts it. -/
def nw (x m : UInt8) : UInt8 := if x % 8 = 0 then 63 else if x % 8 = 1 then 97 - m else m
def cg (x : UInt8) : Bool := decide (x % 8 = 0) || decide (x % 8 = 1)
def chg (ch : List UInt8) (k : Nat) : List UInt8 := ((ch.zip mk).map fun p => nw p.1 p.2).take k ++ mk.drop k
def cnt (ch : List UInt8) (k : Nat) : Nat := ((ch.take k).filter cg).length
theorem chg_len {ch : List UInt8} (h : ch.length = 16) {k : Nat} (hk : k ≤ 16) : (chg ch k).length = 16 := by
  unfold chg
  rw [List.length_append, List.length_take, List.length_map, List.length_zip, h, mk_len, List.length_drop, mk_len]
  omega
theorem chg_zero (ch : List UInt8) : chg ch 0 = mk := rfl
theorem cnt_zero (ch : List UInt8) : cnt ch 0 = 0 := rfl
theorem cnt_le (ch : List UInt8) (k : Nat) : cnt ch k ≤ k := by
  have := List.length_filter_le cg (ch.take k)
  rw [List.length_take] at this
  unfold cnt
  omega
theorem chg_step {ch : List UInt8} (h : ch.length = 16) {k : Nat} (hk : k < 16) : chg ch (k + 1) = (chg ch k).set k (nw (ch[k]'(by omega)) (mk[k]'hk)) := by
  have hz : k < ((ch.zip mk).map fun p => nw p.1 p.2).length := by rw [List.length_map, List.length_zip, h, mk_len]; omega
  unfold chg
  have hd : mk.drop k = mk[k]'hk :: mk.drop (k + 1) := List.drop_eq_getElem_cons hk
  rw [hd, List.set_append_right _ _ (by rw [List.length_take]; omega), List.length_take, Nat.min_eq_left (by omega), Nat.sub_self, List.set_cons_zero, List.take_succ_eq_append_getElem hz, List.append_assoc]
  congr 2
  rw [List.getElem_map, List.getElem_zip]
  rfl
theorem chg_same {ch : List UInt8} (h : ch.length = 16) {k : Nat} (hk : k < 16) (hx : nw (ch[k]'(by omega)) (mk[k]'hk) = mk[k]'hk) : chg ch (k + 1) = chg ch k := by
  rw [chg_step h hk, hx]
  refine List.ext_getElem? fun i => ?_
  rw [List.getElem?_set]
  split
  · next hi =>
    subst hi
    rw [if_pos (by rw [chg_len h (by omega)]; exact hk)]
    unfold chg
    have hz : ((ch.zip mk).map fun p => nw p.1 p.2).length = 16 := by rw [List.length_map, List.length_zip, h, mk_len]; rfl
    rw [List.getElem?_append_right (by rw [List.length_take]; omega), List.length_take, hz, Nat.min_eq_left (by omega), Nat.sub_self, List.getElem?_drop]
    exact (List.getElem?_eq_getElem hk).symm
  · rfl
theorem chg_get {ch : List UInt8} (h : ch.length = 16) {k i : Nat} (hki : k ≤ i) (hi : i < 16) : (chg ch k)[i]? = some (mk[i]'hi) := by
  have hz : ((ch.zip mk).map fun p => nw p.1 p.2).length = 16 := by rw [List.length_map, List.length_zip, h, mk_len]; rfl
  unfold chg
  rw [List.getElem?_append_right (by rw [List.length_take]; omega), List.length_take, hz, Nat.min_eq_left (by omega), List.getElem?_drop, show k + (i - k) = i by omega]
  exact List.getElem?_eq_getElem hi
theorem cnt_yes {ch : List UInt8} {k : Nat} (hk : k < ch.length) (h : cg (ch[k]'hk) = true) : cnt ch (k + 1) = cnt ch k + 1 := by
  unfold cnt
  rw [List.take_succ_eq_append_getElem hk, List.filter_append, List.length_append]
  simp [h]
theorem cnt_no {ch : List UInt8} {k : Nat} (hk : k < ch.length) (h : cg (ch[k]'hk) = false) : cnt ch (k + 1) = cnt ch k := by
  unfold cnt
  rw [List.take_succ_eq_append_getElem hk, List.filter_append, List.length_append]
  simp [h]
theorem mk_cell {k : Nat} (hk : k < 16) : mk[k]'hk = 48 ∨ mk[k]'hk = 49 := by
  have : ∀ k : Fin 16, mk[k.1]'k.2 = 48 ∨ mk[k.1]'k.2 = 49 := by decide
  exact this ⟨k, hk⟩
theorem nw_ne {x m : UInt8} (hm : m = 48 ∨ m = 49) : (nw x m != m) = cg x := by
  unfold nw cg
  split
  · next h => rw [decide_eq_true h, Bool.true_or]; rcases hm with rfl | rfl <;> rfl
  · next h =>
    rw [decide_eq_false h, Bool.false_or]
    split
    · next h => rw [decide_eq_true h]; rcases hm with rfl | rfl <;> rfl
    · next h => rw [decide_eq_false h]; exact bne_self_eq_false m
theorem ds_chg {ch : List UInt8} (h : ch.length = 16) : ds (chg ch 16) 0 = cnt ch 16 := by
  have hl := chg_len h (k := 16) (by omega)
  have : ∀ k, k ≤ 16 → dsTo (chg ch 16) 0 k = cnt ch k := by
    intro k
    induction k with
    | zero => exact fun _ => rfl
    | succ k ih =>
      intro hk
      have hm : mm (chg ch 16) 0 k = cg (ch[k]'(by omega)) := by
        rw [mm_in (c := k) (by omega) (by omega) (by omega), ← nw_ne (mk_cell (show k < 16 by omega))]
        congr 1
        have : (chg ch 16)[k]? = some (nw (ch[k]'(by omega)) (mk[k]'(show k < 16 by omega))) := by
          unfold chg
          rw [List.drop_eq_nil_of_le (show mk.length ≤ 16 from Nat.le_refl _), List.append_nil, List.getElem?_take_of_lt (by omega), List.getElem?_map, List.getElem?_eq_getElem (by rw [List.length_zip, h, mk_len]; omega)]
          rw [List.getElem_zip]
          rfl
        rw [List.getElem?_eq_getElem (by omega)] at this
        exact Option.some.inj this
      rcases hc : cg (ch[k]'(by omega)) with _ | _
      · rw [dsTo_no (hm.trans hc), cnt_no (by omega) hc, ih (by omega)]
      · rw [dsTo_yes (hm.trans hc), cnt_yes (by omega) hc, ih (by omega)]
  exact this 16 (by omega)
end Go.Proofs.Ytfdlgdgjbfoogaa.M12
