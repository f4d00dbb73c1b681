/- Program texts in memory; which runs begin. No walk here. -/
import Derived.Test.YthmgocjmfhpafaaDoorM17Mem
import Derived.Test.YthmgocjmfhpafaaDoorS14Rd
namespace Go.Proofs.YthmgocjmfhpafaaDoor.M17
set_option maxRecDepth 100000
open Go.RowKit Mem
open Go.Proofs.YthmgocjmfhpafaaDoor.S14 (rd_slice flat_get flat_len Rd.struct)
set_option linter.unusedVariables false
set_option linter.unusedSimpArgs false

def encT (t : Txt) : List Value := [.int .i64 t.1, .string t.2]
theorem encT_len (t : Txt) : (encT t).length = 2 := rfl
def FitT (t : Txt) : Prop := (-9223372036854775808 ≤ t.1 ∧ t.1 ≤ 9223372036854775807) ∧ t.2.size ≤ maxLen
/-- A slice of texts. -/
structure IsTxts (w : World) (A : Option Addr) (n cap : Nat) (ts : List Txt) : Prop where
  len : ts.length = n
  le : n ≤ cap
  capm : cap ≤ maxLen
  nil : A = none → cap = 0
  rd : Rd w A (ts.flatMap encT)
  fit : ∀ t ∈ ts, FitT t
theorem IsTxts.below {w w1 : World} {A : Option Addr} {n cap : Nat} {ts : List Txt} (h : IsTxts w A n cap ts) (k : Below w.heap.size w w1) : IsTxts w1 A n cap ts := ⟨h.len, h.le, h.capm, h.nil, h.rd.below k, h.fit⟩
/-- One text, read. -/
theorem IsTxts.get {w : World} {A : Option Addr} {n cap : Nat} {ts : List Txt} (h : IsTxts w A n cap ts) {i : Nat} (hi : i < ts.length) : ∃ b o : Nat, A = some ⟨b, o, none⟩ ∧ b < w.heap.size ∧ w.cell? ⟨b, o + i * 2, none⟩ = some (.int .i64 ts[i].1) ∧ w.cell? ⟨b, o + i * 2 + 1, none⟩ = some (.string ts[i].2) := by
  obtain ⟨b, o, e, hb, hc⟩ := Rd.struct encT_len h.rd (by decide) hi
  exact ⟨b, o, e, hb, hc 0 _ rfl, hc 1 _ rfl⟩
/-- The error because of which a run does not begin. -/
def chk (ts : List Txt) (start steps : Int) : Nat :=
  if start < 0 ∨ 262144 ≤ start then 2
  else if ¬ ∀ t ∈ ts, fits t then 2
  else if 100000000 < steps then 6
  else if steps ≤ 0 then 13
  else 0
theorem ans_bad {ts : List Txt} {start steps : Int} {inp : List Nat} (h : chk ts start steps ≠ 0) : ans ts start inp steps = ⟨[], chk ts start steps, 0⟩ := by
  unfold ans chk at *
  split
  · rfl
  split
  · rfl
  split
  · rfl
  split
  · rfl
  · rename_i h1 h2 h3 h4
    rw [if_neg h1, if_neg h2, if_neg h3, if_neg h4] at h
    exact absurd rfl h
theorem ans_good {ts : List Txt} {start steps : Int} {inp : List Nat} (h : chk ts start steps = 0) : (0 ≤ start ∧ start < 262144) ∧ (∀ t ∈ ts, fits t) ∧ (0 < steps ∧ steps ≤ 100000000) ∧ ans ts start inp steps = run steps.toNat (init ts start.toNat inp) := by
  unfold chk at h
  split at h
  · cases h
  split at h
  · cases h
  split at h
  · cases h
  split at h
  · cases h
  · rename_i h1 h2 h3 h4
    refine ⟨by omega, Decidable.not_not.1 h2, by omega, ?_⟩
    unfold ans
    rw [if_neg h1, if_neg h2, if_neg h3, if_neg h4]
theorem chk_range {ts : List Txt} {start steps : Int} (h : start < 0 ∨ 262144 ≤ start) : chk ts start steps = 2 := if_pos h
theorem chk_text {ts : List Txt} {start steps : Int} {t : Txt} (ht : t ∈ ts) (h : ¬ fits t) : chk ts start steps = 2 := by
  unfold chk
  split
  · rfl
  · rw [if_pos fun h' => h (h' t ht)]
theorem chk_limit {ts : List Txt} {start steps : Int} (h0 : 0 ≤ start) (h1 : start < 262144) (ht : ∀ t ∈ ts, fits t) (h : 100000000 < steps) : chk ts start steps = 6 := by
  unfold chk
  rw [if_neg (by omega), if_neg (fun h' => h' ht), if_pos h]
theorem chk_steps {ts : List Txt} {start steps : Int} (h0 : 0 ≤ start) (h1 : start < 262144) (ht : ∀ t ∈ ts, fits t) (h : steps ≤ 0) : chk ts start steps = 13 := by
  unfold chk
  rw [if_neg (by omega), if_neg (fun h' => h' ht), if_neg (by omega), if_pos h]
theorem chk_ok {ts : List Txt} {start steps : Int} (h0 : 0 ≤ start) (h1 : start < 262144) (ht : ∀ t ∈ ts, fits t) (h : 0 < steps) (h' : steps ≤ 100000000) : chk ts start steps = 0 := by
  unfold chk
  rw [if_neg (by omega), if_neg (fun h' => h' ht), if_neg (by omega), if_neg (by omega)]
/-! ### What has been placed -/
theorem placed_take (ts : List Txt) (k : Nat) (h : k < ts.length) : placed (ts.take (k + 1)) = place (placed (ts.take k)) ts[k] := by
  unfold placed
  rw [List.take_succ_eq_append_getElem h, List.foldl_append]
  rfl
/-- The first j characters of a text. -/
def placeTo (m : Nat → Nat) (t : Txt) (j : Nat) : Nat → Nat := fun i => if t.1.toNat ≤ i ∧ i < t.1.toNat + j then codeAt t.2 (i - t.1.toNat) else m i
theorem placeTo_zero (m : Nat → Nat) (t : Txt) : placeTo m t 0 = m := by
  funext i
  unfold placeTo
  rw [if_neg (by omega)]
theorem placeTo_all (m : Nat → Nat) (t : Txt) : placeTo m t t.2.size = place m t := rfl
theorem placeTo_succ (m : Nat → Nat) (t : Txt) (j : Nat) : upd (placeTo m t j) (t.1.toNat + j) (codeAt t.2 j) = placeTo m t (j + 1) := by
  funext i
  unfold upd placeTo
  by_cases e : i = t.1.toNat + j
  · subst e
    rw [if_pos rfl, if_pos (by omega), Nat.add_sub_cancel_left]
  · rw [if_neg e]
    by_cases h : t.1.toNat ≤ i ∧ i < t.1.toNat + j
    · rw [if_pos h, if_pos (by omega)]
    · rw [if_neg h, if_neg (by omega)]
/-- A text's copy, as a loop makes it. -/
theorem codeAt_get (c : ByteArray) (j : Nat) (h : j < c.size) : codeAt c j = (c[j]).toNat := by
  unfold codeAt
  have h' : j < c.data.size := h
  rw [List.getD_eq_getElem?_getD, Array.getElem?_toList, Array.getElem?_eq_getElem h']
  rfl
end Go.Proofs.YthmgocjmfhpafaaDoor.M17
