/- What the reference's Decode of layer 10 reads off its table. -/
import Derived.Test.YtmkmikegddafdaaV10Ref3
namespace Go.Proofs.Ytmkmikegddafdaa.V10
open Go.RowKit Mem C9
set_option linter.unusedVariables false
set_option linter.unusedSimpArgs false

theorem dec_drop : ∀ (R : List (UInt8 × UInt8)) (s1 s2 : Bool) (k : Nat), (dec R s1 s2).drop k = dec (R.drop k) (fin s1 s2 ((dec R s1 s2).take k)).1 (fin s1 s2 ((dec R s1 s2).take k)).2
  | R, s1, s2, 0 => rfl
  | [], s1, s2, k + 1 => rfl
  | r :: R, s1, s2, k + 1 => by
    obtain ⟨u, hu⟩ : ∃ u, dec (r :: R) s1 s2 = u :: dec R u s1 := by
      by_cases h : (tb R false s1).1 < 0 ∨ (mm r s1 s2 false : Int) + (tb R false s1).1 ≠ (tb (r :: R) s1 s2).1
      · exact ⟨true, if_pos h⟩
      · exact ⟨false, if_neg h⟩
    rw [hu]
    exact dec_drop R u s1 k
/-- The bit at a place, by the table. -/
theorem dec_bit (R : List (UInt8 × UInt8)) (k : Nat) (h : k < R.length) (h' : k < (dec R false false).length) (s1 s2 : Bool) (hs : fin false false ((dec R false false).take k) = (s1, s2)) :
    (dec R false false)[k] = decide ((tb (R.drop (k + 1)) false s1).1 < 0 ∨ (mm R[k] s1 s2 false : Int) + (tb (R.drop (k + 1)) false s1).1 ≠ (tb (R.drop k) s1 s2).1) := by
  have h1 := dec_drop R false false k
  rw [hs, List.drop_eq_getElem_cons h', List.drop_eq_getElem_cons h] at h1
  rw [List.drop_eq_getElem_cons h]
  have e : dec (R[k] :: R.drop (k + 1)) s1 s2 = if (tb (R.drop (k + 1)) false s1).1 < 0 ∨ (mm R[k] s1 s2 false : Int) + (tb (R.drop (k + 1)) false s1).1 ≠ (tb (R[k] :: R.drop (k + 1)) s1 s2).1 then true :: dec (R.drop (k + 1)) true s1 else false :: dec (R.drop (k + 1)) false s1 := rfl
  simp only at h1
  rw [e] at h1
  by_cases hc : (tb (R.drop (k + 1)) false s1).1 < 0 ∨ (mm R[k] s1 s2 false : Int) + (tb (R.drop (k + 1)) false s1).1 ≠ (tb (R[k] :: R.drop (k + 1)) s1 s2).1
  · rw [if_pos hc] at h1
    rw [decide_eq_true hc]
    injection h1
  · rw [if_neg hc] at h1
    rw [decide_eq_false hc]
    injection h1
theorem Tab.cost {W : World} {g : Nat} {c : ByteArray} {m : Nat} (h : Tab W g c m) (q s : Nat) (hq : q ≤ m) (hs : s < 4) : W.cell? ⟨g, q * 8 + s * 2, none⟩ = some (.int .i64 (rowE ((rc c).drop q) s).1) ∧ W.cell? ⟨g, q * 8 + s * 2 + 1, none⟩ = some (.int .i64 ((rowE ((rc c).drop q) s).2 : Int)) :=
  ⟨(h.cells q hq (s * 2) (by omega)).trans (ents_at1 _ s hs), (h.cells q hq (s * 2 + 1) (by omega)).trans (ents_at2 _ s hs)⟩
theorem rowE_at (R : List (UInt8 × UInt8)) (s1 s2 : Bool) : rowE R (stN s1 s2) = tb R s1 s2 := by cases s1 <;> cases s2 <;> rfl
theorem info_byte10 : (Try.prog.info? 5).map (fun i => (i.zero, i.size, i.bytes)) = some (some (.int .u8 0), 1, 1) := by kernel_rfl
theorem dS_err' {c : ByteArray} (h : eB c ≠ 0) : dS c = ⟨#[]⟩ ∧ dN c = 0 ∧ dB c = false := by
  unfold dS dN dB
  rw [if_neg h, if_neg h, if_neg h]
  exact ⟨rfl, rfl, rfl⟩
end Go.Proofs.Ytmkmikegddafdaa.V10
