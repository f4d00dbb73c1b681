/- Tokens and labels in memory. No walk here. -/
import Derived.Test.YtpnnkdgoaeibbaaDoorRows
import Derived.Test.YtpnnkdgoaeibbaaDoorA18More
import Derived.Test.YtpnnkdgoaeibbaaDoorS14Rd
import Derived.Lib.Hide
import Derived.Laws.MakeOwn
import Derived.RangeFuncRecord
import Derived.ChangeSame
import Derived.WalkKit
import Derived.ProofKit
import Derived.WalkSpells
import Derived.WalkLawsBesides
import Derived.BigQuiet
import Derived.Deep.QuietTactic
import Derived.Deep.RegionHeld3
namespace Go.Proofs.YtpnnkdgoaeibbaaDoor.A18
set_option maxRecDepth 100000
open Go.RowKit Mem
open Go.Proofs.YtpnnkdgoaeibbaaDoor.S14 (rd_slice flat_get flat_len Rd.struct)
set_option linter.unusedVariables false
set_option linter.unusedSimpArgs false

/-- A list of structs of a string and a number in a slice. -/
def enc2 (p : List UInt8 × Int) : List Value := [strV p.1, .int .i64 p.2]
theorem enc2_len (p : List UInt8 × Int) : (enc2 p).length = 2 := rfl
def tokI (t : Tok) : List UInt8 × Int := (t.1, (t.2 : Int))
/-- A slice of such structs that is read. -/
structure IsPs (w : World) (A : Option Addr) (n cap : Nat) (l : List (List UInt8 × Int)) : Prop where
  len : l.length = n
  le : n ≤ cap
  capm : cap ≤ maxLen
  nil : A = none → cap = 0
  rd : Rd w A (l.flatMap enc2)
theorem IsPs.below {w w1 : World} {A : Option Addr} {n cap : Nat} {l} (h : IsPs w A n cap l) (k : Below w.heap.size w w1) : IsPs w1 A n cap l := ⟨h.len, h.le, h.capm, h.nil, h.rd.below k⟩
theorem IsPs.get {w : World} {A : Option Addr} {n cap : Nat} {l} (h : IsPs w A n cap l) {i : Nat} (hi : i < l.length) : ∃ b o : Nat, A = some ⟨b, o, none⟩ ∧ b < w.heap.size ∧ w.cell? ⟨b, o + i * 2, none⟩ = some (strV l[i].1) ∧ w.cell? ⟨b, o + i * 2 + 1, none⟩ = some (.int .i64 l[i].2) := by
  obtain ⟨b, o, e, hb, hc⟩ := Rd.struct enc2_len h.rd (by decide) hi
  exact ⟨b, o, e, hb, hc 0 _ rfl, hc 1 _ rfl⟩
theorem IsPs.at {w : World} {A : Option Addr} {n cap : Nat} {l : List (List UInt8 × Int)} (h : IsPs w A n cap l) {i : Nat} (hi : i < n) : ∃ (T : List UInt8) (z : Int) (b o : Nat), l[i]? = some (T, z) ∧ A = some ⟨b, o, none⟩ ∧ b < w.heap.size ∧ w.cell? ⟨b, o + i * 2, none⟩ = some (strV T) ∧ w.cell? ⟨b, o + i * 2 + 1, none⟩ = some (.int .i64 z) := by
  have hl : i < l.length := by have := h.len; omega
  obtain ⟨b, o, h1, h2, h3, h4⟩ := h.get hl
  exact ⟨l[i].1, l[i].2, b, o, List.getElem?_eq_getElem hl, h1, h2, h3, h4⟩
theorem IsPs.none_ (w : World) : IsPs w none 0 0 [] := ⟨rfl, Nat.le_refl _, by decide, fun _ => rfl, fun j h => by simp at h⟩
theorem rd_own2 {w : World} {base n cap : Nat} {e : TypeId} {A : Option Addr} {xs : List Value} (h : w.ownsRow base e 2 (.slice A n cap) n xs) : Rd w A xs := fun j hj => by
  have hl := h.1
  rcases h.2 with ⟨h0, h1⟩ | ⟨g, cap', cur, hv, _⟩
  · omega
  · injection hv with hA _ _
    subst hA
    exact ⟨g, 0, rfl, (h.lt g rfl).2, by rw [Nat.zero_add, h.cellAt j (by omega), List.getElem?_eq_getElem hj]⟩
theorem own2_slice {w : World} {base n s : Nat} {e : TypeId} {v : Value} {xs : List Value} (h : w.ownsRow base e s v n xs) : ∃ A cap, v = .slice A n cap ∧ n ≤ cap ∧ cap ≤ maxLen ∧ (A = none → cap = 0) := by
  rcases h.2 with ⟨rfl, h0⟩ | ⟨g, cap, cur, rfl, _, _, hn, hm, _⟩
  · subst h0; exact ⟨none, 0, rfl, Nat.le_refl _, by decide, fun _ => rfl⟩
  · exact ⟨_, cap, rfl, hn, hm, fun e => by cases e⟩
theorem IsPs.of_own {w : World} {base n : Nat} {e : TypeId} {v : Value} {l : List (List UInt8 × Int)} (h : w.ownsRow base e 2 v n (l.flatMap enc2)) (hn : l.length = n) : ∃ A cap, v = .slice A n cap ∧ IsPs w A n cap l := by
  obtain ⟨A, cap, rfl, h1, h2, h3⟩ := own2_slice h
  exact ⟨A, cap, rfl, hn, h1, h2, h3, rd_own2 h⟩
theorem list_new (w : World) (l : List Value) (t : TypeId) : ∀ j u, l[j]? = some u → (w.alloc (.cells l.toArray t)).cell? ((⟨w.heap.size, 0, none⟩ : Addr).add j) = some u := by
  intro j u hj
  rw [add_at, World.cell?_alloc_new]
  simpa using hj
theorem two_si (S : ByteArray) (z : Int) : ∀ u ∈ ([.string S, .int .i64 z] : List Value), u.oneCell' = true := fun u hu => by
  rcases List.mem_cons.1 hu with rfl | hu
  · rfl
  · rw [List.mem_singleton.1 hu]; rfl
theorem enc2_snoc (l : List (List UInt8 × Int)) (p : List UInt8 × Int) : (l ++ [p]).flatMap enc2 = l.flatMap enc2 ++ [strV p.1, .int .i64 p.2] := by
  rw [List.flatMap_append]; rfl
theorem own_none (w : World) (base : Nat) (e : TypeId) (s : Nat) : w.ownsRow base e s (.slice none 0 0) 0 [] := ⟨by simp, .inl ⟨rfl, rfl⟩⟩
/-- A string's part as a list. -/
theorem ext_list (s : ByteArray) (a b : Nat) : (s.extract a b).data.toList = (s.data.toList.drop a).take (b - a) := by
  rw [ByteArray.data_extract, Array.toList_extract]
theorem str_of (l : List UInt8) (s : ByteArray) (h : s.data.toList = l) : (⟨l.toArray⟩ : ByteArray) = s := by subst h; rfl
theorem ba_get (S : ByteArray) (k : Nat) (h : k < S.size) : S.data.toList[k]'(by simpa using h) = S[k] := by simp [ByteArray.getElem_eq_getElem_data]
theorem drop_get (S : ByteArray) (k : Nat) (h : k < S.size) : S.data.toList.drop k = S[k] :: S.data.toList.drop (k + 1) := by
  rw [← ba_get S k h, List.getElem_cons_drop]
theorem str_cat (a b : List UInt8) : (⟨a.toArray⟩ : ByteArray) ++ ⟨b.toArray⟩ = ⟨(a ++ b).toArray⟩ := by
  apply ByteArray.ext
  rw [ByteArray.data_append]
  simp
theorem own_mono {w : World} {base base' e size n : Nat} {v : Value} {xs : List Value} (h : w.ownsRow base e size v n xs) (hb : base' ≤ base) : w.ownsRow base' e size v n xs := ⟨h.1, h.2.imp id fun ⟨g, cap, cur, h1, h2, h3⟩ => ⟨g, cap, cur, h1, Nat.le_trans hb h2, h3⟩⟩
end Go.Proofs.YtpnnkdgoaeibbaaDoor.A18
