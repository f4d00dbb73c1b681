/- The laws' helper awake of layer 15: the examples of the chapter. -/
import Derived.Test.YtcakdhnlgeiodaaE15OwnA
namespace Go.Proofs.Ytcakdhnlgeiodaa.E15
set_option maxRecDepth 100000
open Go.RowKit Mem S14
open Go.Proofs.Ytcakdhnlgeiodaa.G5 Go.Proofs.Ytcakdhnlgeiodaa.G7
open Go.Proofs.Ytcakdhnlgeiodaa.G6 (IsSl rs rs_len rs_get rs_set rs_one rs_snoc make_zeros zeros_at own_zeros info_byte u8s conv_sl)
set_option linter.unusedVariables false
set_option linter.unusedSimpArgs false

theorem ex_one : (List.range (1 : Int).toNat).map (fun j => stD [[1#8], [2#8]] (([[1#8], [2#8]] : List (List R)).headD []).length (pt (([[1#8], [2#8]] : List (List R)).length + j))) = [[7#8]] := by decide +kernel
theorem ex_two : (List.range (3 : Int).toNat).map (fun j => stD [[120#8, 121#8]] (([[120#8, 121#8]] : List (List R)).headD []).length (pt (([[120#8, 121#8]] : List (List R)).length + j))) = [[120#8, 121#8], [120#8, 121#8], [120#8, 121#8]] := by decide +kernel
theorem lit_bs (w : World) (t : TypeId) (l : List (List R)) (hl : l.length ≤ 1000) : IsBs (w.alloc (.cells (bs l).toArray t)) (some ⟨w.heap.size, 0, none⟩) l.length l.length l :=
  ⟨rfl, Nat.le_refl _, by unfold maxLen; omega, (fun e => by cases e), fun j hj => ⟨w.heap.size, 0, rfl, by simp, by
    rw [Nat.zero_add, World.cell?_alloc_new, ← List.getElem?_eq_getElem hj, List.getElem?_toArray]⟩⟩
theorem enc_one (w : World) (cap : Nat) (l : List (List R)) (m : Int) (hm : -9223372036854775808 ≤ m ∧ m ≤ 9223372036854775807) (r : List (List R)) (hl : l.length ≤ 1000) (hs : ∀ b ∈ l, b.length ≤ 1000000) (hb : ¬ EncBad l m) (hr : (List.range m.toNat).map (fun j => stD l (l.headD []).length (pt (l.length + j))) = r) :
    Calls Try.prog 13 #[.slice (some ⟨w.heap.size, 0, none⟩) l.length l.length, .int .i64 m] (w.alloc (.cells (bs l).toArray 9)) fun e w' => ∃ A c, e = .returned (.tuple #[.slice A r.length c, .int .i64 0]) ∧ IsBs w' A r.length c r ∧ Below w.heap.size w w' := by
  have h := encode_own m hm (lit_bs w 9 l hl) hs
  refine h.mono ?_
  rintro e w' ⟨k, bl, A, c, hq, rfl, hB, hb'⟩
  have hk := hq.ok hb
  subst hk
  have := (hq.yes rfl).2
  rw [hr] at this
  subst this
  exact ⟨A, c, rfl, hB, ((Below.refl _ _).alloc (Nat.le_refl _) _).trans (hb'.mono (by simp))⟩
set_option maxHeartbeats 8000000 in
theorem awake_any (w : World) : Calls Try.prog 12 #[] w fun e w' => e = .returned (.bool true) ∧ Below w.heap.size w w' := by
  have c1 := enc_one w 2 [[1#8], [2#8]] 1 (by decide) _ (by decide) (by decide) (by unfold EncBad LenOk; decide) ex_one
  have c2 := fun W => enc_one W 1 [[120#8, 121#8]] 3 (by decide) _ (by decide) (by decide) (by unfold EncBad LenOk; decide) ex_two
  have e1 : (bs [[1#8], [2#8]]).toArray = #[.string ⟨#[1]⟩, .string ⟨#[2]⟩] := rfl
  have e2 : (bs [[120#8, 121#8]]).toArray = #[.string ⟨#[120, 121]⟩] := rfl
  rw [e1] at c1
  rw [e2] at c2
  replace c1 := Lib.hid c1
  replace c2 := Lib.hid c2
  clear e1 e2
  go_enter Try.func12, Try.ntmps12
  go_wp2_with fail
  refine (c1.out).mono ?_
  rintro e w1 ⟨A1, k1, rfl, h1, hb1⟩
  go_wp2_with fail
  refine (c2.out _).mono ?_
  rintro e w2 ⟨A2, k2, rfl, h2, hb2⟩
  have h1 := h1.below hb2
  obtain ⟨x1, y1, rfl, -, g1⟩ := h1.get (k := 0) (by decide)
  obtain ⟨x2, y2, rfl, -, g2⟩ := h2.get (k := 0) (by decide)
  obtain ⟨x3, y3, e3, -, g3⟩ := h2.get (k := 2) (by decide)
  cases e3
  have q1 : w2.cell? ⟨x1, y1, none⟩ = some (.string ⟨#[7]⟩) := g1
  have q2 : w2.cell? ⟨x2, y2, none⟩ = some (.string ⟨#[120, 121]⟩) := g2
  have q3 : w2.cell? ⟨x2, y2 + 2, none⟩ = some (.string ⟨#[120, 121]⟩) := g3
  have hfin := Lib.hid (chain hb1 hb2)
  have s1 : ((⟨#[7]⟩ : ByteArray).toList == (⟨#[7]⟩ : ByteArray).toList) = true := by simp
  have s2 : ((⟨#[120, 121]⟩ : ByteArray).toList == (⟨#[120, 121]⟩ : ByteArray).toList) = true := by simp
  clear h1 h2 g1 g2 g3 hb1 hb2 c1 c2
  go_wp2
  go_ret
  exact ⟨rfl, hfin.out⟩
end Go.Proofs.Ytcakdhnlgeiodaa.E15
