/- The laws' boxes of a layout and of a position, through calls; the laws' helper alive: the examples of the chapter. -/
import Derived.Test.YtcfoclmkhippoaaL16Own5
import Derived.Laws.StructEq
namespace Go.Proofs.Ytcfoclmkhippoaa.L16
set_option maxRecDepth 100000
open Go.RowKit Mem
open Go.Proofs.Ytcfoclmkhippoaa.G5 Go.Proofs.Ytcfoclmkhippoaa.G7 Go.Proofs.Ytcfoclmkhippoaa.E15
set_option linter.unusedVariables false
set_option linter.unusedSimpArgs false

/-- A layout's box at A, and what was made since w. -/
structure LB (w W : World) (A : Nat) (D S : Int) : Prop where
  bel : Below w.heap.size w W
  ly : VAt W A [.int .i64 D, .int .i64 S]
  wa : w.heap.size ≤ A
  lt : A < W.heap.size
theorem LB.next {w W W' : World} {A : Nat} {D S : Int} (h : LB w W A D S) (k : Below W.heap.size W W') : LB w W' A D S :=
  ⟨chain h.bel k, h.ly.below k h.lt, h.wa, Nat.lt_of_lt_of_le h.lt k.size⟩
theorem LB.above {w W W' : World} {A : Nat} {D S : Int} (h : LB w W A D S) (k : Below (A + 1) W W') : LB w W' A D S :=
  ⟨h.bel.trans (k.mono (Nat.le_succ_of_le h.wa)), h.ly.below k (Nat.lt_succ_self _), h.wa, Nat.lt_of_lt_of_le h.lt k.size⟩
theorem LB.drewN {w W : World} {A : Nat} {D S : Int} (h : LB w W A D S) (n : Nat) : LB w (W.drewN n) A D S := h.next (chainN (Below.refl _ _) n)
theorem LB.new (w : World) (D S : Int) (T : TypeId) : LB w (w.alloc (.cells #[.int .i64 D, .int .i64 S] T)) w.heap.size D S :=
  ⟨boxed _ _, vat_alloc w T [.int .i64 D, .int .i64 S], Nat.le_refl _, by simp⟩
theorem LB.c0 {w W : World} {A : Nat} {D S : Int} (h : LB w W A D S) : W.cell? ⟨A, 0, none⟩ = some (.int .i64 D) := (Cells2.of h.ly).c0
theorem LB.c1 {w W : World} {A : Nat} {D S : Int} (h : LB w W A D S) : W.cell? ⟨A, 1, none⟩ = some (.int .i64 S) := (Cells2.of h.ly).c1
/-- The same with a position's box at B. -/
structure LP (w W : World) (A B : Nat) (D S s r o : Int) : Prop where
  lb : LB w W A D S
  ps : VAt W B [.int .i64 s, .int .i64 r, .int .i64 o]
  ab : A < B
  lt : B < W.heap.size
theorem LP.next {w W W' : World} {A B : Nat} {D S s r o : Int} (h : LP w W A B D S s r o) (k : Below W.heap.size W W') : LP w W' A B D S s r o :=
  ⟨h.lb.next k, h.ps.below k h.lt, h.ab, Nat.lt_of_lt_of_le h.lt k.size⟩
theorem LP.new (w : World) (D S s r o : Int) (T T' : TypeId) : LP w ((w.alloc (.cells #[.int .i64 D, .int .i64 S] T)).alloc (.cells #[.int .i64 s, .int .i64 r, .int .i64 o] T')) w.heap.size (w.heap.size + 1) D S s r o := by
  obtain ⟨hm, hq⟩ := lyps_made w D S T T' [.int .i64 s, .int .i64 r, .int .i64 o]
  have hs := hm.size
  exact ⟨⟨hm.bel, hm.ly, Nat.le_refl _, by rw [show (w.alloc (.cells #[.int .i64 D, .int .i64 S] T)).alloc (.cells #[.int .i64 s, .int .i64 r, .int .i64 o] T') = (w.alloc (.cells #[.int .i64 D, .int .i64 S] T)).alloc (.cells [.int .i64 s, .int .i64 r, .int .i64 o].toArray T') from rfl]; omega⟩, hq, Nat.lt_succ_self _, by rw [show (w.alloc (.cells #[.int .i64 D, .int .i64 S] T)).alloc (.cells #[.int .i64 s, .int .i64 r, .int .i64 o] T') = (w.alloc (.cells #[.int .i64 D, .int .i64 S] T)).alloc (.cells [.int .i64 s, .int .i64 r, .int .i64 o].toArray T') from rfl]; omega⟩
theorem LP.cells {w W : World} {A B : Nat} {D S s r o : Int} (h : LP w W A B D S s r o) : Cells3 W B (.int .i64 s) (.int .i64 r) (.int .i64 o) := Cells3.of h.ps
/-- A position just made. -/
theorem pos_new (w : World) (s r o : Int) (T : TypeId) : Cells3 (w.alloc (.cells #[.int .i64 s, .int .i64 r, .int .i64 o] T)) w.heap.size (.int .i64 s) (.int .i64 r) (.int .i64 o) := Cells3.of (vat_alloc w T [.int .i64 s, .int .i64 r, .int .i64 o])
/-- The position's offset is one less. -/
theorem LP.less {w W : World} {A B : Nat} {D S s r o : Int} (h : LP w W A B D S s r o) (o' : Int) : LP w (W.setCell ⟨B, 2, none⟩ (.int .i64 o')) A B D S s r o' :=
  ⟨⟨h.lb.bel.setCell (p := ⟨B, 2, none⟩) (Nat.le_trans h.lb.wa (Nat.le_of_lt h.ab)) _, h.lb.ly.far (Nat.ne_of_gt h.ab) _, h.lb.wa, by simpa using h.lb.lt⟩, h.ps.set (k := 2) (show 2 < 3 by decide) _, h.ab, by simpa using h.lt⟩
theorem stsq_ok {n S : Nat} {x : List R} {k : Int} {L : List (List (List R))} (hL : Lok (n : Int) (S : Int)) (h : StsQ (n : Int) (S : Int) x k L) : k = 0 ∧ L = sts n S x := by
  rcases h.err with e | e
  · exact ⟨e, (h.yes e).2⟩
  · exact absurd hL (h.no e).1
theorem sts_getD {n S : Nat} (x : List R) {i : Nat} (h : i < cnt n x.length) : (sts n S x).getD i [] = stp n S x (i * (28 * n)) := by
  rw [List.getD_eq_getElem?_getD, List.getElem?_eq_getElem (by rw [sts_len]; exact h)]
  exact fro_get x h
theorem int_one (x : Int) : ∀ u ∈ ([.int .i64 x] : List Value), u.oneCell' = true := fun u hu => by rw [List.mem_singleton.1 hu]; rfl
theorem loc_ex {s r o k : Int} (h : LocQ 2 0 60 s r o k) : s = 1 ∧ r = 0 ∧ o = 4 ∧ k = 0 := by
  have h' : LocQ 2 0 60 1 0 4 0 := ⟨Or.inl rfl, fun _ => ⟨⟨by decide, by decide, by decide, by decide⟩, by decide, by decide, ⟨by decide, by decide, by decide, by decide, by decide, by decide⟩⟩, fun h => absurd h (by decide)⟩
  exact h.only h'
theorem sts_ex {x : List R} (hx : x.length = 100) {k : Int} {L : List (List (List R))} (h : StsQ 2 0 x k L) : k = 0 ∧ L.length = 2 := by
  rcases h.err with e | e
  · refine ⟨e, ?_⟩
    rw [(h.yes e).2, sts_len, hx]
    decide
  · exact absurd ⟨by decide, by decide, by decide, by decide⟩ (h.no e).1
set_option maxHeartbeats 4000000 in
theorem alive_any (w : World) : Calls Try.prog 10 #[] w fun e w' => e = .returned (.bool true) ∧ Below w.heap.size w w' := by
  have c1 := loc_own 2 0 60 ⟨by decide, by decide⟩ w
  have c2 := fun W => Try.strings_Repeat ⟨#[120]⟩ 100 W (by decide) (by decide)
  have c3 := fun (X : ByteArray) (h : X.size = 100) W => sts_own 2 0 X (by omega) W
  rw [show ((100 : Nat) : Int) = 100 from rfl] at c2
  unfold lyV at c1 c3
  have hz : (⟨(Lib.repeatL (ByteArray.mk #[120]).data.toList 100).toArray⟩ : ByteArray).size = 100 := by decide +kernel
  obtain ⟨X, hX⟩ : ∃ X : ByteArray, ⟨(Lib.repeatL (ByteArray.mk #[120]).data.toList 100).toArray⟩ = X := ⟨_, rfl⟩
  rw [hX] at c2 hz
  have c3 := c3 X hz
  replace c1 := Lib.hid c1
  replace c2 := Lib.hid c2
  replace c3 := Lib.hid c3
  replace hz := Lib.hid hz
  clear hX
  go_enter Try.func10, Try.ntmps10
  go_wp2_with fail
  refine (c1.out).mono ?_
  rintro e w1 ⟨s, r, o, k, hq, rfl, hb1⟩
  obtain ⟨rfl, rfl, rfl, rfl⟩ := loc_ex hq
  unfold psV
  have hv := vat_alloc w1 25 [.int .i64 1, .int .i64 0, .int .i64 4]
  have hb2 := chain hb1 (boxed w1 (.cells #[.int .i64 1, .int .i64 0, .int .i64 4] 25))
  have hs2 : (w1.alloc (.cells #[.int .i64 1, .int .i64 0, .int .i64 4] 25)).heap.size = w1.heap.size + 1 := by simp
  replace hv := Lib.hid hv
  replace hb2 := Lib.hid hb2
  clear c1 hq hb1
  go_wp2_with fail
  refine (c2.out _).mono ?_
  rintro e w2 ⟨rfl, hb3⟩
  have hv2 := Lib.hid (hv.out.below hb3 (by rw [hs2]; exact Nat.lt_succ_self _))
  have hb4 := Lib.hid (chain hb2.out hb3)
  have hw2 := Lib.hid (show w1.heap.size < w2.heap.size by have := hb3.size; omega)
  clear hv hb2 hs2 hb3 c2
  go_wp2_with fail
  refine (c3.out _).mono ?_
  rintro e w3 ⟨k, L, A, c, hq, rfl, -, hb5⟩
  obtain ⟨rfl, hL2⟩ := sts_ex (by rw [el_len]; exact hz.out) hq
  rw [hL2]
  obtain ⟨p0, p1, p2, _, _, _⟩ := Cells3.of (hv2.out.below hb5 hw2.out)
  have hfin := Lib.hid (chain hb4.out hb5)
  clear hv2 hb4 hw2 hb5 hq hL2 c3
  go_wp2
  go_ret
  exact ⟨rfl, hfin.out⟩
theorem chk_one (D S : Int) : ∃ K : Int, (∀ W, Calls Try.prog 15 #[.agg #[.int .i64 D, .int .i64 S]] W fun e w' => e = .returned (.int .i64 K) ∧ Below W.heap.size W w') ∧ ChkQ D S K := by
  have h1 := fun W => chk_own D S W
  unfold lyV at h1
  have hK : ∃ K, ChkQ D S K := by
    by_cases h : Lok D S
    · exact ⟨0, Or.inl ⟨rfl, h⟩⟩
    · exact ⟨2, Or.inr ⟨rfl, h⟩⟩
  obtain ⟨K, hK⟩ := hK
  refine ⟨K, fun W => (h1 W).mono ?_, hK⟩
  rintro e w' ⟨k, hk, rfl, hb⟩
  rw [hk.only hK]
  exact ⟨rfl, hb⟩
end Go.Proofs.Ytcfoclmkhippoaa.L16
