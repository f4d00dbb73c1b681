/- The walk of the law LayoutRecoverable. -/
import Derived.Test.YtcfoclmkhippoaaL16Open
import Derived.Test.YtcfoclmkhippoaaL16Lp
import Derived.Test.YtcfoclmkhippoaaL16Ref3
import Derived.Test.YtcfoclmkhippoaaG8App
namespace Go.Proofs.Ytcfoclmkhippoaa.L16
set_option maxRecDepth 100000
open Go.RowKit Mem
open Go.Proofs.Ytcfoclmkhippoaa.G8 (is is_len is_get is_snoc is_append IsInts info_int step_append_row)
set_option linter.unusedVariables false
set_option linter.unusedSimpArgs false

/-- The list from behind and from the front, number by number. -/
def twi (l : List Int) (k : Nat) : List Int := (List.range k).flatMap fun i => [l.getD (l.length - 1 - i) 0, l.getD i 0]
theorem twi_succ (l : List Int) (k : Nat) : twi l (k + 1) = twi l k ++ [l.getD (l.length - 1 - k) 0, l.getD k 0] := by
  unfold twi
  rw [List.range_succ, List.flatMap_append]
  simp
theorem twi_len (l : List Int) (k : Nat) : (twi l k).length = 2 * k := by
  induction k with
  | zero => rfl
  | succ k ih =>
    rw [twi_succ, List.length_append, ih]
    simp
    omega
theorem mem_getD {l : List Int} {k : Nat} (h : k < l.length) : l.getD k 0 ∈ l := by
  rw [List.getD_eq_getElem?_getD, List.getElem?_eq_getElem h]
  exact List.getElem_mem h
theorem twi_mem {l : List Int} {z : Int} : z ∈ twi l l.length ↔ z ∈ l := by
  unfold twi
  rw [List.mem_flatMap]
  constructor
  · rintro ⟨i, hi, hz⟩
    have hi := List.mem_range.1 hi
    rcases List.mem_cons.1 hz with rfl | hz
    · exact mem_getD (by omega)
    · rw [List.mem_singleton.1 hz]
      exact mem_getD hi
  · intro h
    obtain ⟨i, hi, e⟩ := List.getElem_of_mem h
    refine ⟨i, List.mem_range.2 hi, List.mem_cons_of_mem _ (List.mem_singleton.2 ?_)⟩
    rw [List.getD_eq_getElem?_getD, List.getElem?_eq_getElem hi]
    exact e.symm
theorem twi_fit {l : List Int} (h : ∀ z ∈ l, F64 z) : ∀ z ∈ twi l l.length, F64 z := fun z hz => h z (twi_mem.1 hz)
theorem twi_rec (D S : Int) (l : List Int) : RecQ D S (twi l l.length) ↔ RecQ D S l := by
  unfold RecQ
  rw [rcn_congr (l := twi l l.length) (m := l) fun k _ => twi_mem]
theorem int_two (x y : Int) : ∀ u ∈ ([.int .i64 x, .int .i64 y] : List Value), u.oneCell' = true := fun u hu => by
  rcases List.mem_cons.1 hu with rfl | hu
  · rfl
  · rw [List.mem_singleton.1 hu]; rfl
set_option maxHeartbeats 8000000 in
theorem walk_recoverable (D S : Int) (A : Option Addr) (n c : Nat) (l : List Int) (w : World) (h : IsInts w A c l) (hn : l.length = n) :
    Calls Try.prog 8 #[lyV D S, .slice A n c] w fun e w' => e = .returned (.bool true) ∧ Below w.heap.size w w' := by
  have cA := fun W => alive_any W
  have hP := LB.new w D S 23
  obtain ⟨W0, hW0⟩ : ∃ W0, w.alloc (.cells #[.int .i64 D, .int .i64 S] 23) = W0 := ⟨_, rfl⟩
  rw [hW0] at hP
  obtain ⟨G, hG⟩ : ∃ A, w.heap.size = A := ⟨_, rfl⟩
  rw [hG] at hP
  have hGh := Lib.hid hG
  have hle := h.hle
  have hcap := h.hcap
  have hn63 : (n : Int) ≤ 9223372036854775807 := by omega
  replace cA := Lib.hid cA
  replace hP := Lib.hid hP
  unfold lyV
  by_cases hbig : 200 < n
  · have t1 : decide ((200 : Int) < (n : Int)) = true := decide_eq_true (by omega)
    have t2 : decide (200 < n) = true := decide_eq_true hbig
    clear hbig h hle hcap
    go_enter Try.func8, Try.ntmps8
    go_wp2_with fail
    refine (cA.out _).mono ?_
    rintro e w1 ⟨rfl, hb1⟩
    have hfin := Lib.hid (hP.out.next hb1).bel
    clear hP hb1 hW0
    go_wp2
    go_ret
    exact ⟨rfl, hfin.out⟩
  have t1 : decide ((200 : Int) < (n : Int)) = false := decide_eq_false (by omega)
  have t2 : decide (200 < n) = false := decide_eq_false hbig
  have n200 : (n : Int) ≤ 200 := by omega
  have n200' : n ≤ 200 := by omega
  have hfit : ∀ z ∈ twi l l.length, F64 z := twi_fit h.fit
  have c1 := fun (W : World) (hb : Below w.heap.size w W) => rrecov_any D S W (h.below hb) hn (by omega)
  have c2 := fun (W : World) (hb : Below w.heap.size w W) => recov_own D S W (h.below hb) hn (by omega)
  have c3 := fun (W : World) (A' : Option Addr) (c' : Nat) (m : Nat) (h' : IsInts W A' c' (twi l l.length)) (hm : (twi l l.length).length = m) (hm2 : m ≤ 1000) => recov_own D S W h' hm hm2
  have hread := fun j hj => h.read j hj
  unfold lyV at c1 c2 c3
  obtain ⟨i0, hi, hi0, hi1, hi2⟩ := info_parts info_int
  replace c1 := Lib.hid c1
  replace c2 := Lib.hid c2
  replace c3 := Lib.hid c3
  replace hread := Lib.hid hread
  replace hfit := Lib.hid hfit
  replace hn := Lib.hid hn
  replace hle := Lib.hid hle
  replace hcap := Lib.hid hcap
  clear hbig h
  go_enter Try.func8, Try.ntmps8
  go_wp2_with fail
  refine (cA.out _).mono ?_
  rintro e w1 ⟨rfl, hb1⟩
  replace hP := Lib.hid (hP.out.next hb1)
  clear hW0 hb1
  go_wp2
  go_loopw [5, 6] (fun tv iv wr => ∃ (k : Nat) (v : Value), v = tv ∧ iv = .int .i64 (k : Int) ∧ k ≤ n ∧ Hid (wr.ownsRow (G + 1) 3 1 v (2 * k) (is (twi l k))) ∧ Hid (LB w wr G D S)) (fun _ iv _ => n - (intOf iv).toNat)
  case atStart => exact ⟨0, _, rfl, rfl, Nat.zero_le _, Lib.hid (World.ownsRow_nil _ _ _ _), hP⟩
  case round =>
    clear hP
    obtain ⟨k, v, rfl, rfl, hk, hrow, hP⟩ := hrel
    by_cases hlt : k < n
    · have dk : decide ((k : Int) < (n : Int)) = true := decide_eq_true (by omega)
      have k0 : (0 : Int) ≤ (k : Int) := by omega
      have k1 : (k : Int) < (n : Int) := by omega
      obtain ⟨j, hj⟩ : ∃ j, n - 1 - k = j := ⟨_, rfl⟩
      obtain ⟨b, o, rfl, hbl, g0⟩ := hread.out k (by have := hn.out; omega)
      obtain ⟨b', o', e', _, g1⟩ := hread.out j (by have := hn.out; omega)
      cases e'
      have htw := twi_succ l k
      rw [hn.out, hj] at htw
      obtain ⟨x, hx⟩ : ∃ x, l.getD k 0 = x := ⟨_, rfl⟩
      obtain ⟨y, hy⟩ : ∃ y, l.getD j 0 = y := ⟨_, rfl⟩
      have hfxx : -9223372036854775808 ≤ x ∧ x ≤ 9223372036854775807 := by rw [← hx]; exact hfit.out _ (twi_mem.2 (mem_getD (by have := hn.out; omega)))
      have hfy : -9223372036854775808 ≤ y ∧ y ≤ 9223372036854775807 := by rw [← hy]; exact hfit.out _ (twi_mem.2 (mem_getD (by have := hn.out; omega)))
      rw [hx] at g0 htw
      rw [hy] at g1 htw
      have e1 : (n : Int) - 1 - (k : Int) = (j : Int) := by omega
      have j0 : (0 : Int) ≤ (j : Int) := by omega
      have j1 : (j : Int) < (n : Int) := by omega
      obtain ⟨n1, hn1⟩ : ∃ n1, n - 1 = n1 := ⟨_, rfl⟩
      have e2 : (n : Int) - 1 = (n1 : Int) := by omega
      have e3 : (n1 : Int) - (k : Int) = (j : Int) := by omega
      have hst : twi l (k + 1) = twi l k ++ [y, x] := htw
      replace hst := Lib.hid hst
      clear htw hx hy hj hn1
      have hfx : ∀ z ∈ [y, x], -9223372036854775808 ≤ z ∧ z ≤ 9223372036854775807 := by
        intro z hz
        simp only [List.mem_cons, List.not_mem_nil, or_false] at hz
        rcases hz with rfl | rfl
        · exact hfy
        · exact hfxx
      have hro := hrow.out
      have hbase : G + 1 ≤ wr.heap.size := hP.out.lt
      have keep0 := Below.refl (G + 1) wr
      have keep1 : ∀ W, Below (G + 1) wr W → Below (G + 1) wr (World.drew W) := fun W h => h.drew
      have keep2 : ∀ W (ob : Obj), Below (G + 1) wr W → Below (G + 1) wr (World.alloc W ob) := fun W ob h => h.alloc (Nat.le_trans hbase h.size) ob
      have hbG : b < G + 1 := by have := hGh.out; omega
      have g0 : ∀ W, Below (G + 1) wr W → W.cell? ⟨b, o + k, none⟩ = some (.int .i64 x) := fun W h => (h.cell (p := ⟨b, o + k, none⟩) hbG).trans ((hP.out.bel.cell (p := ⟨b, o + k, none⟩) hbl).trans g0)
      have g1 : ∀ W, Below (G + 1) wr W → W.cell? ⟨b, o + j, none⟩ = some (.int .i64 y) := fun W h => (h.cell (p := ⟨b, o + j, none⟩) hbG).trans ((hP.out.bel.cell (p := ⟨b, o + j, none⟩) hbl).trans g1)
      have w1' : IntKind.i64.wrap (n1 : Int) = (n1 : Int) := by rw [IntKind.wrap_i64]; omega
      have w2' : IntKind.i64.wrap (j : Int) = (j : Int) := by rw [IntKind.wrap_i64]; omega
      clear hbl hbG
      go_wp2_with fail
      go_region_held3 (fun W => Below (G + 1) wr W) (first | exact keep0 | exact keep1 _ keep0 | exact keep2 _ _ keep0 | exact keep1 _ (keep2 _ _ keep0) | exact keep2 _ _ (keep1 _ keep0) | exact Below.trans (keep1 _ (keep2 _ _ keep0)) ‹_› | exact Below.trans (keep2 _ _ (keep1 _ keep0)) ‹_› | assumption) ((refine step_append_row (by rfl) _ _ (by rfl) (G + 1) _ (2 * k) (twi l k) wr.heap.size 0 2 2 [y, x] (by rfl) (show World.ownsRow _ _ _ _ _ _ _ from hro.alloc _) (by rfl) (IsInts.made wr 3 [y, x] #[.int .i64 y, .int .i64 x] _ 2 rfl rfl rfl (by decide) hfx).drew rfl (by omega) (by decide) (by simp; omega) ?_; intro v' w5 hrow5 hbel5))
      have hP5 := Lib.hid (hP.out.above (Below.trans (keep1 _ (keep2 _ _ keep0)) hbel5))
      rw [← hst.out] at hrow5
      replace hrow5 := Lib.hid hrow5
      clear hro keep0 keep1 keep2 g0 g1 hbel5 hrow hP hst hread
      go_wp2
      go_roundw
      case rel => exact ⟨k + 1, _, rfl, by go_num, by omega, hrow5, hP5⟩
      case measure => simp [intOf]; omega
    · obtain rfl : k = n := by omega
      have dk : decide ((k : Int) < (k : Int)) = false := decide_eq_false (by omega)
      obtain ⟨A2, c2', rfl, _, _⟩ := own_slice hrow.out
      have hrw := hrow.out
      have hnk := hn.out
      have e2k : (twi l k) = twi l l.length := by rw [hnk]
      rw [e2k] at hrw
      obtain ⟨hI, hIl⟩ := IsInts.of_own hrw hfit.out
      have c1' := Lib.hid (c1.out wr hP.out.bel)
      have x0 := hP.out.c0
      have x1 := hP.out.c1
      replace hI := Lib.hid hI
      clear hrw hread hrow c1
      go_wp2_with fail
      refine (c1'.out).mono ?_
      rintro e w2 ⟨⟨q, rfl, hq⟩, hb2⟩
      replace hI := Lib.hid (hI.out.below hb2)
      replace hP := Lib.hid (hP.out.next hb2)
      have c2'' := Lib.hid (c2.out w2 hP.out.bel)
      replace hq := Lib.hid hq
      clear x0 x1 hb2 c1' c2
      have x0 := hP.out.c0
      have x1 := hP.out.c1
      go_wp2_with fail
      refine (c2''.out).mono ?_
      rintro e w3 ⟨⟨q2, rfl, hq2⟩, hb3⟩
      obtain rfl : q2 = q := by rw [Bool.eq_iff_iff, hq2, hq.out]
      replace hI := Lib.hid (hI.out.below hb3)
      replace hP := Lib.hid (hP.out.next hb3)
      have c3' := Lib.hid (c3.out w3 _ _ (2 * k) hI.out (by rw [hIl]) (by omega))
      have t3 : (q2 == q2) = true := by simp
      clear x0 x1 hb3 hq2 c2'' c3
      have x0 := hP.out.c0
      have x1 := hP.out.c1
      go_wp2_with fail
      refine (c3'.out).mono ?_
      rintro e w4 ⟨⟨q3, rfl, hq3⟩, hb4⟩
      obtain rfl : q3 = q2 := by rw [Bool.eq_iff_iff, hq3, hq.out, twi_rec]
      have hfin := Lib.hid (hP.out.next hb4).bel
      clear x0 x1 hb4 hq3 c3' hq hI hP
      go_wp2
      go_ret
      exact ⟨rfl, hfin.out⟩
/-- The same at what the reading says. -/
theorem row_recoverable (D S : Int) (A : Option Addr) (n c : Nat) (zs : List Int) (w : World) (hD : (Lit.int .i64 D).wf = true) (hS : (Lit.int .i64 S).wf = true) (hr : Mem.IsRow .i64 w A n c zs) : Calls Try.prog 8 #[lyV D S, .slice A n c] w fun e w' => e = .returned (.bool true) ∧ Below w.heap.size w w' := by
  obtain ⟨l, hn, h⟩ := IsInts.of_row hr
  exact walk_recoverable D S A n c l w h hn
end Go.Proofs.Ytcfoclmkhippoaa.L16
