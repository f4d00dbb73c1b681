/- The laws' helper awake: the examples of the chapter; what the laws' walks share (layer 19). -/
import Derived.Test.YtpnnkdgoaeibbaaDoorL19Own5
import Derived.DataShut
import Derived.Deep.Cut
namespace Go.Proofs.YtpnnkdgoaeibbaaDoor.L19
set_option maxRecDepth 100000
open Go.RowKit Mem
open M17 (Laid Laid.below gPow tPow cPow cU64)
set_option linter.unusedVariables false
set_option linter.unusedSimpArgs false

theorem laid_of {W : World} (h : laidMetH Tryd.prog Rows.lexerLimitRow.laid W) : Laid W := by
  rw [MakeChecks.laidMetH_plain _ _ _ (by kernel_rfl)] at h
  have h3 : laidMet Tryd.prog (("internal/strconv.uint64pow10", Lib.tabData .u64 Lib.pow10Tab) :: ("unicode/utf8.acceptRanges", Rows.laid_unicode_utf8_acceptRanges) :: ("unicode/utf8.first", Rows.laid_unicode_utf8_first) :: []) W := h.tail.tail
  exact Lib.tabIs_of_head gPow tPow Tryd.underlying79 Tryd.underlying39 cU64 cPow h3
/-- A call of Tokens, with plain letters for its three results. -/
theorem Tokens_use (s : ByteArray) {ts : List Tok} {n e0 : Nat} (ha : ans s.data.toList = (ts, n, e0)) {len : Nat} (hl : ts.length = len) {ni ei : Int} (hni : (n : Int) = ni) (hei : (e0 : Int) = ei) (w : World) (hL : Laid w) :
    Calls Tryd.prog 9 #[.string s] w fun e w' => ∃ (A : Option Addr) (cap : Nat), e = .returned (.tuple #[.slice A len cap, .int .i64 ni, .int .i64 ei]) ∧ IsTk w' A len cap ts ∧ Below w.heap.size w w' := by
  subst hl hni hei
  refine (Tokens_any s w hL).mono fun e w' h => ?_
  rw [ha] at h
  obtain ⟨v, he, hown, hb⟩ := h
  obtain ⟨A, cap, rfl, hI⟩ := IsTk.of_own hown rfl
  exact ⟨A, cap, he, hI, hb⟩
theorem ex1 : ans [120, 32, 61, 32, 39, 65, 39, 59, 32, 47, 47, 32, 121] = ([(2, [120], 1), (4, [61], 1), (1, [54, 53], 1), (4, [59], 1)], 0, 0) := by decide +kernel
theorem ex2 : ans [49, 97] = ([], 1, 3) := by decide +kernel
theorem ex3 : ans [52, 50, 57, 52, 57, 54, 55, 50, 57, 54] = ([], 1, 2) := by decide +kernel
set_option maxHeartbeats 4000000 in
theorem awake_any (w : World) (hL : Laid w) : Calls Tryd.prog 10 #[] w fun e w' => e = .returned (.bool true) ∧ Below w.heap.size w w' := by
  have c1 := Lib.hid (Tokens_use ⟨#[120, 32, 61, 32, 39, 65, 39, 59, 32, 47, 47, 32, 121]⟩ ex1 (len := 4) rfl (ni := 0) (ei := 0) rfl rfl w hL)
  have c2 := Lib.hid (fun W hL => Tokens_use ⟨#[49, 97]⟩ ex2 (len := 0) rfl (ni := 1) (ei := 3) rfl rfl W hL)
  have c3 := Lib.hid (fun W hL => Tokens_use ⟨#[52, 50, 57, 52, 57, 54, 55, 50, 57, 54]⟩ ex3 (len := 0) rfl (ni := 1) (ei := 2) rfl rfl W hL)
  have hL := Lib.hid hL
  go_enter Tryd.func10, Tryd.ntmps10
  go_wp2_with fail
  refine (c1.out).mono ?_
  rintro e w1 ⟨A1, cap1, rfl, hI1, hb1⟩
  obtain ⟨k', T', z', b, o, hT, hA, hbl, f0, f1, _⟩ := hI1.at (i := 2) (by decide)
  have hT2 : some ((1 : Nat), ([54, 53] : List UInt8), (1 : Nat)) = some (k', T', z') := hT
  cases hT2
  have f0 : ∀ W, Below w1.heap.size w1 W → W.cell? ⟨b, o + 6, none⟩ = some (.int .i64 1) := fun W h => (h.cell (p := ⟨b, o + 2 * 3, none⟩) hbl).trans f0
  have f1 : ∀ W, Below w1.heap.size w1 W → W.cell? ⟨b, o + 6 + 1, none⟩ = some (.string ⟨#[54, 53]⟩) := fun W h => (h.cell (p := ⟨b, o + 2 * 3 + 1, none⟩) hbl).trans f1
  have hcap := hI1.le
  subst hA
  replace f0 := Lib.hid f0
  replace f1 := Lib.hid f1
  have hL1 := hL.out.below hb1
  have c2 := Lib.hid (c2.out _ hL1)
  have hL1 := Lib.hid hL1
  replace hb1 := Lib.hid hb1
  clear hI1 hbl
  go_wp2_with fail
  refine (c2.out).mono ?_
  rintro e w2 ⟨A2, cap2, rfl, _, hb2⟩
  have hL2 := hL1.out.below hb2
  have c3 := Lib.hid (c3.out _ hL2)
  replace hb2 := Lib.hid hb2
  clear hL2
  go_wp2_with fail
  refine (c3.out).mono ?_
  rintro e w3 ⟨A3, cap3, rfl, _, hb3⟩
  have g0 := f0.out _ (chain hb2.out hb3)
  have g1 := f1.out _ (chain hb2.out hb3)
  have hbf := Lib.hid (chain (chain hb1.out hb2.out) hb3)
  clear f0 f1 hb1 hb2 hb3 hL1 hL c1 c2 c3
  go_wp2
  first | go_ret | skip
  exact ⟨rfl, hbf.out⟩
theorem IsTk.take {w : World} {A : Option Addr} {n cap : Nat} {l : List Tok} (h : IsTk w A n cap l) {k : Nat} (hk : k ≤ n) : IsTk w A k cap (l.take k) := by
  refine ⟨by rw [List.length_take, h.len]; omega, Nat.le_trans hk h.le, h.capm, h.nil, fun j hj => ?_⟩
  have e : l.flatMap enc3 = (l.take k).flatMap enc3 ++ (l.drop k).flatMap enc3 := by rw [← List.flatMap_append, List.take_append_drop]
  obtain ⟨b, o, h1, h2, h3⟩ := h.rd j (by rw [e, List.length_append]; omega)
  refine ⟨b, o, h1, h2, h3.trans ?_⟩
  congr 1
  simp only [e]
  rw [List.getElem_append_left hj]
theorem enc3_flat (l : List Tok) : (l.flatMap enc3).length = l.length * 3 := by
  induction l with
  | nil => rfl
  | cons t r ih => rw [List.flatMap_cons, List.length_append, ih, enc3_len, List.length_cons, Nat.succ_mul]; omega
theorem IsTk.drop {w : World} {b o n cap : Nat} {l : List Tok} (h : IsTk w (some ⟨b, o, none⟩) n cap l) {k : Nat} (hk : k ≤ n) : IsTk w (some ⟨b, o + k * 3, none⟩) (n - k) (cap - k) (l.drop k) := by
  refine ⟨by rw [List.length_drop, h.len], by have := h.le; omega, by have := h.capm; omega, (fun e => by cases e), fun j hj => ?_⟩
  have e : l.flatMap enc3 = (l.take k).flatMap enc3 ++ (l.drop k).flatMap enc3 := by rw [← List.flatMap_append, List.take_append_drop]
  have hkl : ((l.take k).flatMap enc3).length = k * 3 := by rw [enc3_flat, List.length_take, h.len, Nat.min_eq_left hk]
  obtain ⟨b', o', h1, h2, h3⟩ := h.rd (k * 3 + j) (by rw [e, List.length_append, hkl]; omega)
  injection h1 with h1
  injection h1 with h4 h5
  subst h4 h5
  refine ⟨b, o + k * 3, rfl, h2, ?_⟩
  rw [show o + k * 3 + j = o + (k * 3 + j) by omega, h3]
  congr 1
  simp only [e]
  rw [List.getElem_append_right (by rw [hkl]; omega)]
  congr 1
  omega
/-- .. with what is known of the slice's place. -/
theorem Tokens_at (s : ByteArray) {ts : List Tok} {n e0 : Nat} (ha : ans s.data.toList = (ts, n, e0)) {len : Nat} (hl : ts.length = len) {ni ei : Int} (hni : (n : Int) = ni) (hei : (e0 : Int) = ei) (w : World) (hL : Laid w) :
    Calls Tryd.prog 9 #[.string s] w fun e w' => ∃ (A : Option Addr) (cap : Nat), e = .returned (.tuple #[.slice A len cap, .int .i64 ni, .int .i64 ei]) ∧ IsTk w' A len cap ts ∧ Below w.heap.size w w' ∧ (A = none ∧ len = 0 ∧ cap = 0 ∨ ∃ g, A = some ⟨g, 0, none⟩) := by
  subst hl hni hei
  refine (Tokens_any s w hL).mono fun e w' h => ?_
  rw [ha] at h
  obtain ⟨v, he, hown, hb⟩ := h
  have hd := hown.2
  obtain ⟨A, cap, rfl, hI⟩ := IsTk.of_own hown rfl
  refine ⟨A, cap, he, hI, hb, ?_⟩
  rcases hd with ⟨h1, h2⟩ | ⟨g, cap', cur, h1, _⟩
  · injection h1 with h1 h3 h4
    exact .inl ⟨h1, h3, h4⟩
  · injection h1 with h1
    exact .inr ⟨g, h1⟩
end Go.Proofs.YtpnnkdgoaeibbaaDoor.L19
