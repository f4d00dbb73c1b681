/- Facts and contracts that the walks of this layer use, merged: S14Math, S14Near, S14Sg, S14Own1, S14Rd, S14Box, S14Own2. -/
import Derived.Test.YtiodkllckcpinaaGreatDoorM14AM
import Derived.Test.YtiodkllckcpinaaGreatDoorF13OwnB
import Derived.Test.YtiodkllckcpinaaGreatDoorM14AC
import Derived.Test.YtiodkllckcpinaaGreatDoorM14AA
import Derived.ChangeReads
import Derived.OpenShut
import Derived.WalkKit
import Derived.ProofKit
import Derived.Deep.Slices
import Derived.Test.YtiodkllckcpinaaGreatDoorRows
import Derived.RangeFuncNested
import Derived.RangeFuncLeaves
import Derived.Maps.AppendAt
import Derived.Test.YtiodkllckcpinaaGreatDoorM14AG
import Derived.RangeFuncFrom
import Derived.RangeFuncBound
import Derived.RangeFuncCalls
import Derived.Shelf.Abstract
import Derived.Shelf.RegionOpen
import Derived.OwnWalkIn
import Derived.TacticsInMore
import Derived.LoopNIn
import Derived.LoopIn
set_option linter.unusedVariables false
set_option linter.unusedSimpArgs false
set_option maxRecDepth 100000
namespace Go.Proofs.YtiodkllckcpinaaGreatDoor
namespace S14
open Go.RowKit Mem F13

structure Sg where
 at_ : Nat
 f : Fr
 d : Int
 u : Int
 n : Int
def bodyAt (c : ByteArray) (i : Nat) : ByteArray := c.extract (i + 16) (min (i + 852) c.size)
def readN (l : List UInt8) : Nat := (l.filter fun x => x == 48 || x == 49).length
def candB (c : ByteArray) (i : Nat) : Bool := decide (M12.ds c.data.toList (i : Int) ≤ 2) && decide (400 ≤ readN (bodyAt c i).data.toList)
inductive Scan (c : ByteArray) : Nat → List Sg → Prop
 | stop {i : Nat} : c.size < i + 16 → Scan c i []
 | hit {i : Nat} {F : Fr} {d u n : Int} {l : List Sg} : i + 16 ≤ c.size → candB c i = true → DcQ (bodyAt c i) F d u n 0 → Scan c (i + 852) l → Scan c i (⟨i, F, d, u, n⟩ :: l)
 | miss {i : Nat} {l : List Sg} : i + 16 ≤ c.size → (candB c i = true → ∃ F d u n k, DcQ (bodyAt c i) F d u n k ∧ k ≠ 0) → Scan c (i + 1) l → Scan c i l
theorem Scan.only {c : ByteArray} {i : Nat} {l l' : List Sg} (h : Scan c i l) (h' : Scan c i l') : l = l' := by
 induction h generalizing l' with
 | stop hi =>
  cases h' with
  | stop _ => rfl
  | hit h1 _ _ _ => omega
  | miss h1 _ _ => omega
 | hit hi hc hd hl ih =>
  cases h' with
  | stop h1 => omega
  | hit h1 h2 h3 h4 =>
   obtain ⟨rfl, rfl, rfl, rfl, _⟩ := hd.only h3
   rw [ih h4]
  | miss h1 h2 h3 =>
   obtain ⟨F, d, u, n, k, h4, h5⟩ := h2 hc
   exact absurd (hd.only h4).2.2.2.2.symm h5
 | miss hi hm hl ih =>
  cases h' with
  | stop h1 => omega
  | hit h1 h2 h3 h4 =>
   obtain ⟨F, d, u, n, k, h5, h6⟩ := hm h2
   exact absurd (h5.only h3).2.2.2.2 h6
  | miss h1 h2 h3 => exact ih h3
theorem Scan.places {c : ByteArray} {i : Nat} {l : List Sg} (h : Scan c i l) : (∀ s ∈ l, i ≤ s.at_ ∧ s.at_ + 16 ≤ c.size ∧ candB c s.at_ = true ∧ DcQ (bodyAt c s.at_) s.f s.d s.u s.n 0) ∧ l.Pairwise (fun a b => a.at_ + 852 ≤ b.at_) := by
 induction h with
 | stop _ => exact ⟨fun s hs => (by cases hs), List.Pairwise.nil⟩
 | hit hi hc hd hl ih =>
  refine ⟨fun s hs => ?_, List.Pairwise.cons (fun b hb => (ih.1 b hb).1) ih.2⟩
  rcases List.mem_cons.1 hs with rfl | hs
  ·exact ⟨Nat.le_refl _, hi, hc, hd⟩
  ·obtain ⟨h1, h2⟩ := ih.1 s hs
   exact ⟨by omega, h2⟩
 | miss hi hm hl ih =>
  refine ⟨fun s hs => ?_, ih.2⟩
  obtain ⟨h1, h2⟩ := ih.1 s hs
  exact ⟨by omega, h2⟩
end S14
namespace S14
open Go.RowKit Mem

theorem readN_app (a b : List UInt8) : readN (a ++ b) = readN a + readN b := by simp [readN]
theorem readN_all {l : List UInt8} (h : ∀ x ∈ l, x = 48 ∨ x = 49) : readN l = l.length := by
 unfold readN
 rw [List.filter_eq_self.2]
 intro x hx
 rcases h x hx with rfl | rfl <;> rfl
theorem readN_burst {X C : List UInt8} (hl : X.length = C.length) (hC : ∀ x ∈ C, x = 48 ∨ x = 49) (a : Nat) (h : ∀ p, p < X.length → X.getD p 0 ≠ C.getD p 0 → a ≤ p ∧ p < a + 90) : X.length ≤ readN X + 90 := by
 have h1 : X.take a = C.take a := by
  apply List.ext_getElem
  ·simp [hl]
  ·intro i h1 h2
   rw [List.length_take] at h1
   rw [List.getElem_take, List.getElem_take]
   have hx : i < X.length := by omega
   have hc : i < C.length := by omega
   by_cases e : X.getD i 0 = C.getD i 0
   ·rw [List.getD_eq_getElem?_getD, List.getD_eq_getElem?_getD, List.getElem?_eq_getElem hx, List.getElem?_eq_getElem hc] at e
    exact e
   ·have := (h i hx e).1
    omega
 have h2 : X.drop (a + 90) = C.drop (a + 90) := by
  apply List.ext_getElem
  ·simp [hl]
  ·intro i h1 h2
   rw [List.length_drop] at h1
   rw [List.getElem_drop, List.getElem_drop]
   have hx : a + 90 + i < X.length := by omega
   have hc : a + 90 + i < C.length := by omega
   by_cases e : X.getD (a + 90 + i) 0 = C.getD (a + 90 + i) 0
   ·rw [List.getD_eq_getElem?_getD, List.getD_eq_getElem?_getD, List.getElem?_eq_getElem hx, List.getElem?_eq_getElem hc] at e
    exact e
   ·have := (h _ hx e).2
    omega
 have e : X = X.take a ++ ((X.drop a).take 90 ++ X.drop (a + 90)) := by
  rw [← List.drop_drop, List.take_append_drop, List.take_append_drop]
 have r1 : readN (X.take a) = (X.take a).length := by
  rw [h1]
  exact readN_all fun x hx => hC x (List.mem_of_mem_take hx)
 have r2 : readN (X.drop (a + 90)) = (X.drop (a + 90)).length := by
  rw [h2]
  exact readN_all fun x hx => hC x (List.mem_of_mem_drop hx)
 have r3 : readN X = readN (X.take a) + (readN ((X.drop a).take 90) + readN (X.drop (a + 90))) := by
  rw [← readN_app, ← readN_app, ← e]
 rw [r1, r2, List.length_take, List.length_drop] at r3
 omega
/-! ### marks of which cells were inverted -/
def flip (m : List UInt8) (i : Nat) : List UInt8 := m.set i (m.getD i 0 ^^^ 1)
theorem flip_len (m : List UInt8) (i : Nat) : (flip m i).length = m.length := List.length_set
theorem two_flips : ∀ i j : Fin 16, M12.ds (flip (flip M12.mk i.1) j.1) 0 ≤ 2 := by decide +kernel
theorem ds_mark : M12.ds M12.mk 0 = 0 := by decide
theorem ds_front {m f : List UInt8} (h : m.length = 16) : M12.ds (m ++ f) 0 = M12.ds m 0 := M12.ds_mid [] m f h
end S14
namespace S14
open Go.RowKit Mem F13

def sgC (p : Nat × Sg) : List Value := [.int .i64 (p.1 : Int), .int .i64 (p.2.at_ : Int)] ++ p.2.f.cells.toList ++ [.int .i64 p.2.d, .int .i64 p.2.u, .int .i64 p.2.n]
def sgV (p : Nat × Sg) : Value := .agg (sgC p).toArray
def sgsC (l : List (Nat × Sg)) : List Value := l.flatMap sgC
theorem sgC_len (p : Nat × Sg) : (sgC p).length = 14 := rfl
theorem sgsC_snoc (l : List (Nat × Sg)) (p : Nat × Sg) : sgsC (l ++ [p]) = sgsC l ++ sgC p := by simp [sgsC]
theorem sgsC_len : ∀ l : List (Nat × Sg), (sgsC l).length = l.length * 14
 | [] => rfl
 | p :: l => by
  show (sgC p ++ sgsC l).length = _
  rw [List.length_append, sgC_len, sgsC_len l, List.length_cons]
  omega
theorem sgC_one (p : Nat × Sg) : ∀ u ∈ sgC p, u.oneCell' = true := by
 intro u hu
 simp only [sgC, Fr.cells, List.cons_append, List.nil_append, List.mem_cons, List.not_mem_nil, or_false] at hu
 rcases hu with rfl | rfl | rfl | rfl | rfl | rfl | rfl | rfl | rfl | rfl | rfl | rfl | rfl | rfl <;> rfl
theorem sgsC_get : ∀ (l : List (Nat × Sg)) (i j : Nat) (hi : i < l.length), j < 14 → (sgsC l)[i * 14 + j]? = (sgC l[i])[j]?
 | p :: l, 0, j, _, hj => by
  show (sgC p ++ sgsC l)[0 * 14 + j]? = _
  rw [Nat.zero_mul, Nat.zero_add, List.getElem?_append_left (by rw [sgC_len]; exact hj)]
  rfl
 | p :: l, i + 1, j, hi, hj => by
  have := sgsC_get l i j (by simpa using hi) hj
  show (sgC p ++ sgsC l)[(i + 1) * 14 + j]? = _
  rw [List.getElem?_append_right (by rw [sgC_len]; omega), sgC_len, show (i + 1) * 14 + j - 14 = i * 14 + j by omega, this]
  rfl
/-! ### scanning on -/
theorem Scan.skip {c : ByteArray} {o : Nat} (ho : o + 16 ≤ c.size) {l : List Sg} (hs : Scan c o l) : ∀ (m i : Nat), i + m = o → (∀ k : Nat, i ≤ k → k < o → 2 < M12.ds c.data.toList (k : Int)) → Scan c i l
 | 0, i, h, _ => by
  obtain rfl : i = o := by omega
  exact hs
 | m + 1, i, h, hn => by
  refine .miss (by omega) (fun hc => ?_) (Scan.skip ho hs m (i + 1) (by omega) fun k h1 h2 => hn k (by omega) h2)
  unfold candB at hc
  rw [Bool.and_eq_true, decide_eq_true_eq] at hc
  have := hn i (Nat.le_refl _) (by omega)
  omega
theorem Scan.end_ {c : ByteArray} : ∀ (m i : Nat), c.size < i + m + 16 → (∀ k : Nat, i ≤ k → k + 16 ≤ c.size → 2 < M12.ds c.data.toList (k : Int)) → Scan c i []
 | 0, i, h, _ => .stop (by omega)
 | m + 1, i, h, hn => by
  by_cases hi : c.size < i + 16
  ·exact .stop hi
  ·refine .miss (by omega) (fun hc => ?_) (Scan.end_ m (i + 1) (by omega) fun k h1 h2 => hn k (by omega) h2)
   unfold candB at hc
   rw [Bool.and_eq_true, decide_eq_true_eq] at hc
   have := hn i (Nat.le_refl _) (by omega)
   omega
def Upto (c : ByteArray) (i : Nat) (pre : List Sg) : Prop := (∀ l, Scan c i l → Scan c 0 (pre ++ l)) ∧ pre.length ≤ i
theorem Upto.start (c : ByteArray) : Upto c 0 [] := ⟨fun l h => h, Nat.le_refl _⟩
theorem Upto.miss {c : ByteArray} {i : Nat} {pre : List Sg} (h : Upto c i pre) (hi : i + 16 ≤ c.size) (hm : candB c i = true → ∃ F d u n k, DcQ (bodyAt c i) F d u n k ∧ k ≠ 0) : Upto c (i + 1) pre :=
 ⟨fun l hl => h.1 l (.miss hi hm hl), by have := h.2; omega⟩
theorem Upto.hit {c : ByteArray} {i : Nat} {pre : List Sg} {F : Fr} {d u n : Int} (h : Upto c i pre) (hi : i + 16 ≤ c.size) (hc : candB c i = true) (hd : DcQ (bodyAt c i) F d u n 0) : Upto c (i + 852) (pre ++ [⟨i, F, d, u, n⟩]) :=
 ⟨fun l hl => by rw [List.append_assoc]; exact h.1 _ (.hit hi hc hd hl), by have := h.2; rw [List.length_append, List.length_singleton]; omega⟩
theorem Upto.skip {c : ByteArray} {i o : Nat} {pre : List Sg} (h : Upto c i pre) (hf : M12.fd c.data.toList (i : Int) = some o) : Upto c o pre ∧ o + 16 ≤ c.size ∧ i ≤ o ∧ M12.ds c.data.toList (o : Int) ≤ 2 := by
 obtain ⟨h1, h2, h3, h4⟩ := M12.fd_some.1 hf
 have hl : c.data.toList.length = c.size := by simp
 rw [hl] at h2
 refine ⟨⟨fun l hl => h.1 l (Scan.skip h2 hl (o - i) i (by omega) fun k g1 g2 => h4 k (by omega) g2), by have := h.2; omega⟩, h2, by omega, h3⟩
theorem Upto.none_ {c : ByteArray} {i : Nat} {pre : List Sg} (h : Upto c i pre) (hf : M12.fd c.data.toList (i : Int) = none) : Scan c 0 pre := by
 have hn := M12.fd_none.1 hf
 have hl : c.data.toList.length = c.size := by simp
 have := h.1 [] (Scan.end_ c.size i (by omega) fun k g1 g2 => hn k (by omega) (by rw [hl]; exact g2))
 rwa [List.append_nil] at this
theorem Upto.stop {c : ByteArray} {i : Nat} {pre : List Sg} (h : Upto c i pre) (hi : c.size < i + 16) : Scan c 0 pre := by
 have := h.1 [] (.stop hi)
 rwa [List.append_nil] at this
/-! ### several pieces -/
inductive Scans : Nat → List ByteArray → List (Nat × Sg) → Prop
 | nil {n : Nat} : Scans n [] []
 | cons {n : Nat} {c : ByteArray} {cs : List ByteArray} {l : List Sg} {L : List (Nat × Sg)} : Scan c 0 l → Scans (n + 1) cs L → Scans n (c :: cs) (l.map (fun s => (n, s)) ++ L)
theorem Scans.only {n : Nat} {cs : List ByteArray} {L L' : List (Nat × Sg)} (h : Scans n cs L) (h' : Scans n cs L') : L = L' := by
 induction h generalizing L' with
 | nil => cases h'; rfl
 | cons h1 _ ih =>
  cases h' with
  | cons h1' h2' => rw [h1.only h1', ih h2']
theorem Scans.one {c : ByteArray} {L : List (Nat × Sg)} (h : Scans 0 [c] L) : ∃ l, Scan c 0 l ∧ L = l.map (fun s => (0, s)) := by
 cases h with
 | cons h1 h2 =>
  cases h2
  exact ⟨_, h1, by rw [List.append_nil]⟩
def UptoS (cs : List ByteArray) (k : Nat) (pre : List (Nat × Sg)) : Prop := ∀ L, Scans k (cs.drop k) L → Scans 0 cs (pre ++ L)
theorem UptoS.start (cs : List ByteArray) : UptoS cs 0 [] := fun L h => h
theorem UptoS.step {cs : List ByteArray} {k : Nat} {pre : List (Nat × Sg)} {l : List Sg} (h : UptoS cs k pre) (hk : k < cs.length) (hl : Scan cs[k] 0 l) : UptoS cs (k + 1) (pre ++ l.map fun s => (k, s)) := fun L hL => by
 rw [List.append_assoc]
 refine h _ ?_
 rw [List.drop_eq_getElem_cons hk]
 exact .cons hl hL
theorem UptoS.done {cs : List ByteArray} {pre : List (Nat × Sg)} (h : UptoS cs cs.length pre) : Scans 0 cs pre := by
 have := h [] (by rw [List.drop_length]; exact .nil)
 rwa [List.append_nil] at this
/-! ### the frame at a mark -/
theorem read_unr : ∀ {l : List UInt8}, l.all C9.okC = true → readN l + C1.unr l = l.length
 | [], _ => rfl
 | x :: l, h => by
  rw [List.all_cons, Bool.and_eq_true] at h
  have ih := read_unr h.2
  have hx : x = 48 ∨ x = 49 ∨ x = 63 := by
   have h1 := h.1
   unfold C9.okC at h1
   simp only [Bool.or_eq_true, beq_iff_eq] at h1
   rcases h1 with (h1 | h1) | h1
   ·exact .inl h1
   ·exact .inr (.inl h1)
   ·exact .inr (.inr h1)
  rcases hx with rfl | rfl | rfl
  ·have e1 : readN (48 :: l) = readN l + 1 := rfl
   have e2 : C1.unr (48 :: l) = C1.unr l := rfl
   rw [e1, e2, List.length_cons]; omega
  ·have e1 : readN (49 :: l) = readN l + 1 := rfl
   have e2 : C1.unr (49 :: l) = C1.unr l := rfl
   rw [e1, e2, List.length_cons]; omega
  ·have e1 : readN (63 :: l) = readN l := rfl
   have e2 : C1.unr (63 :: l) = C1.unr l + 1 := rfl
   rw [e1, e2, List.length_cons]; omega
theorem dec_odd {b : ByteArray} (h : C1.chk b.data.toList ≠ 0) : DcQ b zeroF 0 0 0 3 := ⟨fun _ => ⟨⟨rfl, rfl, rfl, rfl⟩, rfl⟩, fun h' => absurd h' h⟩
structure FaQ (c : ByteArray) (i : Nat) (F : Fr) (d u n : Int) (B : Bool) : Prop where
 yes : B = true → 400 ≤ readN (bodyAt c i).data.toList ∧ DcQ (bodyAt c i) F d u n 0
 no : B = false → 400 ≤ readN (bodyAt c i).data.toList → ∃ F d u n k, DcQ (bodyAt c i) F d u n k ∧ k ≠ 0
theorem FaQ.few {c : ByteArray} {i : Nat} (h : (bodyAt c i).size < 400 + C1.unr (bodyAt c i).data.toList) (F : Fr) (d u n : Int) : FaQ c i F d u n false := by
 refine ⟨fun e => (by cases e), fun _ hr => ?_⟩
 by_cases hk : C1.chk (bodyAt c i).data.toList = 0
 ·have := read_unr (chk_okC.1 hk)
  have hl : (bodyAt c i).data.toList.length = (bodyAt c i).size := by simp
  omega
 ·exact ⟨_, _, _, _, _, dec_odd hk, by decide⟩
theorem FaQ.dec {c : ByteArray} {i : Nat} (h : 400 + C1.unr (bodyAt c i).data.toList ≤ (bodyAt c i).size) {F : Fr} {d u n k : Int} (hd : DcQ (bodyAt c i) F d u n k) : FaQ c i F d u n (k == 0) := by
 refine ⟨fun e => ?_, fun e _ => ?_⟩
 ·have e : k = 0 := beq_iff_eq.1 e
  subst e
  refine ⟨?_, hd⟩
  by_cases hk : C1.chk (bodyAt c i).data.toList = 0
  ·have := read_unr (chk_okC.1 hk)
   have hl : (bodyAt c i).data.toList.length = (bodyAt c i).size := by simp
   omega
  ·have := (hd.1 hk).2
   omega
 ·exact ⟨_, _, _, _, _, hd, by simpa using e⟩
theorem FaQ.cand {c : ByteArray} {i : Nat} {F : Fr} {d u n : Int} (h : FaQ c i F d u n true) (hd : M12.ds c.data.toList (i : Int) ≤ 2) : candB c i = true ∧ DcQ (bodyAt c i) F d u n 0 := by
 obtain ⟨h1, h2⟩ := h.yes rfl
 refine ⟨?_, h2⟩
 unfold candB
 rw [decide_eq_true hd, decide_eq_true h1]
 rfl
theorem FaQ.miss {c : ByteArray} {i : Nat} {F : Fr} {d u n : Int} (h : FaQ c i F d u n false) : candB c i = true → ∃ F d u n k, DcQ (bodyAt c i) F d u n k ∧ k ≠ 0 := fun hc => by
 unfold candB at hc
 rw [Bool.and_eq_true, decide_eq_true_eq, decide_eq_true_eq] at hc
 exact h.no rfl hc.2
theorem bodyAt_size {c : ByteArray} {i : Nat} (h : i + 16 ≤ c.size) : (bodyAt c i).size = min (i + 852) c.size - (i + 16) := by
 unfold bodyAt
 rw [ByteArray.size_extract]
 omega
theorem bodyAt_le {c : ByteArray} {i : Nat} (h : i + 16 ≤ c.size) : (bodyAt c i).size ≤ 836 := by rw [bodyAt_size h]; omega
end S14
namespace S14
open Go.RowKit Mem F13

def FaP (c : ByteArray) (i : Nat) (w : World) (e : Ending) (w' : World) : Prop := ∃ (F : Fr) (d u n : Int) (B : Bool), FaQ c i F d u n B ∧ e = .returned (.tuple #[F.val, qV d u n, .bool B]) ∧ Below w.heap.size w w'
set_option maxHeartbeats 16000000 in
theorem frameAt_own (c : ByteArray) (i : Nat) (w : World) (hc : c.size ≤ 1000000) (hi : i + 16 ≤ c.size) : Calls Tryz.prog 65 #[.string c, .int .i64 (i : Int)] w (FaP c i w) := by
 obtain ⟨I, hI⟩ : ∃ I : Nat, I = i + 16 := ⟨_, rfl⟩
 obtain ⟨E, hE⟩ : ∃ E : Nat, E = i + 852 := ⟨_, rfl⟩
 obtain ⟨M, hM⟩ : ∃ M : Nat, M = min E c.size := ⟨_, rfl⟩
 have hb : bodyAt c i = c.extract I M := by unfold bodyAt; rw [hI, hM, hE]
 have hbs := bodyAt_le hi
 have hmin : ∀ (ts : Array TypeId) (t : TypeId) (W : World), (Builtin.min_ ts t #[.int .i64 (E : Int), .int .i64 (c.size : Int)]).run Tryz.prog W = .ok (.int .i64 (M : Int)) W := fun ts t W => by
  rw [run_min_int2]
  congr 2
  split <;> omega
 have i1 : (i : Int) + 16 = (I : Int) := by omega
 have e1 : (i : Int) + 852 = (E : Int) := by omega
 have i0 : (0 : Int) ≤ (I : Int) := by omega
 have m1 : (I : Int) ≤ (M : Int) := by omega
 have m2 : (M : Int) ≤ (c.size : Int) := by omega
 have m3 : I ≤ M := by omega
 have m4 : M ≤ c.size := by omega
 have c6 : (c.size : Int) ≤ 1000000 := by omega
 have cU := fun W => C1.unreadable_any (bodyAt c i) W (by omega)
 have cD := fun W => decode_own (bodyAt c i) W (by omega)
 have hfew := fun (h : (bodyAt c i).size < 400 + C1.unr (bodyAt c i).data.toList) => FaQ.few (c := c) (i := i) h zeroF 0 0 0
 have hdec := fun (h : 400 + C1.unr (bodyAt c i).data.toList ≤ (bodyAt c i).size) (F : Fr) (d u n k : Int) hd => FaQ.dec (c := c) (i := i) h (F := F) (d := d) (u := u) (n := n) (k := k) hd
 have hu : C1.unr (bodyAt c i).data.toList ≤ (bodyAt c i).size := by
  have : C1.unr (bodyAt c i).data.toList ≤ (bodyAt c i).data.toList.length := List.length_filter_le _ _
  simpa using this
 have hgoal : ∀ (F : Fr) (d u n : Int) (B : Bool) (w' : World), FaQ c i F d u n B → Below w.heap.size w w' → FaP c i w (.returned (.tuple #[F.val, qV d u n, .bool B])) w' := fun F d u n B w' h hb => ⟨F, d, u, n, B, h, rfl, hb⟩
 obtain ⟨P, hP⟩ : ∃ P, FaP c i w = P := ⟨_, rfl⟩
 rw [hP] at hgoal ⊢
 show Calls _ _ _ _ (fun e w' => P e w')
 obtain ⟨Q, hQ⟩ : ∃ Q, FaQ c i = Q := ⟨_, rfl⟩
 rw [hQ] at hfew hdec hgoal
 obtain ⟨U, hU⟩ : ∃ U, C1.unr (bodyAt c i).data.toList = U := ⟨_, rfl⟩
 rw [hU] at cU hfew hdec hu
 rw [hb] at cU cD hfew hdec hu hbs
 obtain ⟨Bd, hBd⟩ : ∃ B, c.extract I M = B := ⟨_, rfl⟩
 rw [hBd] at cU cD hfew hdec hu hbs
 obtain ⟨S, hS⟩ : ∃ S, Bd.size = S := ⟨_, rfl⟩
 have hSI : (Bd.size : Int) = (S : Int) := by omega
 rw [hS] at hfew hdec hu hbs
 obtain ⟨D, hD⟩ : ∃ D : Nat, D = S - U := ⟨_, rfl⟩
 have sd : (S : Int) - (U : Int) = (D : Int) := by omega
 have d6 : (D : Int) ≤ 836 := by omega
 have d7 : (0 : Int) ≤ (D : Int) := by omega
 unfold DcP at cD
 replace cU := Lib.hid cU
 replace cD := Lib.hid cD
 replace hfew := Lib.hid hfew
 replace hdec := Lib.hid hdec
 replace hgoal := Lib.hid hgoal
 obtain ⟨W0, hW0⟩ : ∃ W0, (w.alloc (.cells #[.int .i64 0, .int .i64 0, .int .i64 0, .int .i64 0, .int .i64 0, .int .i64 0, .int .i64 0, .int .u32 0, .string ⟨#[]⟩] 44)).alloc (.cells #[.int .i64 0, .int .i64 0, .int .i64 0] 46) = W0 := ⟨_, rfl⟩
 have hv0 : VAt W0 w.heap.size [.int .i64 0, .int .i64 0, .int .i64 0, .int .i64 0, .int .i64 0, .int .i64 0, .int .i64 0, .int .u32 0, .string ⟨#[]⟩] := by
  rw [← hW0]
  exact (vat_alloc w 44 [.int .i64 0, .int .i64 0, .int .i64 0, .int .i64 0, .int .i64 0, .int .i64 0, .int .i64 0, .int .u32 0, .string ⟨#[]⟩]).below ((Below.refl _ _).alloc (Nat.le_refl _) _) (by simp)
 have hq0 : VAt W0 (w.heap.size + 1) [.int .i64 0, .int .i64 0, .int .i64 0] := by
  have := vat_alloc (w.alloc (.cells #[.int .i64 0, .int .i64 0, .int .i64 0, .int .i64 0, .int .i64 0, .int .i64 0, .int .i64 0, .int .u32 0, .string ⟨#[]⟩] 44)) 46 [.int .i64 0, .int .i64 0, .int .i64 0]
  rw [World.size_alloc] at this
  rw [← hW0]
  exact this
 have hb0 : Below w.heap.size w W0 := by rw [← hW0]; exact two_made w _ _
 have hs0 : W0.heap.size = w.heap.size + 1 + 1 := by rw [← hW0]; simp
 have hBG : w.heap.size < W0.heap.size := by omega
 have hCG : w.heap.size + 1 < W0.heap.size := by omega
 clear hP hQ hU hb hS hM hE hI hi hc
 by_cases h4 : S < 400 + U
 ·have d1 : decide ((D : Int) < 400) = true := decide_eq_true (by omega)
  have d2 : decide (D < 400) = true := decide_eq_true (by omega)
  have hfin := Lib.hid (fun w' hb => hgoal.out zeroF 0 0 0 false w' (hfew.out h4) hb)
  obtain ⟨g9, g3, gb⟩ := wrote (l9 := [.int .i64 0, .int .i64 0, .int .i64 0, .int .i64 0, .int .i64 0, .int .i64 0, .int .i64 0, .int .u32 0, .string ⟨#[]⟩]) (l3 := [.int .i64 0, .int .i64 0, .int .i64 0]) hv0 hq0 rfl rfl (Nat.ne_of_lt (Nat.lt_succ_self _)) hb0 (Nat.le_refl _) (Nat.le_succ _)
  obtain ⟨f0, f1, f2, f3, f4, f5, f6, f7, f8, y0, y1, y2, y3, y4, y5, y6, y7, y8⟩ := cells9 hv0
  obtain ⟨q0, q1, q2, z0, z1, z2⟩ := cells3 hq0
  obtain ⟨WE, hWE⟩ : ∃ WE, putN (w.heap.size + 1) (putN w.heap.size W0 0 [.int .i64 0, .int .i64 0, .int .i64 0, .int .i64 0, .int .i64 0, .int .i64 0, .int .i64 0, .int .u32 0, .string ⟨#[]⟩]) 0 [.int .i64 0, .int .i64 0, .int .i64 0] = WE := ⟨_, rfl⟩
  rw [hWE] at g9 g3 gb
  simp only [putN] at hWE
  obtain ⟨c0, c1, c2, c3, c4, c5, c6, c7, c8, _, _, _, _, _, _, _, _, _⟩ := cells9 g9
  obtain ⟨p0, p1, p2, _, _, _⟩ := cells3 g3
  replace gb := Lib.hid gb
  clear hv0 hq0 hb0 hBG hCG hs0 h4 hu hbs hfew hdec hgoal hD
  go_enter Tryz.func65, Tryz.ntmps65
  go_wp2_with (go_at_call 78; refine (cU.out _).mono ?_; rintro e w1 ⟨rfl, rfl⟩)
  refine bodyPost_ret (v := .tuple #[zeroF.val, qV 0 0 0, .bool false]) ?_ rfl (hfin.out _ gb.out)
  simp [results, Tryz.results65, go_sem, c0, c1, c2, c3, c4, c5, c6, c7, c8, p0, p1, p2]
  exact ⟨rfl, rfl⟩
 ·have d1 : decide ((D : Int) < 400) = false := decide_eq_false (by omega)
  have d2 : decide (D < 400) = false := decide_eq_false (by omega)
  have hdq := Lib.hid (hdec.out (by omega))
  clear h4 hfew hdec hbs hu hD
  replace hv0 := Lib.hid hv0
  replace hq0 := Lib.hid hq0
  replace hb0 := Lib.hid hb0
  replace hBG := Lib.hid hBG
  replace hCG := Lib.hid hCG
  clear hs0
  go_enter Tryz.func65, Tryz.ntmps65
  go_wp2_with (first | (go_at_call 78; refine (cU.out _).mono ?_; rintro e w1 ⟨rfl, rfl⟩) | fail)
  refine (cD.out _).mono ?_
  rintro e w10 ⟨F, d, u, n, k2, hR, rfl, hb10⟩
  clear hW0 cD cU
  have hfin := Lib.hid (fun w' hb => hgoal.out F d u n (k2 == 0) w' (hdq.out F d u n k2 hR) hb)
  clear hR hdq hgoal
  obtain ⟨kind, reel, sess, idx, len, data, spare, arch, pay⟩ := F
  unfold Fr.val at hfin
  unfold Fr.cells at hfin
  unfold Fr.val Fr.cells qV
  dsimp only at hfin ⊢
  have hvB10 := hv0.out.below hb10 hBG.out
  have hvC10 := hq0.out.below hb10 hCG.out
  have hbw10 := chain hb0.out hb10
  have hsB := Nat.lt_of_lt_of_le hBG.out hb10.size
  have hsC := Nat.lt_of_lt_of_le hCG.out hb10.size
  clear hv0 hq0 hb0 hBG hCG hb10
  obtain ⟨W11, hW11⟩ : ∃ W, (w10.alloc (.cells #[.int .i64 kind, .int .i64 reel, .int .i64 sess, .int .i64 idx, .int .i64 len, .int .i64 data, .int .i64 spare, .int .u32 (arch.toNat : Int), .string pay] 44)).alloc (.cells #[.int .i64 d, .int .i64 u, .int .i64 n] 46) = W := ⟨_, rfl⟩
  obtain ⟨T, hT⟩ : ∃ T, w10.heap.size = T := ⟨_, rfl⟩
  have hvT : VAt W11 T [.int .i64 kind, .int .i64 reel, .int .i64 sess, .int .i64 idx, .int .i64 len, .int .i64 data, .int .i64 spare, .int .u32 (arch.toNat : Int), .string pay] := by
   rw [← hW11, ← hT]
   exact (vat_alloc w10 44 [.int .i64 kind, .int .i64 reel, .int .i64 sess, .int .i64 idx, .int .i64 len, .int .i64 data, .int .i64 spare, .int .u32 (arch.toNat : Int), .string pay]).below ((Below.refl _ _).alloc (Nat.le_refl _) _) (by simp)
  have hvQ : VAt W11 (T + 1) [.int .i64 d, .int .i64 u, .int .i64 n] := by
   have := vat_alloc (w10.alloc (.cells #[.int .i64 kind, .int .i64 reel, .int .i64 sess, .int .i64 idx, .int .i64 len, .int .i64 data, .int .i64 spare, .int .u32 (arch.toNat : Int), .string pay] 44)) 46 [.int .i64 d, .int .i64 u, .int .i64 n]
   rw [World.size_alloc] at this
   rw [← hW11, ← hT]
   exact this
  have hal : Below w10.heap.size w10 W11 := by rw [← hW11]; exact two_made w10 _ _
  have hvB11 := hvB10.below hal hsB
  have hvC11 := hvC10.below hal hsC
  have hbw11 := chain hbw10 hal
  rw [hT] at hsB hsC
  clear hvB10 hvC10 hbw10 hal
  obtain ⟨t0, t1, t2, t3, t4, t5, t6, t7, t8, _, _, _, _, _, _, _, _, _⟩ := cells9 hvT
  obtain ⟨f0, f1, f2, f3, f4, f5, f6, f7, f8, y0, y1, y2, y3, y4, y5, y6, y7, y8⟩ := cells9 hvB11
  obtain ⟨q0, q1, q2, z0, z1, z2⟩ := cells3 hvC11
  obtain ⟨r0, r1, r2, _, _, _⟩ := cells3 hvQ
  have hnBC : w.heap.size ≠ w.heap.size + 1 := Nat.ne_of_lt (Nat.lt_succ_self _)
  obtain ⟨g9, g3, gb⟩ := wrote (l9 := [.int .i64 kind, .int .i64 reel, .int .i64 sess, .int .i64 idx, .int .i64 len, .int .i64 data, .int .i64 spare, .int .u32 (arch.toNat : Int), .string pay]) (l3 := [.int .i64 d, .int .i64 u, .int .i64 n]) hvB11 hvC11 rfl rfl hnBC hbw11 (Nat.le_refl _) (by omega)
  have gBC : VAt (putN w.heap.size W11 0 [.int .i64 kind, .int .i64 reel, .int .i64 sess, .int .i64 idx, .int .i64 len, .int .i64 data, .int .i64 spare, .int .u32 (arch.toNat : Int), .string pay]) (w.heap.size + 1) [.int .i64 0, .int .i64 0, .int .i64 0] := putN_far hnBC [.int .i64 kind, .int .i64 reel, .int .i64 sess, .int .i64 idx, .int .i64 len, .int .i64 data, .int .i64 spare, .int .u32 (arch.toNat : Int), .string pay] 0 _ hvC11
  have gBQ : VAt (putN w.heap.size W11 0 [.int .i64 kind, .int .i64 reel, .int .i64 sess, .int .i64 idx, .int .i64 len, .int .i64 data, .int .i64 spare, .int .u32 (arch.toNat : Int), .string pay]) (T + 1) [.int .i64 d, .int .i64 u, .int .i64 n] := putN_far (by omega) [.int .i64 kind, .int .i64 reel, .int .i64 sess, .int .i64 idx, .int .i64 len, .int .i64 data, .int .i64 spare, .int .u32 (arch.toNat : Int), .string pay] 0 _ hvQ
  have gCT : VAt (putN (w.heap.size + 1) W11 0 [.int .i64 d, .int .i64 u, .int .i64 n]) T [.int .i64 kind, .int .i64 reel, .int .i64 sess, .int .i64 idx, .int .i64 len, .int .i64 data, .int .i64 spare, .int .u32 (arch.toNat : Int), .string pay] := putN_far (by omega) [.int .i64 d, .int .i64 u, .int .i64 n] 0 _ hvT
  have gCB : VAt (putN (w.heap.size + 1) W11 0 [.int .i64 d, .int .i64 u, .int .i64 n]) w.heap.size [.int .i64 0, .int .i64 0, .int .i64 0, .int .i64 0, .int .i64 0, .int .i64 0, .int .i64 0, .int .u32 0, .string ⟨#[]⟩] := putN_far (Ne.symm hnBC) [.int .i64 d, .int .i64 u, .int .i64 n] 0 _ hvB11
  have gC : VAt (putN (w.heap.size + 1) W11 0 [.int .i64 d, .int .i64 u, .int .i64 n]) (w.heap.size + 1) [.int .i64 d, .int .i64 u, .int .i64 n] := putN_all hvC11 rfl
  have k9 : VAt (putN w.heap.size (putN (w.heap.size + 1) W11 0 [.int .i64 d, .int .i64 u, .int .i64 n]) 0 [.int .i64 kind, .int .i64 reel, .int .i64 sess, .int .i64 idx, .int .i64 len, .int .i64 data, .int .i64 spare, .int .u32 (arch.toNat : Int), .string pay]) w.heap.size [.int .i64 kind, .int .i64 reel, .int .i64 sess, .int .i64 idx, .int .i64 len, .int .i64 data, .int .i64 spare, .int .u32 (arch.toNat : Int), .string pay] := putN_all gCB rfl
  have k3 : VAt (putN w.heap.size (putN (w.heap.size + 1) W11 0 [.int .i64 d, .int .i64 u, .int .i64 n]) 0 [.int .i64 kind, .int .i64 reel, .int .i64 sess, .int .i64 idx, .int .i64 len, .int .i64 data, .int .i64 spare, .int .u32 (arch.toNat : Int), .string pay]) (w.heap.size + 1) [.int .i64 d, .int .i64 u, .int .i64 n] := putN_far hnBC [.int .i64 kind, .int .i64 reel, .int .i64 sess, .int .i64 idx, .int .i64 len, .int .i64 data, .int .i64 spare, .int .u32 (arch.toNat : Int), .string pay] 0 _ gC
  have kb : Below w.heap.size w (putN w.heap.size (putN (w.heap.size + 1) W11 0 [.int .i64 d, .int .i64 u, .int .i64 n]) 0 [.int .i64 kind, .int .i64 reel, .int .i64 sess, .int .i64 idx, .int .i64 len, .int .i64 data, .int .i64 spare, .int .u32 (arch.toNat : Int), .string pay]) := putN_below (Nat.le_refl _) [.int .i64 kind, .int .i64 reel, .int .i64 sess, .int .i64 idx, .int .i64 len, .int .i64 data, .int .i64 spare, .int .u32 (arch.toNat : Int), .string pay] 0 _ (putN_below (by omega) [.int .i64 d, .int .i64 u, .int .i64 n] 0 _ hbw11)
  obtain ⟨WB, hWB⟩ : ∃ W, putN w.heap.size W11 0 [.int .i64 kind, .int .i64 reel, .int .i64 sess, .int .i64 idx, .int .i64 len, .int .i64 data, .int .i64 spare, .int .u32 (arch.toNat : Int), .string pay] = W := ⟨_, rfl⟩
  obtain ⟨WC, hWC⟩ : ∃ W, putN (w.heap.size + 1) W11 0 [.int .i64 d, .int .i64 u, .int .i64 n] = W := ⟨_, rfl⟩
  rw [hWB] at g9 g3 gb gBC gBQ
  rw [hWC] at gCT gCB k9 k3 kb
  obtain ⟨WE, hWE⟩ : ∃ W, putN (w.heap.size + 1) WB 0 [.int .i64 d, .int .i64 u, .int .i64 n] = W := ⟨_, rfl⟩
  obtain ⟨WF, hWF⟩ : ∃ W, putN w.heap.size WC 0 [.int .i64 kind, .int .i64 reel, .int .i64 sess, .int .i64 idx, .int .i64 len, .int .i64 data, .int .i64 spare, .int .u32 (arch.toNat : Int), .string pay] = W := ⟨_, rfl⟩
  rw [hWE] at g9 g3 gb
  rw [hWF] at k9 k3 kb
  simp only [putN, Nat.zero_add, Nat.reduceAdd] at hWB hWC hWE hWF
  obtain ⟨c0, c1, c2, c3, c4, c5, c6, c7, c8, _, _, _, _, _, _, _, _, _⟩ := cells9 g9
  obtain ⟨p0, p1, p2, _, _, _⟩ := cells3 g3
  obtain ⟨c0', c1', c2', c3', c4', c5', c6', c7', c8', _, _, _, _, _, _, _, _, _⟩ := cells9 k9
  obtain ⟨p0', p1', p2', _, _, _⟩ := cells3 k3
  obtain ⟨a0, a1, a2, x0, x1, x2⟩ := cells3 gBC
  obtain ⟨b0, b1, b2, _, _, _⟩ := cells3 gBQ
  obtain ⟨t0', t1', t2', t3', t4', t5', t6', t7', t8', _, _, _, _, _, _, _, _, _⟩ := cells9 gCT
  obtain ⟨f0', f1', f2', f3', f4', f5', f6', f7', f8', y0', y1', y2', y3', y4', y5', y6', y7', y8'⟩ := cells9 gCB
  have gb1 := Lib.hid gb
  have kb1 := Lib.hid kb
  clear hvT hvB11 hvC11 hvQ hbw11 gBC gBQ gCT gCB gC g9 g3 k9 k3 gb kb hnBC
  go_wp2_with fail
  go_region
  all_goals
   go_wp2
   first
    |(refine bodyPost_ret (v := .tuple #[.agg #[.int .i64 kind, .int .i64 reel, .int .i64 sess, .int .i64 idx, .int .i64 len, .int .i64 data, .int .i64 spare, .int .u32 (arch.toNat : Int), .string pay], .agg #[.int .i64 d, .int .i64 u, .int .i64 n], .bool (k2 == 0)]) ?_ rfl (hfin.out _ gb1.out.drew)
      simp [results, Tryz.results65, go_sem, c0, c1, c2, c3, c4, c5, c6, c7, c8, p0, p1, p2])
    |(refine bodyPost_ret (v := .tuple #[.agg #[.int .i64 kind, .int .i64 reel, .int .i64 sess, .int .i64 idx, .int .i64 len, .int .i64 data, .int .i64 spare, .int .u32 (arch.toNat : Int), .string pay], .agg #[.int .i64 d, .int .i64 u, .int .i64 n], .bool (k2 == 0)]) ?_ rfl (hfin.out _ kb1.out.drew)
      simp [results, Tryz.results65, go_sem, c0', c1', c2', c3', c4', c5', c6', c7', c8', p0', p1', p2'])
end S14
namespace S14
open Go.RowKit Mem

theorem add_none (b o k : Nat) : (⟨b, o, none⟩ : Addr).add k = ⟨b, o + k, none⟩ := by
 by_cases h : k = 0
 ·subst h; rfl
 ·simp [Addr.add, h]
theorem rd_each {α : Type} {w : World} {base b o s : Nat} {enc : α → List Value} {p : α → Prop} (hs : 0 < s) (hl : ∀ x, (enc x).length = s) : ∀ n, (∀ i, i < n → ∃ x, p x ∧ w.cells? base ((⟨b, o, none⟩ : Addr).add (i * s)) s = some (enc x)) →
  ∃ l : List α, l.length = n ∧ (∀ x ∈ l, p x) ∧ Rd w (some ⟨b, o, none⟩) (l.flatMap enc)
 | 0, _ => ⟨[], rfl, fun x h => (by cases h), fun j h => (by simp at h)⟩
 | n + 1, h => by
  obtain ⟨l, h1, h2, h3⟩ := rd_each hs hl n fun i hi => h i (by omega)
  obtain ⟨x, hx, hc⟩ := h n (by omega)
  have hlen : (l.flatMap enc).length = n * s := by
   rw [← h1]
   clear h1 h2 h3 hc
   induction l with
   | nil => simp
   | cons y l ih => rw [List.flatMap_cons, List.length_append, hl, ih, List.length_cons, Nat.succ_mul]; omega
  refine ⟨l ++ [x], by rw [List.length_append, h1]; rfl, fun y hy => ?_, fun j hj => ?_⟩
  ·rcases List.mem_append.1 hy with hy | hy
   ·exact h2 y hy
   ·rw [List.mem_singleton.1 hy]; exact hx
  ·have e : (l ++ [x]).flatMap enc = l.flatMap enc ++ enc x := by simp
   have hj2 := hj
   rw [e, List.length_append, hlen, hl] at hj2
   obtain ⟨_, _, hcell⟩ := World.cells?_some hc
   have hb0 := hcell 0 hs
   rw [add_none, add_none, List.getElem?_eq_getElem (by rw [hl]; exact hs)] at hb0
   refine ⟨b, o, rfl, World.block_lt_of_cell? _ _ hb0, ?_⟩
   have e2 : ((l ++ [x]).flatMap enc)[j]? = (l.flatMap enc ++ enc x)[j]? := by rw [e]
   rw [List.getElem?_eq_getElem hj] at e2
   rw [e2]
   by_cases hjn : j < n * s
   ·obtain ⟨b', o', e', _, h4⟩ := h3 j (by rw [hlen]; exact hjn)
    injection e' with e'
    injection e' with e5 e6
    subst e5 e6
    rw [h4, List.getElem?_append_left (by rw [hlen]; exact hjn), List.getElem?_eq_getElem (by rw [hlen]; exact hjn)]
   ·have := hcell (j - n * s) (by omega)
    rw [add_none, add_none, show o + n * s + (j - n * s) = o + j by omega] at this
    rw [this, List.getElem?_append_right (by rw [hlen]; omega), hlen]
theorem rd_slice {α : Type} {w : World} {base s n : Nat} {a : Addr} {enc : α → List Value} {p : α → Prop} (hs : 0 < s) (hl : ∀ x, (enc x).length = s) (h : ∀ i, i < n → ∃ x, p x ∧ w.cells? base (a.add (i * s)) s = some (enc x)) :
  ∃ l : List α, l.length = n ∧ (∀ x ∈ l, p x) ∧ Rd w (some a) (l.flatMap enc) := by
 rcases Nat.eq_zero_or_pos n with rfl | hn
 ·exact ⟨[], rfl, fun x h => (by cases h), fun j h => (by simp at h)⟩
 ·obtain ⟨b, o, spot⟩ := a
  obtain ⟨x, _, hc⟩ := h 0 hn
  obtain ⟨_, _, hcell⟩ := World.cells?_some hc
  have h0 := hcell 0 hs
  rw [Nat.zero_mul, List.getElem?_eq_getElem (by rw [hl]; exact hs)] at h0
  have hspot : spot = none := by simpa [Addr.add] using World.cell?_spot h0
  subst hspot
  exact rd_each hs hl n h
theorem flat_get {α : Type} {s : Nat} {enc : α → List Value} (hl : ∀ x, (enc x).length = s) : ∀ (l : List α) (i j : Nat) (hi : i < l.length), j < s → (l.flatMap enc)[i * s + j]? = (enc l[i])[j]?
 | x :: l, 0, j, _, hj => by
  rw [List.flatMap_cons, Nat.zero_mul, Nat.zero_add, List.getElem?_append_left (by rw [hl]; exact hj)]
  rfl
 | x :: l, i + 1, j, hi, hj => by
  have := flat_get hl l i j (by simpa using hi) hj
  rw [List.flatMap_cons, List.getElem?_append_right (by rw [hl, Nat.succ_mul]; omega), hl, show (i + 1) * s + j - s = i * s + j by rw [Nat.succ_mul]; omega, this]
  rfl
theorem flat_len {α : Type} {s : Nat} {enc : α → List Value} (hl : ∀ x, (enc x).length = s) : ∀ l : List α, (l.flatMap enc).length = l.length * s
 | [] => by simp
 | x :: l => by rw [List.flatMap_cons, List.length_append, hl, flat_len hl l, List.length_cons, Nat.succ_mul]; omega
theorem Rd.struct {α : Type} {s : Nat} {enc : α → List Value} (hl : ∀ x, (enc x).length = s) {w : World} {A : Option Addr} {l : List α} (h : Rd w A (l.flatMap enc)) (hs : 0 < s) {i : Nat} (hi : i < l.length) :
  ∃ b o : Nat, A = some ⟨b, o, none⟩ ∧ b < w.heap.size ∧ ∀ (j : Nat) (u : Value), (enc l[i])[j]? = some u → w.cell? ⟨b, o + (i * s + j), none⟩ = some u := by
 have hlen := flat_len hl l
 have hlt : ∀ j, j < s → i * s + j < (l.flatMap enc).length := fun j hj => by
  rw [hlen]
  have : (i + 1) * s ≤ l.length * s := Nat.mul_le_mul_right s hi
  rw [Nat.succ_mul] at this
  omega
 obtain ⟨b, o, e, hb, _⟩ := h (i * s + 0) (hlt 0 hs)
 refine ⟨b, o, e, hb, fun j u hu => ?_⟩
 have hj : j < s := by
  have := (List.getElem?_eq_some_iff.1 hu).1
  rw [hl] at this
  exact this
 obtain ⟨b', o', e', _, hc⟩ := h (i * s + j) (hlt j hj)
 rw [e] at e'
 injection e' with e'
 injection e' with e5 e6
 subst e5 e6
 rw [hc]
 have := flat_get hl l i j hi hj
 rw [List.getElem?_eq_getElem (hlt j hj), hu] at this
 exact this
end S14
namespace S14
open Go.RowKit Mem F13

theorem boxed_below {W W' : World} {B : Nat} {t : TypeId} {v : Value} (h : Boxed W B t v) (k : Below W.heap.size W W') : Boxed W' B t v := (k.block B h.lt).trans h
theorem grown_of {w w' : World} (h : Below w.heap.size w w') : w.grownBy w' none := ⟨h.os, h.tape, h.output, h.size, fun i hi _ => h.block i hi⟩
def KpS (b1 b2 : Nat) (W W' : World) : Prop := W'.heap[b1]? = W.heap[b1]? ∧ W'.heap[b2]? = W.heap[b2]?
theorem kpS_t {b1 b2 : Nat} {A B C : World} (h : KpS b1 b2 A B) (k : KpS b1 b2 B C) : KpS b1 b2 A C := ⟨k.1.trans h.1, k.2.trans h.2⟩
theorem kpS_b {b1 b2 : Nat} {w : World} (h1 : b1 < w.heap.size) (h2 : b2 < w.heap.size) (W : World) (l : Nat) (o o' : Obj) (hl : w.heap.size ≤ l) (_ : W.heap[l]? = some o) (_ : o.isCells = false) (_ : o.isWalk = false) : KpS b1 b2 W (W.putObj l o') :=
 ⟨World.putObj_heap_other (by omega), World.putObj_heap_other (by omega)⟩
theorem kpS_box {b1 b2 : Nat} {W W' : World} {t : TypeId} {v : Value} (h : KpS b1 b2 W W') (hb : Boxed W b1 t v) : Boxed W' b1 t v := h.1.trans hb
theorem kpS_box2 {b1 b2 : Nat} {W W' : World} {t : TypeId} {v : Value} (h : KpS b1 b2 W W') (hb : Boxed W b2 t v) : Boxed W' b2 t v := h.2.trans hb
theorem list_new (w : World) (l : List Value) (t : TypeId) : ∀ j u, l[j]? = some u → (w.alloc (.cells l.toArray t)).cell? ((⟨w.heap.size, 0, none⟩ : Addr).add j) = some u := by
 intro j u hj
 rw [add_at, World.cell?_alloc_new]
 simpa using hj
theorem grown_below {B : Nat} {w0 W w1 : World} {e : TypeId} {size n : Nat} {v : Value} {xs : List Value} (hb : Below B w0 W) (hB : B ≤ W.heap.size) (hown : W.ownsRow B e size v n xs) (hg : W.grownBy w1 v.ownBlock) : Below B w0 w1 :=
 hb.grown hg hB fun k e => (hown.lt k e).1
theorem own_rd {w : World} {base n size : Nat} {e : TypeId} {v : Value} {xs : List Value} (h : w.ownsRow base e size v n xs) : ∃ A cap, v = .slice A n cap ∧ n ≤ cap ∧ cap ≤ maxLen ∧ (A = none → n = 0) ∧ ∀ g o sp, A = some ⟨g, o, sp⟩ → o = 0 ∧ sp = none ∧ base ≤ g ∧ g < w.heap.size ∧ ∀ j u, xs[j]? = some u → w.cell? ⟨g, j, none⟩ = some u := by
 rcases h.2 with ⟨rfl, h0⟩ | ⟨g, cap, cur, rfl, hg, hh, hn, hm, _⟩
 ·subst h0
  exact ⟨none, 0, rfl, Nat.le_refl _, by decide, fun _ => rfl, fun g o sp e => by cases e⟩
 ·refine ⟨_, cap, rfl, hn, hm, (fun e => by cases e), fun g' o sp e => ?_⟩
  injection e with e
  injection e with e1 e2 e3
  subst e1 e2 e3
  refine ⟨rfl, rfl, hg, (h.lt g rfl).2, fun j u hj => ?_⟩
  have := h.cells (g := g) rfl j u hj
  rwa [add_at] at this
def Marks (lo hi : Nat) (W : World) : List Deferred → Prop
 | [] => True
 | d :: ds => (∃ r, d.target = .collected r ∧ lo ≤ r ∧ r < hi ∧ W.heap[r]? = some (.deferred (some []))) ∧ (∀ x ∈ ds, x.target ≠ d.target) ∧ Marks lo hi W ds
theorem Marks.keep {lo hi : Nat} {W W' : World} (h : ∀ r, lo ≤ r → r < hi → W.heap[r]? = some (.deferred (some [])) → W'.heap[r]? = some (.deferred (some []))) : ∀ {ds : List Deferred}, Marks lo hi W ds → Marks lo hi W' ds
 | [], _ => trivial
 | d :: ds, ⟨⟨r, h1, h2, h3, h4⟩, h5, h6⟩ => ⟨⟨r, h1, h2, h3, h r h2 h3 h4⟩, h5, Marks.keep h h6⟩
theorem Marks.more {lo hi hi' : Nat} {W : World} (hh : hi ≤ hi') : ∀ {ds : List Deferred}, Marks lo hi W ds → Marks lo hi' W ds
 | [], _ => trivial
 | d :: ds, ⟨⟨r, h1, h2, h3, h4⟩, h5, h6⟩ => ⟨⟨r, h1, h2, by omega, h4⟩, h5, Marks.more hh h6⟩
theorem Marks.below {lo hi : Nat} {W W' : World} {ds : List Deferred} (h : Marks lo hi W ds) (k : Below W.heap.size W W') : Marks lo hi W' ds :=
 h.keep fun r _ _ hr => (k.block r (Array.getElem?_eq_some_iff.1 hr).1).trans hr
theorem Marks.others {lo hi : Nat} {W W' : World} {ds : List Deferred} (h : Marks lo hi W ds) (k : KeepsOthers W W') : Marks lo hi W' ds :=
 h.keep fun r _ _ hr => k.same r _ hr rfl
theorem Marks.push {lo hi D : Nat} {W : World} {ds : List Deferred} (h : Marks lo hi W ds) (hlo : lo ≤ D) (hD : hi ≤ D) (hd : W.heap[D]? = some (.deferred (some []))) (args : Array Value) : Marks lo (D + 1) W ({ target := .collected D, args := args } :: ds) := by
 refine ⟨⟨D, rfl, hlo, Nat.lt_succ_self D, hd⟩, ?_, h.more (by omega)⟩
 clear hd hlo
 induction ds with
 | nil => intro x hx; cases hx
 | cons d ds ih =>
  obtain ⟨⟨r, h1, h2, h3, _⟩, _, h6⟩ := h
  intro x hx
  rcases List.mem_cons.1 hx with rfl | hx
  ·rw [h1]
   intro e
   injection e with e
   omega
  ·exact ih h6 x hx
theorem leaves_marks {F : Fence} {n : Nat} {P : Program} {fn : Func} {tmps : Array Value} {R : Ending → World → Prop} {lo hi B : Nat} {w0 : World} (hB : B ≤ lo) :
  ∀ (ds : List Deferred) (u : FrameMode) (W : World), u ≠ .run → Marks lo hi W ds → Below B w0 W → (∀ W', Below B w0 W' → (∀ (r : Nat) (t : TypeId) (cs : Array Value) (fz : Nat × Nat), W.heap[r]? = some (Obj.cells cs t fz) → W'.heap[r]? = some (Obj.cells cs t fz)) → LeavesInM F n P fn tmps R [] u W') → LeavesInM F n P fn tmps R ds u W
 | [], u, W, _, _, hb, h => h W hb fun _ _ _ _ h => h
 | d :: ds, u, W, hu, ⟨⟨r, h1, h2, h3, h4⟩, h5, h6⟩, hb, h => by
  refine ⟨hu, .inl ⟨r, _, h1, run_takeDeferred h4, ?_⟩⟩
  have hr := (Array.getElem?_eq_some_iff.1 h4).1
  have hb' : Below B w0 (W.putObj r (.deferred none)) := hb.grown (grownBy_putObj' W r _) (by have := hb.size; omega) (fun k e => by cases e; omega)
  refine leaves_marks (hi := hi) hB ds u _ hu ?_ hb' fun W' hb2 hc => h W' hb2 fun q t cs fz hq => hc q t cs fz ?_
  ·clear h hb hb' h4 h2 h3
   induction ds with
   | nil => trivial
   | cons d' ds ih =>
    obtain ⟨⟨r', g1, g2, g3, g4⟩, g5, g6⟩ := h6
    refine ⟨⟨r', g1, g2, g3, (World.putObj_heap_other ?_).trans g4⟩, g5, ih (fun x hx => h5 x (List.mem_cons_of_mem _ hx)) g6⟩
    intro e
    have := h5 d' List.mem_cons_self
    rw [g1, h1] at this
    exact this (by rw [e])
  ·refine (World.putObj_heap_other ?_).trans hq
   intro e
   rw [e, h4] at hq
   cases hq
end S14
namespace S14
open Go.RowKit Go.Shelf Mem F13
attribute [local go_sem] Oper.semAt_some

def muS (n : Nat) (av fv : Value) : Nat := match fv with
 | .bool true => n - (intOf av).toNat
 | _ => 0
theorem mu_less {L : List UInt8} {i o n : Nat} (ho : o < n) (hio : o < i) : muS n (.int .i64 (M12.fdI L (i : Int))) (.bool (M12.fdB L (i : Int))) < muS n (.int .i64 (o : Int)) (.bool true) := by
 have e : muS n (.int .i64 (o : Int)) (.bool true) = n - o := rfl
 rw [e]
 rcases hf : M12.fd L (i : Int) with _ | q
 ·obtain ⟨e1, e2⟩ := M12.fdIB_none hf
  rw [e1, e2]
  show 0 < n - o
  omega
 ·obtain ⟨e1, e2⟩ := M12.fdIB_some hf
  have := (M12.fd_some.1 hf).1
  rw [e1, e2]
  show n - q < n - o
  omega
theorem sightings_own (c : ByteArray) (k : Nat) (w : World) : Calls Tryz.prog 30 #[.int .i64 (k : Int), .string c] w fun e w' =>
  e = .returned (.func (.func 64) #[] #[.pointer (some ⟨w.heap.size + 1, 0, none⟩), .pointer (some ⟨w.heap.size, 0, none⟩)]) ∧ w' = (w.alloc (.cells #[.int .i64 (k : Int)] 3)).alloc (.cells #[.string c] 9) := by
 go_enter Tryz.func30, Tryz.ntmps30
 go_wp2
 go_ret
 exact ⟨rfl, rfl⟩
set_option maxHeartbeats 16000000 in
theorem sightings1_in (c : ByteArray) (hc : c.size ≤ 1000000) (k l b1 b2 : Nat) (J Jx : List Sg → World → Prop)
  (hJ : ∀ pre W W', J pre W → W.grownBy W' none → J pre W')
  (hY : ∀ pre x W, J pre W → pre.length < c.size + 1 → YieldAt Fence.wide 1 Tryz.prog l #[sgV (k, x)] W fun e W' =>
   (e = .returned (.bool true) ∧ J (pre ++ [x]) W' ∧ KpS b1 b2 W W') ∨ (e = .returned (.bool false) ∧ Jx (pre ++ [x]) W'))
  (W : World) (hx1 : Boxed W b1 9 (.string c)) (hx2 : Boxed W b2 3 (.int .i64 (k : Int))) (h0 : J [] W) :
  CallsIn Fence.wide 2 Tryz.prog 64 #[.func (.yield l) #[] #[], .pointer (some ⟨b1, 0, none⟩), .pointer (some ⟨b2, 0, none⟩)] W fun e W' => (∃ v, e = .returned v) ∧
   ((∃ ys, Scan c 0 ys ∧ J ys W') ∨ (∃ pre, True ∧ Jx pre W')) := by
 have cF := fun (a : Nat) (ha : a ≤ 1000852) (W : World) => M12.find_any c (a : Int) W (by omega) (by omega) (by omega)
 have cA := fun (i : Nat) (W : World) (hi : i + 16 ≤ c.size) => frameAt_own c i W hc hi
 have hfin : ∀ {i : Nat} {pre : List Sg}, Upto c i pre → M12.fd c.data.toList (i : Int) = none → Scan c 0 pre := fun h hf => h.none_ hf
 have hskip : ∀ {i o : Nat} {pre : List Sg}, Upto c i pre → M12.fd c.data.toList (i : Int) = some o → Upto c o pre ∧ o + 16 ≤ c.size ∧ i ≤ o ∧ M12.ds c.data.toList (o : Int) ≤ 2 := fun h hf => h.skip hf
 have hst := Upto.start c
 have hfI0 := fun (i : Nat) (h : M12.fd c.data.toList (i : Int) = none) => M12.fdIB_none h
 have hfI1 := fun (i o : Nat) (h : M12.fd c.data.toList (i : Int) = some o) => M12.fdIB_some h
 obtain ⟨L, hL⟩ : ∃ L, c.data.toList = L := ⟨_, rfl⟩
 rw [hL] at cF hfI0 hfI1
 have cF0 := cF 0 (by omega)
 rw [show ((0 : Nat) : Int) = 0 from rfl] at cF0
 have c0 := hx1.cell
 replace cF := Lib.hid cF
 replace cF0 := Lib.hid cF0
 replace cA := Lib.hid cA
 replace hst := Lib.hid hst
 replace hL := Lib.hid hL
 replace hfI0 := Lib.hid hfI0
 replace hfI1 := Lib.hid hfI1
 refine callsIn_of_wp Tryz.func64 rfl trivial ?_ rfl
 simp only [Tryz.ntmps64, List.size_toArray, List.length_cons, List.length_nil, Nat.reduceAdd, Nat.reduceSub, Array.replicate_succ, Array.replicate_zero, List.push_toArray, List.append_toArray, List.nil_append, List.cons_append]
 gi_wp2_with (refine ⟨trivial, ?_⟩; gi_at_call 23; refine (callsIn_wide.2 (cF0.out _)).mono ?_; rintro e w1 ⟨rfl, hb1⟩)
 replace hx1 := boxed_below hx1 hb1
 replace hx2 := boxed_below hx2 hb1
 replace h0 := hJ _ _ _ h0 (grown_of hb1)
 clear hb1 cF0 c0
 gi_loopw [4, 5] (fun av fv wr => ∃ (i : Nat) (pre : List Sg), i ≤ c.size + 852 ∧ av = .int .i64 (M12.fdI L (i : Int)) ∧ fv = .bool (M12.fdB L (i : Int)) ∧ Hid (Upto c i pre) ∧ J pre wr ∧ Boxed wr b1 9 (.string c) ∧ Boxed wr b2 3 (.int .i64 (k : Int)))
  (fun av fv _ => muS (c.size + 1) av fv)
 case atStart => exact ⟨0, [], by omega, rfl, rfl, hst, h0, hx1, hx2⟩
 case round =>
  clear hst h0 hx1 hx2
  obtain ⟨i, pre, hi, rfl, rfl, hU, hJs, hx1, hx2⟩ := hrel
  rcases hf : M12.fd L (i : Int) with _ | o
  ·obtain ⟨e1, e2⟩ := hfI0.out i hf
   have hs := hfin hU.out (by rw [hL.out]; exact hf)
   rw [e1, e2]
   clear hfI0 hfI1 hskip hfin hU cF cA e1 e2
   gi_wp2
   go_end0
   exact ⟨⟨_, rfl⟩, .inl ⟨pre, hs, hJs⟩⟩
  ·obtain ⟨e1, e2⟩ := hfI1.out i o hf
   obtain ⟨hU2, ho, hio, hd⟩ := hskip hU.out (by rw [hL.out]; exact hf)
   rw [e1, e2]
   have cAo := Lib.hid (fun W => cA.out o W ho)
   obtain ⟨p, hp⟩ : ∃ p : Nat, p = o + 1 := ⟨_, rfl⟩
   obtain ⟨r, hr⟩ : ∃ r : Nat, r = o + 852 := ⟨_, rfl⟩
   have cF1 := Lib.hid (fun W => cF.out p (by omega) W)
   have cF2 := Lib.hid (fun W => cF.out r (by omega) W)
   have o1 : (o : Int) + 1 = (p : Int) := by omega
   have o2 : (o : Int) + 852 = (r : Int) := by omega
   have p1 : (p : Int) ≤ 1000001 := by omega
   have r1 : (r : Int) ≤ 1000852 := by omega
   replace hp := Lib.hid hp
   replace hr := Lib.hid hr
   have oc : (o : Int) ≤ 1000000 := by omega
   have c0 := hx1.cell
   have hoh := Lib.hid ho
   have hdh := Lib.hid hd
   have hlen : pre.length < c.size + 1 := by have := hU2.2; omega
   replace hU2 := Lib.hid hU2
   replace hlen := Lib.hid hlen
   have hfo := Lib.hid hf
   have hms := Lib.hid hL.out
   clear hU ho hd hi hio hf e1 e2 cA
   gi_wp2_with fail
   refine ⟨trivial, (callsIn_wide.2 (cAo.out _)).mono ?_⟩
   rintro e w2 ⟨F, d, u, n, B, hQ, rfl, hb2⟩
   clear cAo c0
   have hg1 := grown_of hb2
   replace hx1 := boxed_below hx1 hb2
   replace hx2 := boxed_below hx2 hb2
   replace hJs := hJ _ _ _ hJs hg1
   clear hg1 hb2
   obtain ⟨W11, hW11⟩ : ∃ W, (w2.alloc (.cells F.cells 44)).alloc (.cells #[.int .i64 d, .int .i64 u, .int .i64 n] 46) = W := ⟨_, rfl⟩
   obtain ⟨T, hT⟩ : ∃ T, w2.heap.size = T := ⟨_, rfl⟩
   have hvT : VAt W11 T F.cells.toList := by
    rw [← hW11, ← hT]
    exact (vat_alloc w2 44 F.cells.toList).below ((Below.refl _ _).alloc (Nat.le_refl _) _) (by simp)
   have hvQ : VAt W11 (T + 1) [.int .i64 d, .int .i64 u, .int .i64 n] := by
    have := vat_alloc (w2.alloc (.cells F.cells 44)) 46 [.int .i64 d, .int .i64 u, .int .i64 n]
    rw [World.size_alloc] at this
    rw [← hW11, ← hT]
    exact this
   have hal : Below w2.heap.size w2 W11 := by rw [← hW11]; exact two_made w2 _ _
   replace hJs := hJ _ _ _ hJs (grown_of hal)
   replace hx1 := boxed_below hx1 hal
   replace hx2 := boxed_below hx2 hal
   have c1 := hx1.cell
   have c2 := hx2.cell
   clear hal
   rcases B with _ | _
   ·have hU3 : Hid (Upto c p pre) := Lib.hid (by rw [hp.out]; exact hU2.out.miss hoh.out hQ.miss)
    obtain ⟨kind, reel, sess, idx, len, data, spare, arch, pay⟩ := F
    unfold Fr.cells at hW11 hvT
    unfold Fr.val Fr.cells qV
    dsimp only at hW11 hvT ⊢
    clear hY hQ hvT hvQ hfI0 hskip hfin
    gi_wp2_with fail
    refine ⟨trivial, (callsIn_wide.2 (cF1.out _)).mono ?_⟩
    rintro e w3 ⟨rfl, hb3⟩
    replace hx1 := boxed_below hx1 hb3
    replace hx2 := boxed_below hx2 hb3
    replace hJs := hJ _ _ _ hJs (grown_of hb3)
    have hp2 : p ≤ c.size + 852 := by have := hp.out; have := hoh.out; omega
    clear hW11 hb3 c1 c2
    gi_wp2
    go_roundw
    case rel => exact ⟨p, pre, hp2, rfl, rfl, hU3, hJs, hx1, hx2⟩
    case measure => exact mu_less (by have := hoh.out; omega) (by have := hp.out; omega)
   ·obtain ⟨hca, hdq⟩ := hQ.cand hdh.out
    have hU3 : Hid (Upto c r (pre ++ [⟨o, F, d, u, n⟩])) := Lib.hid (by rw [hr.out]; exact hU2.out.hit hoh.out hca hdq)
    obtain ⟨fn, tmps, assign, body, hy, hR⟩ := hY pre ⟨o, F, d, u, n⟩ W11 hJs hlen.out
    obtain ⟨kind, reel, sess, idx, len, data, spare, arch, pay⟩ := F
    simp only [sgV, sgC, Fr.cells, List.cons_append, List.nil_append] at hy
    unfold Fr.cells at hW11 hvT
    unfold Fr.val Fr.cells qV
    dsimp only at hW11 hvT ⊢
    obtain ⟨t0, t1, t2, t3, t4, t5, t6, t7, t8, _, _, _, _, _, _, _, _, _⟩ := cells9 hvT
    obtain ⟨q0, q1, q2, _, _, _⟩ := cells3 hvQ
    replace hR := Lib.hid hR
    clear hY hQ hvT hvQ hfI0 hskip hfin hca hdq
    have hr2 : r ≤ c.size + 852 := by have := hr.out; have := hoh.out; omega
    replace hr2 := Lib.hid hr2
    gi_wp2_with fail
    refine hR.out.mono ?_
    clear hR hy
    rintro e W3 (⟨rfl, hJ3, hk3⟩ | ⟨rfl, hJx3⟩)
    ·replace hx1 := kpS_box hk3 hx1
     replace hx2 := kpS_box2 hk3 hx2
     have c3 := hx1.cell
     clear hk3 hJs hW11 c1 c2 t0 t1 t2 t3 t4 t5 t6 t7 t8 q0 q1 q2
     gi_wp2_with fail
     refine ⟨trivial, (callsIn_wide.2 (cF2.out _)).mono ?_⟩
     rintro e w4 ⟨rfl, hb4⟩
     replace hx1 := boxed_below hx1 hb4
     replace hx2 := boxed_below hx2 hb4
     replace hJ3 := hJ _ _ _ hJ3 (grown_of hb4)
     clear hb4 c3
     gi_wp2
     go_roundw
     case rel => exact ⟨r, _, hr2.out, rfl, rfl, hU3, hJ3, hx1, hx2⟩
     case measure => exact mu_less (by have := hoh.out; omega) (by have := hr.out; omega)
    ·clear hJs hW11 c1 c2 t0 t1 t2 t3 t4 t5 t6 t7 t8 q0 q1 q2
     gi_wp2
     refine bodyPost_ret (results_none rfl _ _ _) rfl ?_
     exact ⟨⟨_, rfl⟩, .inr ⟨_, trivial, hJx3⟩⟩
theorem sightings_stops (c : ByteArray) (hc : c.size ≤ 1000000) (k b1 b2 : Nat) (w : World) (h1 : Boxed w b1 9 (.string c)) (h2 : Boxed w b2 3 (.int .i64 (k : Int))) :
  SeqStopsK Fence.wide 2 Tryz.prog 64 #[.pointer (some ⟨b1, 0, none⟩), .pointer (some ⟨b2, 0, none⟩)] (fun x : Sg => #[sgV (k, x)]) (KpS b1 b2) (fun ys => Scan c 0 ys) (fun _ => True) (c.size + 1) w :=
 fun l J Jx W hW hJ _ hY h0 => sightings1_in c hc k l b1 b2 J Jx (fun pre A B h hg => hJ pre A B none h hg (fun r e => by cases e)) hY W (boxed_below h1 hW) (boxed_below h2 hW) h0
end S14
end Go.Proofs.YtiodkllckcpinaaGreatDoor
