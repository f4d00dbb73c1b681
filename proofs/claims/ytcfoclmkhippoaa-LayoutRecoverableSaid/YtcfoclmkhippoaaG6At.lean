/- A row of elements of the call's own as cells that may be written; 'copy' into a row just made; lists told apart by their coefficients; one coefficient changed. -/
import Derived.Test.YtcfoclmkhippoaaG6Sl
import Derived.Laws.CopyOwn
import Derived.StillTailTactics
namespace Go.Proofs.Ytcfoclmkhippoaa.G6
set_option maxRecDepth 100000
open Go.Proofs.Ytcfoclmkhippoaa.G5
open Go.RowKit Mem
set_option linter.unusedVariables false
set_option linter.unusedSimpArgs false

theorem rs_set (l : List R) (k : Nat) (c : R) : rs (l.set k c) = (rs l).set k (bv c) := by simp [rs, List.map_set]
theorem VAt.setR {w : World} {g : Nat} {l : List R} (h : VAt w g (rs l)) {k : Nat} (hk : k < l.length) (c : R) : VAt (w.setCell ⟨g, k, none⟩ (bv c)) g (rs (l.set k c)) := by
  rw [rs_set]
  exact VAt.set h (by rw [rs_len]; exact hk) _
theorem VAt.readR {w : World} {g : Nat} {l : List R} (h : VAt w g (rs l)) {k : Nat} (hk : k < l.length) : w.cell? ⟨g, k, none⟩ = some (bv (l.getD k 0)) ∧ w.frozen? ⟨g, k, none⟩ = false := by
  have := h k (by rw [rs_len]; exact hk)
  rw [rs_get] at this
  exact this
theorem IsSl.of_at {w : World} {g n : Nat} {l : List R} (h : VAt w g (rs l)) (hl : l.length = n) (hn : n ≤ 9223372036854775807) (hg : g < w.heap.size) : IsSl w (some ⟨g, 0, none⟩) n l := by
  subst hl
  exact ⟨Nat.le_refl _, hn, (fun h => by cases h), fun j hj => ⟨g, 0, rfl, hg, by rw [Nat.zero_add]; exact (h j hj).1⟩⟩
theorem zeros_at (w : World) (n : Nat) (hn : n ≤ 1000000) : VAt (w.alloc (.cells (madeCells #[.int .u8 0] n) 5)) w.heap.size (rs (List.replicate n 0#8)) := VAt.of_own (own_zeros w n hn)
/-- The front of a slice, the room kept. -/
theorem IsSl.front {w : World} {A : Option Addr} {c : Nat} {l m : List R} (h : IsSl w A c l) (n : Nat) (hm : l.take n = m) : IsSl w A c m := by
  subst hm
  exact ⟨by have := h.hle; rw [List.length_take]; omega, h.hcap, h.hnil, rd_take h.rd n⟩
theorem trim_take : ∀ l : List R, l.take (trim l).length = trim l
  | [] => rfl
  | a :: l => by
    have ih := trim_take l
    have e : trim (a :: l) = (if trim l = [] then (if a = 0 then [] else [a]) else a :: trim l) := rfl
    rw [e]
    by_cases h : trim l = []
    · rw [if_pos h]
      by_cases h0 : a = 0
      · rw [if_pos h0]; rfl
      · rw [if_neg h0]; rfl
    · rw [if_neg h, List.length_cons, List.take_succ_cons, ih]
theorem eq_getD {l m : List R} (hl : l.length = m.length) (h : ∀ j, j < l.length → l.getD j 0 = m.getD j 0) : l = m := by
  refine List.ext_getElem hl fun j h1 h2 => ?_
  have := h j h1
  simpa [List.getD_eq_getElem?_getD, List.getElem?_eq_getElem h1, List.getElem?_eq_getElem h2] using this
theorem getD_set (l : List R) (k j : Nat) (c : R) (hk : k < l.length) : (l.set k c).getD j 0 = if j = k then c else l.getD j 0 := by
  by_cases h : j = k
  · subst h
    rw [if_pos rfl]
    simp [List.getD_eq_getElem?_getD, List.getElem?_set_self, hk]
  · rw [if_neg h]
    simp [List.getD_eq_getElem?_getD, List.getElem?_set_ne (Ne.symm h)]
theorem getD_zeros (n j : Nat) : (List.replicate n 0#8).getD j 0 = 0 := by
  by_cases h : j < n
  · simp [List.getD_eq_getElem?_getD, List.getElem?_replicate, h]
  · exact getD_far _ _ (by simp; omega)
theorem getD_app (l m : List R) (j : Nat) : (l ++ m).getD j 0 = if j < l.length then l.getD j 0 else m.getD (j - l.length) 0 := by
  by_cases h : j < l.length
  · rw [if_pos h]
    simp [List.getD_eq_getElem?_getD, List.getElem?_append_left h]
  · rw [if_neg h]
    simp [List.getD_eq_getElem?_getD, List.getElem?_append_right (by omega : l.length ≤ j)]
theorem getD_take (l : List R) (n j : Nat) : (l.take n).getD j 0 = if j < n then l.getD j 0 else 0 := by
  by_cases h : j < n
  · rw [if_pos h]
    simp [List.getD_eq_getElem?_getD, List.getElem?_take, h]
  · rw [if_neg h]
    exact getD_far _ _ (by rw [List.length_take]; omega)
theorem ev_set (x c : R) : ∀ (l : List R) (i : Nat), i < l.length → ev (l.set i c) x = ev l x ^^^ tms (pw x i) (l.getD i 0 ^^^ c)
  | [], i, h => by simp at h
  | a :: l, 0, _ => by
    show c ^^^ tms x (ev l x) = (a ^^^ tms x (ev l x)) ^^^ tms 1 (a ^^^ c)
    rw [one_tms]
    simp only [BitVec.xor_assoc, BitVec.xor_comm, xac, xcan, xs, xz, zx]
  | a :: l, i + 1, h => by
    show a ^^^ tms x (ev (l.set i c) x) = (a ^^^ tms x (ev l x)) ^^^ tms (tms (pw x i) x) (l.getD i 0 ^^^ c)
    rw [ev_set x c l i (by simpa using h), tms_b, BitVec.xor_assoc, tms_comm (pw x i) x, tms_assoc]
theorem ad_zeros (l : List R) (n : Nat) : ∀ j, (l ++ List.replicate n 0#8).getD j 0 = l.getD j 0 := fun j => by
  rw [getD_app]
  by_cases h : j < l.length
  · rw [if_pos h]
  · rw [if_neg h, getD_zeros, getD_far _ _ (by omega)]
theorem nz_el (x : R) : ((x.toNat : Int) != 0) = !(x == 0#8) := by rw [bne, bv_eq1 x 0#8 |> (show ((x.toNat : Int) == 0) = (x == 0#8) from ·)]
theorem z_el (x : R) : ((x.toNat : Int) == 0) = (x == 0#8) := bv_eq1 x 0#8

theorem at_of_heap {w : World} {g : Nat} {e : TypeId} {l : List R} (h : w.heap[g]? = some (.cells (rs l).toArray e (0, 0))) : VAt w g (rs l) ∧ g < w.heap.size := by
  refine ⟨fun j hj => ?_, (Array.getElem?_eq_some_iff.1 h).1⟩
  constructor <;> simp [World.cell?, World.frozen?, h, List.getElem?_eq_getElem hj]
theorem make_as (w : World) (m n : Nat) (e : m = n) (h : n ≤ 1000000) : (Instr.makeSlice 67 (.int .i64 (m : Int)) (.int .i64 (m : Int))).run Try.prog w = .ok (.slice (some ⟨w.heap.size, 0, none⟩) n n) (w.alloc (.cells (madeCells #[.int .u8 0] n) 5)) := by
  subst e
  exact make_zeros w m h
/-- Behind 'out := make([]byte, n); copy(out, l)'. -/
structure Copied (W0 w' : World) (n : Nat) (l : List R) : Prop where
  row : VAt w' W0.heap.size (rs (l.take n ++ List.replicate (n - l.length) 0#8))
  lt : W0.heap.size < w'.heap.size
  below : Below W0.heap.size W0 w'
/-- 'copy(out, src)' right behind 'out := make([]byte, n)'. -/
theorem wpList_copy_made {W0 : World} {ops : Array Oper} {rest : List Oper} {o : Oper} {a : Act} {Q : Exit → Act → World → Prop} (hgd : o.guard = none) (d s : Operand)
    (ho : o.op = .call { callee := .builtin .copy, args := #[d, s], argTypes := #[67, 67] })
    (n : Nat) (A : Option Addr) (nl c : Nat) (l : List R) (hnl : l.length = nl) (hd : a.eval d = .slice (some ⟨W0.heap.size, 0, none⟩) n n) (hs : a.eval s = .slice A nl c) (h : IsSl W0 A c l) (hn : n ≤ 1000000)
    (K : ∀ w' v, Copied W0 w' n l → wpList Try.prog ops Q rest (a.put o.dst v) w') :
    wpList Try.prog ops Q (o :: rest) a (W0.alloc (.cells (madeCells #[.int .u8 0] n) 5)) := by
  subst hnl
  have hz : (madeCells #[.int .u8 0] n) = (rs (List.replicate n 0#8)).toArray := by
    have e1 : (madeCells #[.int .u8 0] n).toList.toArray = madeCells #[.int .u8 0] n := Array.toArray_toList
    rw [← e1, toList_madeCells_one]
    congr 1
    unfold rs
    rw [List.map_replicate]
    rfl
  have hg : (W0.alloc (.cells (madeCells #[.int .u8 0] n) 5)).heap[W0.heap.size]? = some (.cells (rs (List.replicate n 0#8)).toArray 5 (0, 0)) := by rw [← hz]; exact heap_alloc_new W0 _
  obtain ⟨i0, hi, hz0, hz1, hz2⟩ := info_parts info_byte
  have hll : (l.take n).length = min l.length n := by rw [List.length_take, Nat.min_comm]
  refine wpList_copy_splice hgd d s 67 67 ho 5 Try.underlying67 (by rw [hi]; exact congrArg some hz1) _ _ n n l.length c hd hs W0.heap.size 0 (rs (List.replicate n 0#8)) 5 hg (rs (l.take n)) (by rw [rs_len, hll]) (fun hpos => ⟨rfl, ?_⟩) (by rw [rs_len, rs_len, hll, List.length_replicate]; exact (Nat.zero_add _).symm ▸ Nat.min_le_right _ _) (rs_one _) W0.heap.size W0 ((Below.refl _ _).alloc (Nat.le_refl _) _) (Nat.le_refl _) fun w' hw hb => ?_
  · rw [rs_len, hll] at hpos
    obtain ⟨b, o', rfl, hbl, _⟩ := h.read 0 (by omega)
    refine ⟨_, rfl, fun j v hj => ?_⟩
    have hj' : j < (rs (l.take n)).length := (List.getElem?_eq_some_iff.1 hj).1
    have hjl : j < l.length := by rw [rs_len, hll] at hj'; omega
    obtain ⟨b2, o2, hA, hbl2, hc⟩ := (h.below ((Below.refl _ _).alloc (Nat.le_refl _) (.cells (madeCells #[.int .u8 0] n) 5))).read j hjl
    injection hA with hA
    injection hA with hA1 hA2
    subst hA1 hA2
    have : (⟨b, o', none⟩ : Addr).add j = ⟨b, o' + j, none⟩ := by
      by_cases h0 : j = 0
      · subst h0; rfl
      · simp [Addr.add, h0]
    rw [this, hc]
    rw [List.getElem?_eq_getElem hj', rs_get] at hj
    injection hj with hj
    rw [← hj, getD_take, if_pos (by rw [rs_len, hll] at hj'; omega)]
  · have hw := hw.out
    have e : splice (rs (List.replicate n 0#8)) 0 (rs (l.take n)) = rs (l.take n ++ List.replicate (n - l.length) 0#8) := by
      unfold splice
      rw [rs_append, rs_len, hll, List.take_zero, List.nil_append, Nat.zero_add]
      congr 1
      unfold rs
      rw [← List.map_drop, List.drop_replicate]
      congr 2
      omega
    rw [e] at hw
    exact K w' _ ⟨(at_of_heap hw).1, (at_of_heap hw).2, hb⟩
end Go.Proofs.Ytcfoclmkhippoaa.G6
