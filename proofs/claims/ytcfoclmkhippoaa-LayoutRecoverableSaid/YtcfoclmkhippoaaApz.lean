/- 'append([]byte(s), make([]byte, k)...)': a row that holds the bytes of s and k zeros, with or without room for them. -/
import Derived.Test.YtcfoclmkhippoaaMem
import Derived.Lib.AppendZerosOnto
import Derived.Lib.AppendZeros
import Derived.Laws.CopyRow
namespace Go.Proofs.Ytcfoclmkhippoaa.Mem
open Go.RowKit Go.Lib
set_option linter.unusedVariables false
set_option linter.unusedSimpArgs false

/-- Cells written ahead of the frozen range. -/
theorem run_storeCells_ahead (P : Program) (g o : Nat) (t : TypeId) (fz : Nat × Nat) : ∀ (vs : List Value) (i : Nat) (cur : Array Value) (w : World), w.heap[g]? = some (.cells cur t fz) → o + i + vs.length ≤ fz.1 → o + i + vs.length ≤ cur.size → (∀ v ∈ vs, v.oneCell' = true) →
    (storeCells ⟨g, o, none⟩ vs i).run P w = .ok () (w.setRow g (cur.toList.take (o + i) ++ vs ++ cur.toList.drop (o + i + vs.length)).toArray)
  | [], i, cur, w, hg, _, _, _ => by
    simp only [storeCells, List.append_nil, List.length_nil, Nat.add_zero, List.take_append_drop, Array.toArray_toList]
    rw [setRow_self w g cur t fz hg]
    rfl
  | v :: rest, i, cur, w, hg, hfz, hl, h1 => by
    have hi : o + i < cur.size := by simp at hl; omega
    have hadd : (⟨g, o, none⟩ : Addr).add i = ⟨g, o + i, none⟩ := by unfold Addr.add; split <;> simp_all
    have hcell : w.cell? ⟨g, o + i, none⟩ = some cur[o + i] := by simp [World.cell?, hg, hi]
    have hfro : w.frozen? ⟨g, o + i, none⟩ = false := by
      obtain ⟨lo, hi'⟩ := fz
      simp only [World.frozen?, hg, Bool.and_eq_false_iff, decide_eq_false_iff_not]
      left
      simp only [List.length_cons] at hfz
      omega
    have hst : (store ((⟨g, o, none⟩ : Addr).add i) v).run P w = .ok () (w.setRow g (cur.setIfInBounds (o + i) v)) := by
      rw [hadd, run_store P w _ v _ (h1 v (by simp)), hcell]
      simp [hfro, setCell_eq_setRow w g (o + i) cur t fz v hg]
    have ih := run_storeCells_ahead P g o t fz rest (i + 1) (cur.setIfInBounds (o + i) v) (w.setRow g (cur.setIfInBounds (o + i) v)) (setRow_heap w g cur _ t _ hg) (by simp at hfz ⊢; omega) (by simp at hl ⊢; omega) (fun x hx => h1 x (by simp [hx]))
    simp only [storeCells, Sem.run_bind, hst, Result.andThen_ok, ih, setRow_setRow]
    congr 3
    rw [Array.toList_setIfInBounds, ← Nat.add_assoc]
    have := list_seg_step cur.toList (o + i) v rest (by simp at hl ⊢; omega)
    rw [show o + i + (rest.length + 1) = o + i + (v :: rest).length by simp] at this
    rw [← this]
theorem run_append_room_zeros {P : Program} (w : World) (t tn ty e : TypeId) (i : TypeInfo) (z : Value) (kq kn : IntKind) (ht : P.underlying t = some (.slice e)) (htn : P.underlying tn = some (.int kn)) (hi : P.info? e = some i) (hz : i.zero = some z) (hs1 : i.size = 1)
    (g sLen sCap : Nat) (k : Nat) (h0 : 0 < k) (hg : sLen + k ≤ sCap) (h63 : ((k : Nat) : Int) ≤ 9223372036854775807) (h48 : k * i.bytes ≤ 281474976710656) (w' : World)
    (hst : (storeCells ⟨g, sLen, none⟩ (Builtin.zeroCells z.cells k).toList).run P w = .ok () w') :
    (Builtin.append_ #[t, tn] ty #[.slice (some ⟨g, 0, none⟩) sLen sCap, .int kq k]).run P w = .ok (.slice (some ⟨g, 0, none⟩) (sLen + k) sCap) w' := by
  have hk : k ≠ 0 := by omega
  have hw : IntKind.i64.wrap (k : Int) = k := by rw [IntKind.wrap_i64]; omega
  have h48i : ¬ (281474976710656 < (k : Int) * (i.bytes : Int)) := by
    rw [← Int.natCast_mul]
    omega
  have hneg : ¬ ((k : Int) < 0) := by omega
  have hadd : (⟨g, 0, none⟩ : Addr).add sLen = ⟨g, sLen, none⟩ := add_at g sLen
  simp [Builtin.append_, run_underlying ht, run_underlying htn, sizeOf, typeInfo, zeroValue, hi, hz, asInt, asIntOf, hw, hneg, h48i, hs1, hk, hg, hadd, hst]
/-- Behind 'append([]byte(s), make([]byte, k)...)'. -/
structure Padded (B : Nat) (w w' : World) (G : Nat) (l : List UInt8) (k : Nat) : Prop where
  row : VAt w' G (bys l ++ List.replicate k (.int .u8 0))
  lo : B ≤ G
  lt : G < w'.heap.size
  below : Below B w w'
theorem zeroCells_u8 (k : Nat) : (Builtin.zeroCells (Value.int .u8 0).cells k).toList = List.replicate k (.int .u8 0) := by
  apply List.ext_getElem
  · simp [Builtin.zeroCells, Value.cells]
  · intro j h1 h2
    simp [Builtin.zeroCells, Value.cells, Nat.mod_one]
theorem heap_drew (w : World) : w.drew.heap = w.heap := rfl
theorem nextslicecap_small {n c : Nat} (hn : n ≤ 1000000) (h : c ≤ 1000000) : Builtin.nextslicecap n c ≤ 100000000 := by
  unfold Builtin.nextslicecap
  have hg : ∀ (r c b : Nat), c ≤ b → Builtin.growBy n r c ≤ b * 2 ^ r + 768 * 2 ^ r := by
    intro r
    induction r with
    | zero => intro c b h; simp [Builtin.growBy]; omega
    | succ r ih =>
      intro c b h
      unfold Builtin.growBy
      have h2 : 2 ^ (r + 1) = 2 * 2 ^ r := by rw [Nat.pow_succ, Nat.mul_comm]
      have hp : 1 ≤ 2 ^ r := Nat.one_le_two_pow
      split
      · have : b ≤ b * 2 ^ (r + 1) := Nat.le_mul_of_pos_right _ (by omega)
        omega
      · have := ih (c + (c + 768) / 4) (2 * b + 192) (by omega)
        rw [Nat.add_mul, Nat.mul_assoc, Nat.mul_comm 2, Nat.mul_assoc, Nat.mul_comm (2 ^ r) 2, ← h2] at this
        have e : 192 * 2 ^ r + 768 * 2 ^ r ≤ 768 * 2 ^ (r + 1) := by omega
        omega
  split
  · omega
  · split
    · omega
    · have := hg 4 c c (Nat.le_refl _)
      omega
theorem append_zeros {P : Program} (w : World) (t tn ty e : TypeId) (i : TypeInfo) (kq kn : IntKind) (ht : P.underlying t = some (.slice e)) (htn : P.underlying tn = some (.int kn)) (hi : P.info? e = some i) (hz : i.zero = some (.int .u8 0)) (hs1 : i.size = 1) (hb1 : i.bytes = 1)
    (g n cap : Nat) (C : Array Value) (l : List UInt8) (hl : l.length = n) (hg : w.heap[g]? = some (.cells C e (cap, cap + 1))) (hC : C.size = cap) (hn : n ≤ cap) (hcap : cap ≤ 9223372036854775807) (hlist : C.toList.take n = bys l) (k : Nat) (h0 : 0 < k) (hk : n + k ≤ 1000000) :
    ∃ (w' : World) (G c : Nat), (Builtin.append_ #[t, tn] ty #[.slice (some ⟨g, 0, none⟩) n cap, .int kq k]).run P w = .ok (.slice (some ⟨G, 0, none⟩) (n + k) c) w' ∧ n + k ≤ c ∧ c ≤ 9223372036854775807 ∧ Padded g w w' G l k := by
  have hglt : g < w.heap.size := (Array.getElem?_eq_some_iff.1 hg).1
  have hbl : (bys l).length = n := by rw [bys_len, hl]
  have hrl : (bys l ++ List.replicate k (Value.int .u8 0)).length = n + k := by simp [hbl]
  by_cases hroom : n + k ≤ cap
  · have hst := run_storeCells_ahead P g n e (cap, cap + 1) (List.replicate k (.int .u8 0)) 0 C w hg (by simpa using hroom) (by simpa [hC] using hroom) (by intro v hv; rw [List.eq_of_mem_replicate hv]; rfl)
    rw [Nat.add_zero, List.length_replicate, hlist] at hst
    obtain ⟨L, hL⟩ : ∃ L, (bys l ++ List.replicate k (.int .u8 0) ++ C.toList.drop (n + k)) = L := ⟨_, rfl⟩
    rw [hL] at hst
    have hh := setRow_heap w g C L.toArray e _ hg
    refine ⟨w.setRow g L.toArray, g, cap, run_append_room_zeros w t tn ty e i (.int .u8 0) kq kn ht htn hi hz hs1 g n cap k h0 hroom (by omega) (by rw [hb1]; omega) _ (by rw [zeroCells_u8]; exact hst), hroom, hcap, fun j hj => ?_, Nat.le_refl _, (Array.getElem?_eq_some_iff.1 hh).1, ⟨rfl, rfl, rfl, by simp [World.setRow], fun m hm => setRow_other w g m _ (by omega)⟩⟩
    have hj2 : j < n + k := by rw [← hrl]; exact hj
    refine ⟨?_, ?_⟩
    · rw [cell_of_row _ g j _ e _ hh, ← hL]
      simp only [List.getElem?_toArray]
      rw [List.getElem?_append_left hj, List.getElem?_eq_getElem hj]
    · simp only [World.frozen?, hh, Bool.and_eq_false_iff, decide_eq_false_iff_not]
      left
      omega
  · have hfc : (Builtin.firstCells i.size n (.slice (some ⟨g, 0, none⟩) n cap)).run P w.drew = .ok (bys l).toArray w.drew := by
      refine run_firstCells_some _ i.size n ⟨g, 0, none⟩ n cap (bys l) (by rw [hbl, hs1]; omega) fun j v hj => ?_
      have hj' : j < n := by rw [← hbl]; exact (List.getElem?_eq_some_iff.1 hj).1
      rw [add_at]
      refine (cell_of_row w g j C e _ hg).trans ?_
      rw [← hlist, List.getElem?_take, if_pos hj'] at hj
      simpa using hj
    have hgrow := run_append_grow_zeros w t tn ty e i (.int .u8 0) kq kn ht htn hi hz (some ⟨g, 0, none⟩) n cap (bys l) hfc k h0 (by omega) (by omega) (by omega) (by rw [hb1]; omega) (by
      rw [hb1]
      have := nextslicecap_small (n := n + k) (c := cap) hk (by omega)
      omega)
    have hge := grownCap_ge w (n + k) cap e
    refine ⟨_, w.heap.size, grownCap w (n + k) cap e, hgrow, hge, grownCap_le_maxLen w _ _ _ (by unfold maxLen; omega), fun j hj => ?_, by omega, by simp, ⟨rfl, rfl, rfl, by simp, fun m hm => Below.heap_alloc w.drew _ _ (by rw [heap_drew]; omega)⟩⟩
    have hj2 : j < n + k := by rw [← hrl]; exact hj
    refine ⟨?_, ?_⟩
    · show (w.drew.alloc _).cell? ⟨w.drew.heap.size, j, none⟩ = _
      rw [World.cell?_alloc_new]
      have e1 : ((bys l).toArray ++ Builtin.zeroCells (Value.int .u8 0).cells k).toList = bys l ++ List.replicate k (.int .u8 0) := by rw [Array.toList_append, zeroCells_u8]
      have hs : ((bys l).toArray ++ Builtin.zeroCells (Value.int .u8 0).cells k).size = n + k := by rw [← Array.length_toList, e1, hrl]
      rw [Array.getElem?_append_left (by rw [hs]; exact hj2), ← Array.getElem?_toList, e1, List.getElem?_eq_getElem hj]
    · show (w.drew.alloc _).frozen? ⟨w.drew.heap.size, j, none⟩ = _
      rw [World.frozen?_alloc_mark]
      simp
end Go.Proofs.Ytcfoclmkhippoaa.Mem
