/- Frames in memory: their cells, read and written; what Marshal and Unmarshal hand back. No walk here. -/
import Derived.Test.YtgpdfkallgjocaaGreatDoorRows
import Derived.Test.YtgpdfkallgjocaaGreatDoorM13AC
import Derived.Lib.Hide
import Derived.Laws.MakeOwn
import Derived.RangeFuncRecord
import Derived.WalkKit
import Derived.BigQuiet
import Derived.Deep.QuietTactic
import Derived.WalkSpells
import Derived.WalkLawsBesides
namespace Go.Proofs.YtgpdfkallgjocaaGreatDoor.F13
set_option maxRecDepth 100000
open Go.RowKit Mem
set_option linter.unusedVariables false
set_option linter.unusedSimpArgs false

theorem two_made (w : World) (a b : Obj) : Below w.heap.size w ((w.alloc a).alloc b) := ((Below.refl w.heap.size w).alloc (Nat.le_refl _) _).alloc (by simp) _
theorem box_cell (w : World) (cs : Array Value) (T : TypeId) (b : Obj) (i : Nat) (v : Value) (h : cs[i]? = some v) : ((w.alloc (.cells cs T)).alloc b).cell? ⟨w.heap.size, i, none⟩ = some v := by
  refine (((Below.refl (w.alloc (.cells cs T)).heap.size (w.alloc (.cells cs T))).alloc (Nat.le_refl _) b).cell (p := ⟨w.heap.size, i, none⟩) (by simp)).trans ?_
  rw [World.cell?_alloc_new]
  exact h
/-! ### a checksum of one string -/
theorem rd_one (w : World) (e : TypeId) (s : ByteArray) : Rd (w.alloc (.cells #[.string s] e)) (some ⟨w.heap.size, 0, none⟩) (strVs [s.data.toList]) := fun j hj => by
  have h0 : j = 0 := by
    have : (strVs [s.data.toList]).length = 1 := rfl
    omega
  subst h0
  refine ⟨w.heap.size, 0, rfl, by simp, ?_⟩
  rw [World.cell?_alloc_new]
  rfl
def mS (f : Fr) : ByteArray := if ckE f = 0 then ⟨(msgL f).toArray⟩ else ⟨#[]⟩
theorem mS_ok {f : Fr} (h : ckE f = 0) : mS f = ⟨(msgL f).toArray⟩ := by unfold mS; rw [if_pos h]
theorem mS_no {f : Fr} (h : ckE f ≠ 0) : mS f = ⟨#[]⟩ := by unfold mS; rw [if_neg h]
theorem app_list (a b : ByteArray) : (a ++ b).data.toList = a.data.toList ++ b.data.toList := by
  rw [ByteArray.data_append, Array.toList_append]
theorem str_eq {a b : ByteArray} (h : a.data.toList = b.data.toList) : a = b := ByteArray.ext (Array.toList_inj.1 h)
theorem vat_of_block {W : World} {g : Nat} {l : List Value} {T : TypeId} (h : W.heap[g]? = some (.cells l.toArray T (0, 0))) : VAt W g l := fun j hj => by
  refine ⟨?_, ?_⟩
  · simp [World.cell?, h, hj]
  · simp [World.frozen?, h]
theorem vat_alloc (w : World) (T : TypeId) (l : List Value) : VAt (w.alloc (.cells l.toArray T)) w.heap.size l := vat_of_block (World.alloc_heap_new w (.cells l.toArray T))
theorem unE_len {l : List UInt8} (h : l.length ≠ 44) : unE l = 4 ∧ unF l = zeroF := by
  have e : unE l = 4 := by unfold unE; rw [if_pos h]
  exact ⟨e, by unfold unF; rw [e]; rfl⟩
theorem unE_sum {l : List UInt8} (h : l.length = 44) (h' : K3.byL (K3.sumL (l.take 40)) ≠ l.drop 40) : unE l = 5 ∧ unF l = zeroF := by
  have e : unE l = 5 := by unfold unE; rw [if_neg (fun x => x h), if_pos h']
  exact ⟨e, by unfold unF; rw [e]; rfl⟩
theorem unE_ok {l : List UInt8} (h : l.length = 44) (h' : K3.byL (K3.sumL (l.take 40)) = l.drop 40) : unE l = ckE (frOf l) ∧ unF l = (if ckE (frOf l) = 0 then frOf l else zeroF) := by
  have e : unE l = ckE (frOf l) := by unfold unE; rw [if_neg (fun x => x h), if_neg (fun x => x h')]
  exact ⟨e, by unfold unF; rw [e]⟩
theorem ext_list (a : ByteArray) (m n : Nat) : (a.extract m n).data.toList = (a.data.toList.take n).drop m := by
  rw [ByteArray.data_extract, Array.toList_extract]
  simp [List.extract, List.drop_take]
theorem str_beq (a b : ByteArray) : (a.toList == b.toList) = decide (a.data.toList = b.data.toList) := by
  rw [ByteArray.toList_eq, ByteArray.toList_eq, Bool.eq_iff_iff, beq_iff_eq, decide_eq_true_iff]
def putN (B : Nat) : World → Nat → List Value → World
  | W, _, [] => W
  | W, k, v :: l => putN B (W.setCell ⟨B, k, none⟩ v) (k + 1) l
theorem putN_at {B : Nat} : ∀ (l : List Value) (k : Nat) (W : World) (L : List Value), VAt W B L → k + l.length ≤ L.length → VAt (putN B W k l) B (L.take k ++ l ++ L.drop (k + l.length))
  | [], k, W, L, h, _ => by
    rw [List.append_nil, List.length_nil, Nat.add_zero, List.take_append_drop]
    exact h
  | v :: l, k, W, L, h, hk => by
    have hkL : k < L.length := by rw [List.length_cons] at hk; omega
    have ih := putN_at l (k + 1) _ _ (h.set (k := k) hkL v) (by rw [List.length_set]; rw [List.length_cons] at hk; omega)
    have e1 : (L.set k v).take (k + 1) = L.take k ++ [v] := by
      rw [List.take_succ_eq_append_getElem (by rw [List.length_set]; exact hkL), List.take_set_of_le (Nat.le_refl k), List.getElem_set_self]
    have e2 : (L.set k v).drop (k + 1 + l.length) = L.drop (k + (v :: l).length) := by
      rw [List.drop_set_of_lt (by omega), List.length_cons]
      congr 1
      omega
    rw [e1, e2, List.append_assoc (L.take k)] at ih
    exact ih
theorem putN_all {B : Nat} {l : List Value} {W : World} {L : List Value} (h : VAt W B L) (hl : l.length = L.length) : VAt (putN B W 0 l) B l := by
  have := putN_at l 0 W L h (by omega)
  rwa [List.take_zero, List.nil_append, List.drop_of_length_le (by omega), List.append_nil] at this
theorem putN_below {X B : Nat} {w : World} (hB : X ≤ B) : ∀ (l : List Value) (k : Nat) (W : World), Below X w W → Below X w (putN B W k l)
  | [], _, _, h => h
  | v :: l, k, W, h => putN_below hB l (k + 1) _ (h.setCell (p := ⟨B, k, none⟩) hB v)
theorem putN_size (B : Nat) : ∀ (l : List Value) (k : Nat) (W : World), (putN B W k l).heap.size = W.heap.size
  | [], _, _ => rfl
  | v :: l, k, W => by
    show (putN B (W.setCell ⟨B, k, none⟩ v) (k + 1) l).heap.size = _
    rw [putN_size B l (k + 1)]
    simp
structure Nine (W : World) (B : Nat) (f : Fr) : Prop where
  c0 : W.cell? ⟨B, 0, none⟩ = some (.int .i64 f.kind)
  c1 : W.cell? ⟨B, 1, none⟩ = some (.int .i64 f.reel)
  c2 : W.cell? ⟨B, 2, none⟩ = some (.int .i64 f.sess)
  c3 : W.cell? ⟨B, 3, none⟩ = some (.int .i64 f.idx)
  c4 : W.cell? ⟨B, 4, none⟩ = some (.int .i64 f.len)
  c5 : W.cell? ⟨B, 5, none⟩ = some (.int .i64 f.data)
  c6 : W.cell? ⟨B, 6, none⟩ = some (.int .i64 f.spare)
  c7 : W.cell? ⟨B, 7, none⟩ = some (.int .u32 (f.arch.toNat : Int))
  c8 : W.cell? ⟨B, 8, none⟩ = some (.string f.pay)
structure Nine0 (W : World) (B : Nat) : Prop where
  z0 : W.frozen? ⟨B, 0, none⟩ = false
  z1 : W.frozen? ⟨B, 1, none⟩ = false
  z2 : W.frozen? ⟨B, 2, none⟩ = false
  z3 : W.frozen? ⟨B, 3, none⟩ = false
  z4 : W.frozen? ⟨B, 4, none⟩ = false
  z5 : W.frozen? ⟨B, 5, none⟩ = false
  z6 : W.frozen? ⟨B, 6, none⟩ = false
  z7 : W.frozen? ⟨B, 7, none⟩ = false
  z8 : W.frozen? ⟨B, 8, none⟩ = false
theorem nine_of {W : World} {B : Nat} {f : Fr} (h : VAt W B f.cells.toList) : Nine W B f ∧ Nine0 W B :=
  ⟨⟨(h 0 (show 0 < 9 by decide)).1, (h 1 (show 1 < 9 by decide)).1, (h 2 (show 2 < 9 by decide)).1, (h 3 (show 3 < 9 by decide)).1, (h 4 (show 4 < 9 by decide)).1, (h 5 (show 5 < 9 by decide)).1, (h 6 (show 6 < 9 by decide)).1, (h 7 (show 7 < 9 by decide)).1, (h 8 (show 8 < 9 by decide)).1⟩,
   ⟨(h 0 (show 0 < 9 by decide)).2, (h 1 (show 1 < 9 by decide)).2, (h 2 (show 2 < 9 by decide)).2, (h 3 (show 3 < 9 by decide)).2, (h 4 (show 4 < 9 by decide)).2, (h 5 (show 5 < 9 by decide)).2, (h 6 (show 6 < 9 by decide)).2, (h 7 (show 7 < 9 by decide)).2, (h 8 (show 8 < 9 by decide)).2⟩⟩
structure Cells9 (W : World) (B : Nat) (v0 v1 v2 v3 v4 v5 v6 v7 v8 : Value) : Prop where
  c0 : W.cell? ⟨B, 0, none⟩ = some v0
  c1 : W.cell? ⟨B, 1, none⟩ = some v1
  c2 : W.cell? ⟨B, 2, none⟩ = some v2
  c3 : W.cell? ⟨B, 3, none⟩ = some v3
  c4 : W.cell? ⟨B, 4, none⟩ = some v4
  c5 : W.cell? ⟨B, 5, none⟩ = some v5
  c6 : W.cell? ⟨B, 6, none⟩ = some v6
  c7 : W.cell? ⟨B, 7, none⟩ = some v7
  c8 : W.cell? ⟨B, 8, none⟩ = some v8
  z0 : W.frozen? ⟨B, 0, none⟩ = false
  z1 : W.frozen? ⟨B, 1, none⟩ = false
  z2 : W.frozen? ⟨B, 2, none⟩ = false
  z3 : W.frozen? ⟨B, 3, none⟩ = false
  z4 : W.frozen? ⟨B, 4, none⟩ = false
  z5 : W.frozen? ⟨B, 5, none⟩ = false
  z6 : W.frozen? ⟨B, 6, none⟩ = false
  z7 : W.frozen? ⟨B, 7, none⟩ = false
  z8 : W.frozen? ⟨B, 8, none⟩ = false
theorem cells9 {W : World} {B : Nat} {v0 v1 v2 v3 v4 v5 v6 v7 v8 : Value} (h : VAt W B [v0, v1, v2, v3, v4, v5, v6, v7, v8]) : Cells9 W B v0 v1 v2 v3 v4 v5 v6 v7 v8 :=
  ⟨(h 0 (show 0 < 9 by decide)).1, (h 1 (show 1 < 9 by decide)).1, (h 2 (show 2 < 9 by decide)).1, (h 3 (show 3 < 9 by decide)).1, (h 4 (show 4 < 9 by decide)).1, (h 5 (show 5 < 9 by decide)).1, (h 6 (show 6 < 9 by decide)).1, (h 7 (show 7 < 9 by decide)).1, (h 8 (show 8 < 9 by decide)).1,
   (h 0 (show 0 < 9 by decide)).2, (h 1 (show 1 < 9 by decide)).2, (h 2 (show 2 < 9 by decide)).2, (h 3 (show 3 < 9 by decide)).2, (h 4 (show 4 < 9 by decide)).2, (h 5 (show 5 < 9 by decide)).2, (h 6 (show 6 < 9 by decide)).2, (h 7 (show 7 < 9 by decide)).2, (h 8 (show 8 < 9 by decide)).2⟩
structure Cells3 (W : World) (B : Nat) (v0 v1 v2 : Value) : Prop where
  c0 : W.cell? ⟨B, 0, none⟩ = some v0
  c1 : W.cell? ⟨B, 1, none⟩ = some v1
  c2 : W.cell? ⟨B, 2, none⟩ = some v2
  z0 : W.frozen? ⟨B, 0, none⟩ = false
  z1 : W.frozen? ⟨B, 1, none⟩ = false
  z2 : W.frozen? ⟨B, 2, none⟩ = false
theorem cells3 {W : World} {B : Nat} {v0 v1 v2 : Value} (h : VAt W B [v0, v1, v2]) : Cells3 W B v0 v1 v2 :=
  ⟨(h 0 (show 0 < 3 by decide)).1, (h 1 (show 1 < 3 by decide)).1, (h 2 (show 2 < 3 by decide)).1, (h 0 (show 0 < 3 by decide)).2, (h 1 (show 1 < 3 by decide)).2, (h 2 (show 2 < 3 by decide)).2⟩
theorem putN_far {B C : Nat} (hne : C ≠ B) {L : List Value} : ∀ (l : List Value) (k : Nat) (W : World), VAt W B L → VAt (putN C W k l) B L
  | [], _, _, h => h
  | v :: l, k, W, h => putN_far hne l (k + 1) _ (h.far hne v)
theorem wrote {W w : World} {B C X : Nat} {L9 L3 l9 l3 : List Value} (h9 : VAt W B L9) (h3 : VAt W C L3) (e9 : l9.length = L9.length) (e3 : l3.length = L3.length) (hne : B ≠ C) (hb : Below X w W) (hX : X ≤ B) (hX' : X ≤ C) :
    VAt (putN C (putN B W 0 l9) 0 l3) B l9 ∧ VAt (putN C (putN B W 0 l9) 0 l3) C l3 ∧ Below X w (putN C (putN B W 0 l9) 0 l3) :=
  ⟨putN_far (Ne.symm hne) l3 0 _ (putN_all h9 e9), putN_all (putN_far hne l9 0 _ h3) e3, putN_below hX' l3 0 _ (putN_below hX l9 0 _ hb)⟩
theorem bt_fit (l : List UInt8) (i : Nat) : 0 ≤ bt l i ∧ bt l i ≤ 255 := by
  unfold bt
  have := (l.getD i 0).toNat_lt
  omega
structure Bd (l : List UInt8) (n0 n1 n2 n3 n4 n5 n6 n7 n8 n9 na nb d1 d2 : Int) : Prop where
  e0 : bt l 0 = n0
  e1 : bt l 1 = n1
  e2 : bt l 2 = n2
  e3 : bt l 3 = n3
  e4 : bt l 4 = n4
  e5 : bt l 5 = n5
  e6 : bt l 6 = n6
  e7 : bt l 7 = n7
  e8 : bt l 8 = n8
  e9 : bt l 9 = n9
  ea : bt l 10 = na
  eb : bt l 11 = nb
  q1 : n7.tdiv 16 = d1
  q1' : n7 / 16 = d1
  q2 : n7.tmod 16 = d2
  q2' : n7 % 16 = d2
  b2 : 0 ≤ n2 ∧ n2 ≤ 255
  b3 : 0 ≤ n3 ∧ n3 ≤ 255
  b4 : 0 ≤ n4 ∧ n4 ≤ 255
  b5 : 0 ≤ n5 ∧ n5 ≤ 255
  b7 : 0 ≤ n7 ∧ n7 ≤ 255
  b8 : 0 ≤ n8 ∧ n8 ≤ 255
  b9 : 0 ≤ n9 ∧ n9 ≤ 255
  ba : 0 ≤ na ∧ na ≤ 255
  bb : 0 ≤ nb ∧ nb ≤ 255
  fr : (frOf l).cells = #[.int .i64 n0, .int .i64 n1, .int .i64 (256 * n2 + n3), .int .i64 (256 * n4 + n5), .int .i64 n6, .int .i64 d1, .int .i64 d2, .int .u32 (((n8 * 256 + n9) * 256 + na) * 256 + nb), .string ⟨((l.drop 12).take 28).toArray⟩]
theorem bd_of (l : List UInt8) : ∃ n0 n1 n2 n3 n4 n5 n6 n7 n8 n9 na nb d1 d2, Bd l n0 n1 n2 n3 n4 n5 n6 n7 n8 n9 na nb d1 d2 := by
  have h7 := bt_fit l 7
  have h8 := bt_fit l 8
  have h9 := bt_fit l 9
  have ha := bt_fit l 10
  have hb := bt_fit l 11
  refine ⟨_, _, _, _, _, _, _, _, _, _, _, _, bt l 7 / 16, bt l 7 % 16, rfl, rfl, rfl, rfl, rfl, rfl, rfl, rfl, rfl, rfl, rfl, rfl, Int.tdiv_eq_ediv_of_nonneg h7.1, rfl, Int.tmod_eq_emod_of_nonneg h7.1, rfl, bt_fit l 2, bt_fit l 3, bt_fit l 4, bt_fit l 5, h7, h8, h9, ha, hb, ?_⟩
  have e : ((BitVec.ofInt 32 (((bt l 8 * 256 + bt l 9) * 256 + bt l 10) * 256 + bt l 11)).toNat : Int) = ((bt l 8 * 256 + bt l 9) * 256 + bt l 10) * 256 + bt l 11 := by
    rw [BitVec.toNat_ofInt]
    omega
  unfold Fr.cells frOf
  dsimp only
  rw [e]
end Go.Proofs.YtgpdfkallgjocaaGreatDoor.F13
