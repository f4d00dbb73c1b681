/- The contract of the laws' helper xor. -/
import Derived.Test.YthbhjbbgghpiaaaC9Dev
import Derived.StillTailTactics
namespace Go.Proofs.Ythbhjbbgghpiaaa.C9
open Go.RowKit Mem
set_option linter.unusedVariables false
set_option linter.unusedSimpArgs false

theorem cs_get (l : List Bool) (k : Nat) (h : k < l.length) : (cs l)[k]'(by rw [cs_len]; exact h) = cell (l.getD k false) := by
  simp [cs, List.getD_eq_getElem?_getD, List.getElem?_eq_getElem h]
theorem sb_byte {A : ByteArray} {l : List Bool} (hA : A = sb l) (k : Nat) (h : k < A.size) : (((A[k]).toNat : Nat) : Int) = ((cell (l.getD k false)).toNat : Int) := by
  subst hA
  have hl : k < l.length := by rw [sb_size] at h; exact h
  rw [← cs_get l k hl]
  rfl
theorem xo_get : ∀ (l m : List Bool) (k : Nat), k < l.length → k < m.length → (xo l m).getD k false = (l.getD k false ^^ m.getD k false)
  | a :: l, b :: m, 0, _, _ => rfl
  | a :: l, b :: m, k + 1, h, h' => xo_get l m k (by simpa using h) (by simpa using h')
  | [], _, k, h, _ => by simp at h
  | a :: l, [], k, _, h => by simp at h
def xrow (l m : List Bool) (k : Nat) : List Bool := (xo l m).take k ++ l.drop k
theorem xrow_len {l m : List Bool} (h : l.length = m.length) {k : Nat} (hk : k ≤ l.length) : (xrow l m k).length = l.length := by
  unfold xrow
  rw [List.length_append, List.length_take, List.length_drop, xo_len l m h]
  omega
theorem xrow_step {l m : List Bool} (h : l.length = m.length) {k : Nat} (hk : k < l.length) : (cs (xrow l m k)).set k (cell ((xo l m).getD k false)) = cs (xrow l m (k + 1)) := by
  have hx : k < (xo l m).length := by rw [xo_len l m h]; exact hk
  have e : (xrow l m k).set k ((xo l m).getD k false) = xrow l m (k + 1) := by
    unfold xrow
    have e3 : (xo l m).getD k false = (xo l m)[k] := by simp [List.getD_eq_getElem?_getD, List.getElem?_eq_getElem hx]
    rw [e3, List.drop_eq_getElem_cons hk, List.set_append_right _ _ (by rw [List.length_take]; omega), List.length_take, Nat.min_eq_left (by omega), Nat.sub_self, List.set_cons_zero, List.take_succ_eq_append_getElem hx, List.append_assoc]
    rfl
  rw [← e]
  unfold cs
  rw [List.map_set]
theorem mb9 (w : World) (o : Obj) : Below w.heap.size w (w.alloc o) := (Below.refl _ _).alloc (Nat.le_refl _) _

set_option maxRecDepth 100000 in
set_option maxHeartbeats 4000000 in
theorem xor_any {A B : ByteArray} {l m : List Bool} (hA : A = sb l) (hB : B = sb m) (h : l.length = m.length) (hl : l.length ≤ 100000) (w : World) :
    Calls Try.prog 20 #[.string A, .string B] w fun e w' => e = .returned (.string (sb (xo l m))) ∧ Below w.heap.size w w' := by
  have hbyA := fun k h => sb_byte hA k h
  have hbyB := fun k h => sb_byte hB k h
  obtain ⟨n, hn⟩ : ∃ n, l.length = n := ⟨_, rfl⟩
  have hAs : A.size = n := by rw [hA, sb_size, hn]
  have hBs : B.size = n := by rw [hB, sb_size, ← h, hn]
  obtain ⟨C, cap, hcap, hcv, hat⟩ := bytes_of (P := Try.prog) w (src := 9) (dst := 39) (e := 5) A Try.underlying9 Try.underlying39 Try.underlying5
  have hd0 : A.data.toList = cs (xrow l m 0) := by
    rw [hA]
    show (cs l).toArray.toList = _
    simp [xrow]
  obtain ⟨W, hW⟩ : ∃ W, w.drew.alloc (.cells C 5 (cap, cap + 1)) = W := ⟨_, rfl⟩
  obtain ⟨G, hG⟩ : ∃ G, w.heap.size = G := ⟨_, rfl⟩
  have hat : BAt W G (cs (xrow l m 0)) := by
    rw [← hd0, ← hW, ← hG]
    exact hat
  have hgl : G < W.heap.size := by rw [← hW, ← hG]; simp
  have hb0 : Below w.heap.size w W := by
    rw [← hW]
    exact ((Below.refl w.heap.size w).drew).alloc (by simp) _
  rw [hW, hG, hAs] at hcv
  rw [hAs] at hcap
  have hnh := Lib.hid hn
  have hh := Lib.hid h
  replace hbyA := Lib.hid hbyA
  replace hbyB := Lib.hid hbyB
  have hAsh := Lib.hid hAs
  have hBsh := Lib.hid hBs
  have hGh := Lib.hid hG
  replace hat := Lib.hid hat
  replace hgl := Lib.hid hgl
  have hn1 : n ≤ 100000 := by omega
  clear hA hB h hl hn hd0 hW hG hAs hBs
  go_enter Try.func20, Try.ntmps20
  go_wp2
  clear hcv
  go_loopw [11] (fun a wr => ∃ k : Nat, k ≤ n ∧ a = .int .i64 k ∧ Hid (BAt wr G (cs (xrow l m k))) ∧ Hid (G < wr.heap.size) ∧ Below w.heap.size w wr) (fun a _ => n - (intOf a).toNat)
  case atStart => exact ⟨0, Nat.zero_le _, rfl, hat, hgl, hb0⟩
  case round =>
    clear hat hgl hb0
    obtain ⟨k, hk, rfl, hat, hgl, hb⟩ := hrel
    by_cases hlt : k < n
    · have hkl : k < l.length := by rw [hnh.out]; exact hlt
      have hkA : k < A.size := by rw [hAsh.out]; exact hlt
      have hkB : k < B.size := by rw [hBsh.out]; exact hlt
      have hx := hbyA.out k hkA
      have hy := hbyB.out k hkB
      have hst := xrow_step hh.out hkl
      rw [xo_get l m k hkl (by rw [← hh.out]; exact hkl)] at hst
      have hlen : (cs (xrow l m k)).length = n := by rw [cs_len, xrow_len hh.out (by omega), hnh.out]
      have hcell := hat.out k (by rw [hlen]; exact hlt)
      obtain ⟨V, hV⟩ : ∃ V : Int, (((cs (xrow l m k))[k]'(by rw [hlen]; exact hlt)).toNat : Int) = V := ⟨_, rfl⟩
      rw [hV] at hcell
      obtain ⟨hn1', hf1⟩ := hcell
      have hset := fun c => BAt.set hat.out (k := k) (by rw [hlen]; exact hlt) c
      obtain ⟨x, hx'⟩ : ∃ x, l.getD k false = x := ⟨_, rfl⟩
      obtain ⟨y, hy'⟩ : ∃ y, m.getD k false = y := ⟨_, rfl⟩
      rw [hx'] at hx hst
      rw [hy'] at hy hst
      have hfin := Lib.hid (show BAt (wr.setCell ⟨G, k, none⟩ (.int .u8 ((cell (x ^^ y)).toNat : Int))).drew G (cs (xrow l m (k + 1))) by
        have := (hset (cell (x ^^ y))).drew
        rw [hst] at this
        exact this)
      have hg2 := Lib.hid (show G < (wr.setCell ⟨G, k, none⟩ (.int .u8 ((cell (x ^^ y)).toNat : Int))).drew.heap.size by simpa using hgl.out)
      have hb2 := chainN (hb.setCell (p := ⟨G, k, none⟩) (by rw [hGh.out]; exact Nat.le_refl _) (.int .u8 ((cell (x ^^ y)).toNat : Int))) 1
      have d1 : (k : Int) < (n : Int) := by omega
      have d2 : (k : Int) < (A.size : Int) := by rw [hAsh.out]; omega
      have d3 : (k : Int) < (B.size : Int) := by rw [hBsh.out]; omega
      have k0 : (0 : Int) ≤ (k : Int) := by omega
      have f1 : bits .xor .u8 48 0 = 48 := by decide
      have f2 : bits .xor .u8 48 1 = 49 := by decide
      have f3 : bits .xor .u8 49 0 = 49 := by decide
      have f4 : bits .xor .u8 49 1 = 48 := by decide
      clear hkl hV hset hx' hy' hst hat hgl hb hlen
      rcases x with _ | _ <;> rcases y with _ | _
      all_goals
        first
        | rw [show ((cell (false ^^ false)).toNat : Int) = 48 from rfl] at hfin hg2 hb2
        | rw [show ((cell (false ^^ true)).toNat : Int) = 49 from rfl] at hfin hg2 hb2
        | rw [show ((cell (true ^^ false)).toNat : Int) = 49 from rfl] at hfin hg2 hb2
        | rw [show ((cell (true ^^ true)).toNat : Int) = 48 from rfl] at hfin hg2 hb2
        first
        | rw [show ((cell false).toNat : Int) = 48 from rfl] at hx
        | rw [show ((cell true).toNat : Int) = 49 from rfl] at hx
        first
        | rw [show ((cell false).toNat : Int) = 48 from rfl] at hy
        | rw [show ((cell true).toNat : Int) = 49 from rfl] at hy
        go_wp2_with fail
        refine wp_region_still_tail 13 (by kernel_rfl) (by kernel_rfl) ?_
        simp only [List.take_succ_cons, List.take_zero, List.drop_succ_cons, List.drop_zero]
        repeat still_step
        refine wpStill_nil ?_
        change wpList _ _ _ _ _ wr.drew
        go_wp2
        go_roundw
        case rel => exact ⟨k + 1, by omega, by go_num, hfin, hg2, hb2⟩
        case measure => simp [intOf]; omega
    · have hke : k = n := by omega
      have d1 : ¬ (k : Int) < (n : Int) := by omega
      have e : xrow l m k = xo l m := by
        unfold xrow
        rw [hke, ← hnh.out, List.drop_length, List.append_nil, List.take_of_length_le (by rw [xo_len l m hh.out]; exact Nat.le_refl _)]
      rw [e] at hat
      have hconv := BAt.conv (P := Try.prog) (cap := cap) (n := n) (src := 39) (dst := 9) hat.out (by rw [cs_len, xo_len l m hh.out, hnh.out]) Try.underlying39 Try.underlying5 Try.underlying9
      clear e hke
      go_wp2
      go_ret
      exact ⟨rfl, hb⟩
end Go.Proofs.Ythbhjbbgghpiaaa.C9
