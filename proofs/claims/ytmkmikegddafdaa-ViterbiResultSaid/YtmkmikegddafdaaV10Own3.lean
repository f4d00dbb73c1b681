/- The contracts of the landed functions of layer 10: costsAtEnd, received, transitions. -/
import Derived.Test.YtmkmikegddafdaaV10Own2
namespace Go.Proofs.Ytmkmikegddafdaa.V10
open Go.RowKit Mem C9
set_option linter.unusedVariables false
set_option linter.unusedSimpArgs false

def costR (R : List (UInt8 × UInt8)) (s : Nat) : Int := (tb R (hi s) (lo s)).1
def chR (R : List (UInt8 × UInt8)) (s : Nat) : Nat := chE R (hi s) (lo s)
theorem hi_stN : ∀ u v : Bool, hi (stN u v) = u := by decide
theorem lo_stN : ∀ u v : Bool, lo (stN u v) = v := by decide
theorem costR_at (R : List (UInt8 × UInt8)) (u v : Bool) : costR R (stN u v) = (tb R u v).1 := by unfold costR; rw [hi_stN, lo_stN]
theorem chR_at (R : List (UInt8 × UInt8)) (u v : Bool) : chR R (stN u v) = chE R u v := by unfold chR; rw [hi_stN, lo_stN]
theorem stepF_row (r : UInt8 × UInt8) (R : List (UInt8 × UInt8)) : stepF r (costR R) = costR (r :: R) := by
  funext s
  unfold stepF
  rw [costR_at, costR_at]
  exact (tb_cost r R (hi s) (lo s)).symm
theorem stepC_row (r : UInt8 × UInt8) (R : List (UInt8 × UInt8)) : stepC r (costR R) = chR (r :: R) := by
  funext s
  unfold stepC
  rw [costR_at, costR_at]
  rfl
theorem costR_fit (R : List (UInt8 × UInt8)) (hR : R.length ≤ 100000) (s : Nat) : -1 ≤ costR R s ∧ costR R s ≤ 1000000 := by
  have h1 := tb_int R (hi s) (lo s)
  have h2 := (tb_le R (hi s) (lo s)).1
  unfold costR
  omega
/-- A block of four numbers, all of them written. -/
theorem BlkT.vec4 {T : TypeId} {W : World} {g : Nat} {f : Nat → Int} (h : BlkT T W g (vec f)) (f' : Nat → Int) : BlkT T ((((W.setCell ⟨g, 0, none⟩ (.int .i64 (f' 0))).setCell ⟨g, 1, none⟩ (.int .i64 (f' 1))).setCell ⟨g, 2, none⟩ (.int .i64 (f' 2))).setCell ⟨g, 3, none⟩ (.int .i64 (f' 3))) g (vec f') :=
  (((h.set 0 (.int .i64 (f' 0)) (by simp [vec])).set 1 (.int .i64 (f' 1)) (by simp [vec])).set 2 (.int .i64 (f' 2)) (by simp [vec])).set 3 (.int .i64 (f' 3)) (by simp [vec])
theorem BlkT.far4 {T : TypeId} {W : World} {g g' : Nat} {l : List Value} (h : BlkT T W g l) (hne : g' ≠ g) (v0 v1 v2 v3 : Value) : BlkT T ((((W.setCell ⟨g', 0, none⟩ v0).setCell ⟨g', 1, none⟩ v1).setCell ⟨g', 2, none⟩ v2).setCell ⟨g', 3, none⟩ v3) g l :=
  (((h.far hne 0 _).far hne 1 _).far hne 2 _).far hne 3 _
theorem below4 {G g : Nat} {w W : World} (h : Below G w W) (hg : G ≤ g) (v0 v1 v2 v3 : Value) : Below G w ((((W.setCell ⟨g, 0, none⟩ v0).setCell ⟨g, 1, none⟩ v1).setCell ⟨g, 2, none⟩ v2).setCell ⟨g, 3, none⟩ v3) :=
  (((h.setCell (p := ⟨g, 0, none⟩) hg _).setCell (p := ⟨g, 1, none⟩) hg _).setCell (p := ⟨g, 2, none⟩) hg _).setCell (p := ⟨g, 3, none⟩) hg _
theorem vec_four (f : Nat → Int) : (.agg (vec f).toArray : Value) = .agg #[.int .i64 (f 0), .int .i64 (f 1), .int .i64 (f 2), .int .i64 (f 3)] := rfl
/-- The results of a function whose first one is a whole array in a cell. -/
theorem results_row_tmp {P : Program} {fn : Func} {p u : Tmp} {t1 : TypeId} (h : fn.results = #[.cell p t1, .tmp u]) (tmps : Array Value) (w : World) (g : Nat) (T : TypeId) (cs : Array Value) (fr : Nat × Nat) (d : TypeDesc) (v : Value)
    (hp : tmps.getD p undef = .pointer (some ⟨g, 0, none⟩)) (hv : tmps.getD u undef = v) (hg : w.heap[g]? = some (.cells cs T fr))
    (hu : P.underlying t1 = some d) (hd : (match d with | .struct _ | .array _ _ => true | _ => false) = true) (hi : (P.info? t1).map (·.size) = some cs.size) :
    (results fn tmps).run P w = .ok (.tuple #[.agg cs, v]) w := by
  have hp' : tmps[p]?.getD undef = .pointer (some ⟨g, 0, none⟩) := by simpa using hp
  have hv' : tmps[u]?.getD undef = v := by simpa using hv
  simp [results, h, hp', hv', asAddr, run_loadVar_row w g T t1 cs fr d hg hu hd hi]
theorem size_int4 (f : Nat → Int) : (Try.prog.info? 27).map (·.size) = some (vec f).toArray.size := by kernel_rfl
def zerosI (j : Nat) : Int := 0
set_option maxRecDepth 100000 in
set_option maxHeartbeats 4000000 in
theorem end_own (w : World) : Calls Try.prog 26 #[] w fun e w' => e = .returned (.agg #[.int .i64 0, .int .i64 (-1), .int .i64 (-1), .int .i64 (-1)]) ∧ Below w.heap.size w w' := by
  go_enter Try.func26, Try.ntmps26
  go_wp2
  exact bodyPost_ret (results_cell_row rfl _ _ w.heap.size 27 _ (0, 0) _ rfl (World.alloc_heap_new w _) Try.underlying27 rfl (size_int4 (costR []))) rfl ⟨rfl, (Below.refl _ w).alloc (Nat.le_refl _) _⟩
set_option maxRecDepth 100000 in
set_option maxHeartbeats 4000000 in
theorem received_own (c : ByteArray) (k : Nat) (w : World) (hk : 2 * k + 1 < c.size) (hc : c.size ≤ 1000000) : Calls Try.prog 28 #[.string c, .int .i64 (k : Int)] w fun e w' => e = .returned (.string ⟨#[c[2 * k], c[2 * k + 1]]⟩) ∧ w = w' := by
  have hS : c.extract (2 * k) (2 * k + 2) = ⟨#[c[2 * k], c[2 * k + 1]]⟩ := by
    apply ByteArray.ext
    apply Array.toList_inj.1
    simp only [ByteArray.data_extract, Array.toList_extract]
    rw [List.extract_eq_take_drop, List.drop_eq_getElem_cons (by rw [size_list]; omega), List.drop_eq_getElem_cons (by rw [size_list]; omega), show 2 * k + 2 - 2 * k = 2 by omega]
    rfl
  obtain ⟨S, hSS⟩ : ∃ S : ByteArray, (⟨#[c[2 * k], c[2 * k + 1]]⟩ : ByteArray) = S := ⟨_, rfl⟩
  rw [hSS] at hS ⊢
  obtain ⟨j, hj⟩ : ∃ i, 2 * k + 2 = i := ⟨_, rfl⟩
  rw [hj] at hS
  obtain ⟨i, hi⟩ : ∃ i, 2 * k = i := ⟨_, rfl⟩
  rw [hi] at hS
  have a1 : (k : Int) * 2 = (i : Int) := by omega
  have a2 : (i : Int) + 2 = (j : Int) := by omega
  have a3 : (0 : Int) ≤ (i : Int) := by omega
  have a4 : (i : Int) ≤ (j : Int) := by omega
  have a5 : (j : Int) ≤ (c.size : Int) := by omega
  have a6 : k ≤ 1000000 := by omega
  have a7 : i ≤ 1000000 := by omega
  replace hS := Lib.hid hS
  clear hSS hi hj hk
  go_enter Try.func28, Try.ntmps28
  go_wp2
  go_ret
  exact ⟨by rw [← hS.out]; rfl, rfl⟩
set_option maxRecDepth 100000 in
set_option maxHeartbeats 4000000 in
theorem trans_own (c : ByteArray) (m : Nat) (w : World) (hm : c.size / 2 = m) (hc : c.size ≤ 1000000) : Calls Try.prog 25 #[.string c] w fun e w' => e = .returned (.int .i64 (m : Int)) ∧ w = w' := by
  have q2 : (c.size : Int) / 2 = (m : Int) := by omega
  clear hm
  go_enter Try.func25, Try.ntmps25
  go_wp2
  go_ret
  exact ⟨rfl, rfl⟩
theorem okC_at (c : ByteArray) (h : c.data.toList.all okC = true) (i : Nat) (hi : i < c.size) : okC c[i] = true := by
  have := List.all_eq_true.1 h (c.data.toList[i]'(by rw [size_list]; exact hi)) (List.getElem_mem _)
  exact this
/-- One step back through the received cells. -/
theorem back_own (c : ByteArray) (n : Nat) (ho : c.data.toList.all okC = true) (hn : c.size = 2 * n + 4) (hc : c.size ≤ 100000) (k : Nat) (hk : k < n + 2) : ∃ (S : ByteArray) (C : Nat → Nat),
    (∀ W, Calls Try.prog 28 #[.string c, .int .i64 (k : Int)] W fun e w' => e = .returned (.string S) ∧ W = w') ∧
    (∀ W, Calls Try.prog 27 #[.agg (vec (costR ((rc c).drop (k + 1)))).toArray, .string S] W fun e w' => e = .returned (.tuple #[.agg (vec (costR ((rc c).drop k))).toArray, .agg (cvec C).toArray]) ∧ Below W.heap.size W w') ∧ C = chR ((rc c).drop k) := by
  have hrl := rc_len hn
  have hk2 : 2 * k + 1 < c.size := by omega
  have hkr : k < (rc c).length := by omega
  have hd := List.drop_eq_getElem_cons hkr
  have hpg : (rc c)[k] = (c[2 * k], c[2 * k + 1]) := pairs_get k _ hkr (by rw [size_list]; omega) (by rw [size_list]; exact hk2)
  refine ⟨_, _, fun W => received_own c k W hk2 (by omega), fun W => ?_, rfl⟩
  have h := cbefore_own (costR ((rc c).drop (k + 1))) c[2 * k] c[2 * k + 1] W (okC_at c ho _ (by omega)) (okC_at c ho _ hk2) (fun j _ => costR_fit _ (by rw [List.length_drop]; omega) j)
  rw [stepF_row, stepC_row] at h
  rw [hd, hpg]
  exact h
end Go.Proofs.Ytmkmikegddafdaa.V10
