/- The contracts of the landed functions of layer 10: costsAtEnd, received, Costs. -/
import Derived.Test.YtmkmikegddafdaaV10Own2
import Derived.Test.YtmkmikegddafdaaV10Dev
namespace Go.Proofs.Ytmkmikegddafdaa.V10
open Go.RowKit Mem C9
set_option linter.unusedVariables false
set_option linter.unusedSimpArgs false

def costR (R : List (UInt8 × UInt8)) (s : Nat) : Int := (tb R (hi s) (lo s)).1
def chR (R : List (UInt8 × UInt8)) (s : Nat) : Nat := chE R (hi s) (lo s)
theorem hi_stN : ∀ u v : Bool, hi (stN u v) = u := by decide
theorem lo_stN : ∀ u v : Bool, lo (stN u v) = v := by decide
theorem costR_at (R : List (UInt8 × UInt8)) (u v : Bool) : costR R (stN u v) = (tb R u v).1 := by unfold costR; rw [hi_stN, lo_stN]
theorem chR_at (R : List (UInt8 × UInt8)) (u v : Bool) : chR R (stN u v) = chE R u v := by unfold chR; rw [hi_stN, lo_stN]
theorem stepF_row (r : UInt8 × UInt8) (R : List (UInt8 × UInt8)) : stepF r (costR R) = costR (r :: R) := by
  funext s
  unfold stepF
  rw [costR_at, costR_at]
  exact (tb_cost r R (hi s) (lo s)).symm
theorem stepC_row (r : UInt8 × UInt8) (R : List (UInt8 × UInt8)) : stepC r (costR R) = chR (r :: R) := by
  funext s
  unfold stepC
  rw [costR_at, costR_at]
  rfl
theorem costR_fit (R : List (UInt8 × UInt8)) (hR : R.length ≤ 100000) (s : Nat) : -1 ≤ costR R s ∧ costR R s ≤ 1000000 := by
  have h1 := tb_int R (hi s) (lo s)
  have h2 := (tb_le R (hi s) (lo s)).1
  unfold costR
  omega
/-- A block of four numbers, all of them written. -/
theorem BlkT.vec4 {T : TypeId} {W : World} {g : Nat} {f : Nat → Int} (h : BlkT T W g (vec f)) (f' : Nat → Int) : BlkT T ((((W.setCell ⟨g, 0, none⟩ (.int .i64 (f' 0))).setCell ⟨g, 1, none⟩ (.int .i64 (f' 1))).setCell ⟨g, 2, none⟩ (.int .i64 (f' 2))).setCell ⟨g, 3, none⟩ (.int .i64 (f' 3))) g (vec f') :=
  (((h.set 0 (.int .i64 (f' 0)) (by simp [vec])).set 1 (.int .i64 (f' 1)) (by simp [vec])).set 2 (.int .i64 (f' 2)) (by simp [vec])).set 3 (.int .i64 (f' 3)) (by simp [vec])
theorem BlkT.far4 {T : TypeId} {W : World} {g g' : Nat} {l : List Value} (h : BlkT T W g l) (hne : g' ≠ g) (v0 v1 v2 v3 : Value) : BlkT T ((((W.setCell ⟨g', 0, none⟩ v0).setCell ⟨g', 1, none⟩ v1).setCell ⟨g', 2, none⟩ v2).setCell ⟨g', 3, none⟩ v3) g l :=
  (((h.far hne 0 _).far hne 1 _).far hne 2 _).far hne 3 _
theorem below4 {G g : Nat} {w W : World} (h : Below G w W) (hg : G ≤ g) (v0 v1 v2 v3 : Value) : Below G w ((((W.setCell ⟨g, 0, none⟩ v0).setCell ⟨g, 1, none⟩ v1).setCell ⟨g, 2, none⟩ v2).setCell ⟨g, 3, none⟩ v3) :=
  (((h.setCell (p := ⟨g, 0, none⟩) hg _).setCell (p := ⟨g, 1, none⟩) hg _).setCell (p := ⟨g, 2, none⟩) hg _).setCell (p := ⟨g, 3, none⟩) hg _
theorem vec_four (f : Nat → Int) : (.agg (vec f).toArray : Value) = .agg #[.int .i64 (f 0), .int .i64 (f 1), .int .i64 (f 2), .int .i64 (f 3)] := rfl
/-- The results of a function whose first one is a whole array in a cell. -/
theorem results_row_tmp {P : Program} {fn : Func} {p u : Tmp} {t1 : TypeId} (h : fn.results = #[.cell p t1, .tmp u]) (tmps : Array Value) (w : World) (g : Nat) (T : TypeId) (cs : Array Value) (fr : Nat × Nat) (d : TypeDesc) (v : Value)
    (hp : tmps.getD p undef = .pointer (some ⟨g, 0, none⟩)) (hv : tmps.getD u undef = v) (hg : w.heap[g]? = some (.cells cs T fr))
    (hu : P.underlying t1 = some d) (hd : (match d with | .struct _ | .array _ _ => true | _ => false) = true) (hi : (P.info? t1).map (·.size) = some cs.size) :
    (results fn tmps).run P w = .ok (.tuple #[.agg cs, v]) w := by
  have hp' : tmps[p]?.getD undef = .pointer (some ⟨g, 0, none⟩) := by simpa using hp
  have hv' : tmps[u]?.getD undef = v := by simpa using hv
  simp [results, h, hp', hv', asAddr, run_loadVar_row w g T t1 cs fr d hg hu hd hi]
theorem size_int4 (f : Nat → Int) : (Try.prog.info? 27).map (·.size) = some (vec f).toArray.size := by kernel_rfl
def zerosI (j : Nat) : Int := 0
set_option maxRecDepth 100000 in
set_option maxHeartbeats 4000000 in
theorem end_own (w : World) : Calls Try.prog 26 #[] w fun e w' => e = .returned (.agg #[.int .i64 0, .int .i64 (-1), .int .i64 (-1), .int .i64 (-1)]) ∧ Below w.heap.size w w' := by
  go_enter Try.func26, Try.ntmps26
  go_wp2
  exact bodyPost_ret (results_cell_row rfl _ _ w.heap.size 27 _ (0, 0) _ rfl (World.alloc_heap_new w _) Try.underlying27 rfl (size_int4 (costR []))) rfl ⟨rfl, (Below.refl _ w).alloc (Nat.le_refl _) _⟩
set_option maxRecDepth 100000 in
set_option maxHeartbeats 4000000 in
theorem received_own (c : ByteArray) (k : Nat) (w : World) (hk : 2 * k + 1 < c.size) (hc : c.size ≤ 1000000) : Calls Try.prog 28 #[.string c, .int .i64 (k : Int)] w fun e w' => e = .returned (.string ⟨#[c[2 * k], c[2 * k + 1]]⟩) ∧ w = w' := by
  have hS : c.extract (2 * k) (2 * k + 2) = ⟨#[c[2 * k], c[2 * k + 1]]⟩ := by
    apply ByteArray.ext
    apply Array.toList_inj.1
    simp only [ByteArray.data_extract, Array.toList_extract]
    rw [List.extract_eq_take_drop, List.drop_eq_getElem_cons (by rw [size_list]; omega), List.drop_eq_getElem_cons (by rw [size_list]; omega), show 2 * k + 2 - 2 * k = 2 by omega]
    rfl
  obtain ⟨S, hSS⟩ : ∃ S : ByteArray, (⟨#[c[2 * k], c[2 * k + 1]]⟩ : ByteArray) = S := ⟨_, rfl⟩
  rw [hSS] at hS ⊢
  obtain ⟨j, hj⟩ : ∃ i, 2 * k + 2 = i := ⟨_, rfl⟩
  rw [hj] at hS
  obtain ⟨i, hi⟩ : ∃ i, 2 * k = i := ⟨_, rfl⟩
  rw [hi] at hS
  have a1 : (k : Int) * 2 = (i : Int) := by omega
  have a2 : (i : Int) + 2 = (j : Int) := by omega
  have a3 : (0 : Int) ≤ (i : Int) := by omega
  have a4 : (i : Int) ≤ (j : Int) := by omega
  have a5 : (j : Int) ≤ (c.size : Int) := by omega
  have a6 : k ≤ 1000000 := by omega
  have a7 : i ≤ 1000000 := by omega
  replace hS := Lib.hid hS
  clear hSS hi hj hk
  go_enter Try.func28, Try.ntmps28
  go_wp2
  go_ret
  exact ⟨by rw [← hS.out]; rfl, rfl⟩
set_option maxRecDepth 100000 in
set_option maxHeartbeats 4000000 in
theorem trans_own (c : ByteArray) (m : Nat) (w : World) (hm : c.size / 2 = m) (hc : c.size ≤ 1000000) : Calls Try.prog 25 #[.string c] w fun e w' => e = .returned (.int .i64 (m : Int)) ∧ w = w' := by
  have q2 : (c.size : Int) / 2 = (m : Int) := by omega
  clear hm
  go_enter Try.func25, Try.ntmps25
  go_wp2
  go_ret
  exact ⟨rfl, rfl⟩
theorem okC_at (c : ByteArray) (h : c.data.toList.all okC = true) (i : Nat) (hi : i < c.size) : okC c[i] = true := by
  have := List.all_eq_true.1 h (c.data.toList[i]'(by rw [size_list]; exact hi)) (List.getElem_mem _)
  exact this
/-- One step back through the received cells. -/
theorem back_own (c : ByteArray) (n : Nat) (ho : c.data.toList.all okC = true) (hn : c.size = 2 * n + 4) (hc : c.size ≤ 100000) (k : Nat) (hk : k < n + 2) : ∃ (S : ByteArray) (C : Nat → Nat),
    (∀ W, Calls Try.prog 28 #[.string c, .int .i64 (k : Int)] W fun e w' => e = .returned (.string S) ∧ W = w') ∧
    (∀ W, Calls Try.prog 27 #[.agg (vec (costR ((rc c).drop (k + 1)))).toArray, .string S] W fun e w' => e = .returned (.tuple #[.agg (vec (costR ((rc c).drop k))).toArray, .agg (cvec C).toArray]) ∧ Below W.heap.size W w') ∧ C = chR ((rc c).drop k) := by
  have hrl := rc_len hn
  have hk2 : 2 * k + 1 < c.size := by omega
  have hkr : k < (rc c).length := by omega
  have hd := List.drop_eq_getElem_cons hkr
  have hpg : (rc c)[k] = (c[2 * k], c[2 * k + 1]) := pairs_get k _ hkr (by rw [size_list]; omega) (by rw [size_list]; exact hk2)
  refine ⟨_, _, fun W => received_own c k W hk2 (by omega), fun W => ?_, rfl⟩
  have h := cbefore_own (costR ((rc c).drop (k + 1))) c[2 * k] c[2 * k + 1] W (okC_at c ho _ (by omega)) (okC_at c ho _ hk2) (fun j _ => costR_fit _ (by rw [List.length_drop]; omega) j)
  rw [stepF_row, stepC_row] at h
  rw [hd, hpg]
  exact h
set_option maxRecDepth 100000 in
set_option maxHeartbeats 8000000 in
theorem costs_own (c : ByteArray) (k : Int) (w : World) (hc : c.size ≤ 100000) (k1 : -9223372036854775808 ≤ k) (k2 : k ≤ 9223372036854775807) : Calls Try.prog 14 #[.string c, .int .i64 k] w (Cost c k w) := by
  have cK := Lib.hid (fun W => check_own c W (by omega))
  have hz : BlkT 27 (w.alloc (.cells #[.int .i64 0, .int .i64 0, .int .i64 0, .int .i64 0] 27)) w.heap.size (vec zerosI) := World.alloc_heap_new w _
  have hzb : Below w.heap.size w (w.alloc (.cells #[.int .i64 0, .int .i64 0, .int .i64 0, .int .i64 0] 27)) := (Below.refl _ w).alloc (Nat.le_refl _) _
  have hzs : w.heap.size < (w.alloc (.cells #[.int .i64 0, .int .i64 0, .int .i64 0, .int .i64 0] 27)).heap.size := by simp
  unfold Cost
  by_cases he : eB c = 0
  · obtain ⟨ho, n, hn⟩ := eB_zero he
    obtain ⟨m, hm⟩ : ∃ m, n + 2 = m := ⟨_, rfl⟩
    have q2 : (c.size : Int) / 2 = (m : Int) := by omega
    have q3 : c.size / 2 = m := by omega
    rw [he] at cK
    by_cases hk0 : k < 0
    · have e1 : cE c k = 2 := by unfold cE; rw [if_pos he, if_pos (.inl hk0)]
      have e2 : ∀ a b, cA c k a b = 0 := fun a b => by unfold cA; rw [e1, if_neg (by decide)]
      rw [e1, e2, e2, e2, e2]
      have d1 : decide (k < 0) = true := decide_eq_true hk0
      replace hz := Lib.hid hz
      clear e1 e2 he ho hn hm
      go_enter Try.func14, Try.ntmps14
      go_wp2_with fail
      refine (cK.out _).mono ?_
      rintro e w1 ⟨rfl, rfl⟩
      go_wp2
      exact bodyPost_ret (results_row_tmp rfl _ _ w.heap.size 27 _ (0, 0) _ _ rfl rfl hz.out Try.underlying27 rfl (size_int4 zerosI)) rfl ⟨rfl, hzb⟩
    · have d1 : decide (k < 0) = false := decide_eq_false hk0
      by_cases hkm : (m : Int) < k
      · have e1 : cE c k = 2 := by unfold cE; rw [if_pos he, if_pos (.inr (by omega))]
        have e2 : ∀ a b, cA c k a b = 0 := fun a b => by unfold cA; rw [e1, if_neg (by decide)]
        rw [e1, e2, e2, e2, e2]
        have d2 : decide ((m : Int) < k) = true := decide_eq_true hkm
        replace hz := Lib.hid hz
        clear e1 e2 he ho hn hm
        go_enter Try.func14, Try.ntmps14
        go_wp2_with fail
        refine (cK.out _).mono ?_
        rintro e w1 ⟨rfl, rfl⟩
        go_wp2
        exact bodyPost_ret (results_row_tmp rfl _ _ w.heap.size 27 _ (0, 0) _ _ rfl rfl hz.out Try.underlying27 rfl (size_int4 zerosI)) rfl ⟨rfl, hzb⟩
      · have d2 : decide ((m : Int) < k) = false := decide_eq_false hkm
        obtain ⟨z, rfl⟩ : ∃ z : Nat, k = (z : Int) := ⟨k.toNat, by omega⟩
        have d2' : decide (m < z) = false := decide_eq_false (by omega)
        have e1 : cE c (z : Int) = 0 := by unfold cE; rw [if_pos he, if_neg (by omega)]
        have e2 : ∀ a b, cA c (z : Int) a b = costR ((rc c).drop z) (stN a b) := fun a b => by unfold cA cg; rw [e1, if_pos rfl, costR_at, Int.toNat_natCast]
        rw [e1, e2, e2, e2, e2]
        have hE := Lib.hid (fun j (hj : j < m) => back_own c n ho hn hc j (by omega))
        have hend : (rc c).drop m = [] := List.drop_of_length_le (by rw [rc_len hn]; omega)
        have hzm : z ≤ m := by omega
        have hm6 : m ≤ 50002 := by omega
        obtain ⟨R, hR⟩ : ∃ R, rc c = R := ⟨_, rfl⟩
        rw [hR] at hE hend ⊢
        have cN := Lib.hid (fun W => end_own W)
        have cT := Lib.hid (fun W => trans_own c m W q3 (by omega))
        obtain ⟨G, hG⟩ : ∃ G, w.heap.size = G := ⟨_, rfl⟩
        rw [hG] at hz hzb hzs
        replace hG := Lib.hid hG
        clear e1 e2 he ho hn hm hR hk0 hkm k1 k2
        replace hz := Lib.hid hz
        replace hend := Lib.hid hend
        go_enter Try.func14, Try.ntmps14
        go_wp2_with fail
        refine (cK.out _).mono ?_
        rintro e w1 ⟨rfl, rfl⟩
        go_wp2_with fail
        refine (cT.out _).mono ?_
        rintro e w1 ⟨rfl, rfl⟩
        go_wp2_with fail
        rw [hG.out]
        refine (cN.out _).mono ?_
        rintro e w1 ⟨rfl, hb1⟩
        have hz1 := hz.out.below hb1 hzs
        have hB1 : Below G w w1 := hzb.trans (hb1.mono (Nat.le_of_lt hzs))
        have hs1 : G < w1.heap.size := Nat.lt_of_lt_of_le hzs hb1.size
        obtain ⟨H, hH⟩ : ∃ H, w1.heap.size = H := ⟨_, rfl⟩
        have hH0 : BlkT 27 (w1.alloc (.cells #[.int .i64 0, .int .i64 (-1), .int .i64 (-1), .int .i64 (-1)] 27)) H (vec (costR [])) := by rw [← hH]; exact World.alloc_heap_new w1 _
        have hHz : BlkT 27 (w1.alloc (.cells #[.int .i64 0, .int .i64 (-1), .int .i64 (-1), .int .i64 (-1)] 27)) G (vec zerosI) := by
          unfold BlkT
          rw [Lib.alloc_old _ _ _ hs1]
          exact hz1
        have hHb : Below G w (w1.alloc (.cells #[.int .i64 0, .int .i64 (-1), .int .i64 (-1), .int .i64 (-1)] 27)) := hB1.alloc (Nat.le_of_lt hs1) _
        have hHs : H < (w1.alloc (.cells #[.int .i64 0, .int .i64 (-1), .int .i64 (-1), .int .i64 (-1)] 27)).heap.size := by rw [← hH]; simp
        have hGH : G < H := by rw [← hH]; exact hs1
        rw [← hend.out] at hH0
        replace hH := Lib.hid hH
        replace hH0 := Lib.hid hH0
        replace hHz := Lib.hid hHz
        replace hHs := Lib.hid hHs
        clear hz hz1 hB1 hs1 hb1 hzb hzs
        go_wp2_with fail
        refine (cT.out _).mono ?_
        rintro e w2 ⟨rfl, rfl⟩
        go_wp2
        rw [hH.out]
        go_loopw [8] (fun iv wr => ∃ K : Nat, z ≤ K ∧ K ≤ m ∧ iv = .int .i64 ((K : Int) - 1) ∧ Hid (BlkT 27 wr H (vec (costR (R.drop K)))) ∧ Hid (BlkT 27 wr G (vec zerosI)) ∧ Hid (H < wr.heap.size) ∧ Below G w wr) (fun iv _ => ((intOf iv) + 1).toNat)
        case atStart => exact ⟨m, hzm, Nat.le_refl _, rfl, hH0, hHz, hHs, hHb⟩
        case round =>
          clear hH0 hHz hHs hHb hH
          obtain ⟨K, hzK, hK, rfl, hg, hgz, hsz, hb⟩ := hrel
          by_cases hKz : K = z
          · subst hKz
            have dk : decide ((K : Int) ≤ (K : Int) - 1) = false := decide_eq_false (by omega)
            obtain ⟨F, hF⟩ : ∃ F, costR (R.drop K) = F := ⟨_, rfl⟩
            rw [hF] at hg
            replace hF := Lib.hid hF
            have c0 : wr.cell? ⟨H, 0, none⟩ = some (.int .i64 (F 0)) := hg.out.cell 0
            have c1 : wr.cell? ⟨H, 1, none⟩ = some (.int .i64 (F 1)) := hg.out.cell 1
            have c2 : wr.cell? ⟨H, 2, none⟩ = some (.int .i64 (F 2)) := hg.out.cell 2
            have c3 : wr.cell? ⟨H, 3, none⟩ = some (.int .i64 (F 3)) := hg.out.cell 3
            have d0 : wr.cell? ⟨G, 0, none⟩ = some (.int .i64 (zerosI 0)) := hgz.out.cell 0
            have d1 : wr.cell? ⟨G, 1, none⟩ = some (.int .i64 (zerosI 1)) := hgz.out.cell 1
            have d2 : wr.cell? ⟨G, 2, none⟩ = some (.int .i64 (zerosI 2)) := hgz.out.cell 2
            have d3 : wr.cell? ⟨G, 3, none⟩ = some (.int .i64 (zerosI 3)) := hgz.out.cell 3
            have fz := hgz.out.frz
            have g1 := Lib.hid (hgz.out.vec4 F)
            have gb := below4 hb (Nat.le_refl G) (.int .i64 (F 0)) (.int .i64 (F 1)) (.int .i64 (F 2)) (.int .i64 (F 3))
            clear hE
            go_wp2
            exact bodyPost_ret (results_row_tmp rfl _ _ G 27 _ (0, 0) _ _ rfl rfl g1.out Try.underlying27 rfl (size_int4 F)) rfl ⟨by rw [hF.out]; rfl, by rw [hG.out]; exact gb⟩
          · obtain ⟨k, rfl⟩ : ∃ k, K = k + 1 := ⟨K - 1, by omega⟩
            have hx : ((k + 1 : Nat) : Int) - 1 = (k : Int) := by omega
            rw [hx]
            have dk : decide ((z : Int) ≤ (k : Int)) = true := decide_eq_true (by omega)
            have dk' : decide (z ≤ k) = true := decide_eq_true (by omega)
            obtain ⟨S, C, cR, cB, _⟩ := hE.out k (by omega)
            obtain ⟨E, hEE⟩ : ∃ F, costR (R.drop (k + 1)) = F := ⟨_, rfl⟩
            obtain ⟨F, hF⟩ : ∃ F, costR (R.drop k) = F := ⟨_, rfl⟩
            rw [hEE] at cB hg
            rw [hF] at cB
            replace cB : ∀ W, Calls Try.prog 27 #[.agg #[.int .i64 (E 0), .int .i64 (E 1), .int .i64 (E 2), .int .i64 (E 3)], .string S] W fun e w' => e = .returned (.tuple #[.agg #[.int .i64 (F 0), .int .i64 (F 1), .int .i64 (F 2), .int .i64 (F 3)], .agg #[.int .u8 (C 0 : Int), .int .u8 (C 1 : Int), .int .u8 (C 2 : Int), .int .u8 (C 3 : Int)]]) ∧ Below W.heap.size W w' := cB
            have c0 : wr.cell? ⟨H, 0, none⟩ = some (.int .i64 (E 0)) := hg.out.cell 0
            have c1 : wr.cell? ⟨H, 1, none⟩ = some (.int .i64 (E 1)) := hg.out.cell 1
            have c2 : wr.cell? ⟨H, 2, none⟩ = some (.int .i64 (E 2)) := hg.out.cell 2
            have c3 : wr.cell? ⟨H, 3, none⟩ = some (.int .i64 (E 3)) := hg.out.cell 3
            have k1 : k ≤ 1000000 := by omega
            have cX : ∀ W, Below wr.heap.size wr W → W.cell? ⟨H, 0, none⟩ = some (.int .i64 (E 0)) ∧ W.cell? ⟨H, 1, none⟩ = some (.int .i64 (E 1)) ∧ W.cell? ⟨H, 2, none⟩ = some (.int .i64 (E 2)) ∧ W.cell? ⟨H, 3, none⟩ = some (.int .i64 (E 3)) ∧ ∀ j, W.frozen? ⟨H, j, none⟩ = false := fun W h =>
              have g := hg.out.below h hsz.out
              ⟨g.cell 0, g.cell 1, g.cell 2, g.cell 3, g.frz⟩
            replace cX := Lib.hid cX
            replace cR := Lib.hid cR
            replace cB := Lib.hid cB
            replace hF := Lib.hid hF
            clear hEE hx
            go_wp2_with fail
            go_region_with (first | (go_at_call 28; (with_reducible refine (cR.out _).mono ?_); rintro e w5 ⟨rfl, rfl⟩) | (go_at_call 27; (with_reducible refine (cB.out _).mono ?_); rintro e w6 ⟨rfl, hb7⟩; (have hb6 : Below wr.heap.size wr w6 := ⟨hb7.os, hb7.tape, hb7.output, hb7.size, hb7.block⟩); clear hb7; obtain ⟨n0, n1, n2, n3, nf⟩ := cX.out _ hb6))
            all_goals
              have hg6 := hg.out.below hb6 hsz.out
              have hgz6 := hgz.out.below hb6 (Nat.lt_trans hGH hsz.out)
              have r1 : Hid (BlkT 27 ((((w6.setCell ⟨H, 0, none⟩ (.int .i64 (F 0))).setCell ⟨H, 1, none⟩ (.int .i64 (F 1))).setCell ⟨H, 2, none⟩ (.int .i64 (F 2))).setCell ⟨H, 3, none⟩ (.int .i64 (F 3))) H (vec (costR (R.drop k)))) := Lib.hid (by rw [hF.out]; exact hg6.vec4 F)
              have r2 := Lib.hid (hgz6.far4 (Nat.ne_of_gt hGH) (.int .i64 (F 0)) (.int .i64 (F 1)) (.int .i64 (F 2)) (.int .i64 (F 3)))
              have r3 : Hid (H < ((((w6.setCell ⟨H, 0, none⟩ (.int .i64 (F 0))).setCell ⟨H, 1, none⟩ (.int .i64 (F 1))).setCell ⟨H, 2, none⟩ (.int .i64 (F 2))).setCell ⟨H, 3, none⟩ (.int .i64 (F 3))).heap.size) := Lib.hid (by
                have := hsz.out
                have := hb6.size
                simp
                omega)
              have r4 := below4 (hb.trans (hb6.mono (by have := hsz.out; omega))) (Nat.le_of_lt hGH) (.int .i64 (F 0)) (.int .i64 (F 1)) (.int .i64 (F 2)) (.int .i64 (F 3))
              clear hg6 hgz6 hb6 n0 n1 n2 n3 nf c0 c1 c2 c3
              go_wp2
              go_roundw
              case rel => exact ⟨k, by omega, by omega, rfl, r1, r2, r3, r4⟩
              case measure => simp [intOf]
  · have e1 : cE c k = eB c := by unfold cE; rw [if_neg he]
    have e2 : ∀ a b, cA c k a b = 0 := fun a b => by unfold cA; rw [e1, if_neg he]
    rw [e1, e2, e2, e2, e2]
    obtain ⟨E, hE⟩ : ∃ E, eB c = E := ⟨_, rfl⟩
    rw [hE] at he cK ⊢
    have d1 : (E != 0) = true := bne_iff_ne.2 he
    replace hz := Lib.hid hz
    clear e1 e2 hE he
    go_enter Try.func14, Try.ntmps14
    go_wp2_with fail
    refine (cK.out _).mono ?_
    rintro e w1 ⟨rfl, rfl⟩
    go_wp2
    exact bodyPost_ret (results_row_tmp rfl _ _ w.heap.size 27 _ (0, 0) _ _ rfl rfl hz.out Try.underlying27 rfl (size_int4 zerosI)) rfl ⟨rfl, hzb⟩
end Go.Proofs.Ytmkmikegddafdaa.V10
