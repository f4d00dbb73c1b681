/- The contracts of the landed power, root, locatorOf, solve. -/
import Derived.Test.YtkobcffkgaodbaaG8Own1
import Derived.Test.YtkobcffkgaodbaaG8Euc
import Derived.Test.YtkobcffkgaodbaaG6OwnDiv
import Derived.Test.YtkobcffkgaodbaaG6OwnAdd
import Derived.Test.YtkobcffkgaodbaaG6OwnMul
namespace Go.Proofs.Ytkobcffkgaodbaa.G8
open Go.Proofs.Ytkobcffkgaodbaa.G5
open Go.Proofs.Ytkobcffkgaodbaa.G7
open Go.Proofs.Ytkobcffkgaodbaa.G6 (mb rs rs_len rs_get IsSl Gives VAt.setR VAt.readR make_zeros zeros_at mulL ev ev_mulL ev_one ev_cons mulL_tr Tr trim addL lenOf mulP_own addP_own div1_own Dvd one_ne eq_getD getD_set getD_app getD_zeros xz)
open Go.RowKit Mem
set_option linter.unusedVariables false
set_option linter.unusedSimpArgs false

theorem xp_set (n : Nat) : (List.replicate (n + 1) (0#8)).set n 1 = xp n := by
  refine eq_getD (by rw [List.length_set, xp_len]; simp) fun j hj => ?_
  have hj : j < n + 1 := by simpa using hj
  unfold xp
  rw [getD_set _ _ _ _ (by simp), getD_app, List.length_replicate]
  by_cases e : j = n
  · subst e
    rw [if_pos rfl, if_neg (by omega), Nat.sub_self]
    rfl
  · rw [if_neg e, if_pos (by omega), getD_zeros]
    exact (gz _ _).symm
set_option maxRecDepth 100000 in
set_option maxHeartbeats 1000000 in
theorem power_gives (n : Nat) (w : World) (hn : n ≤ 1000) : Calls Try.prog 66 #[.int .i64 (n : Int)] w (Gives w (xp n)) := by
  obtain ⟨N, hN⟩ : ∃ N, n + 1 = N := ⟨_, rfl⟩
  have e1 : (n : Int) + 1 = (N : Int) := by omega
  have hmk := make_zeros w N (by omega)
  have hat := zeros_at w N (by omega)
  have ob := mb w (.cells (madeCells #[.int .u8 0] N) 5)
  obtain ⟨G, hG⟩ : ∃ G, w.heap.size = G := ⟨_, rfl⟩
  have hgl : G < (w.alloc (.cells (madeCells #[.int .u8 0] N) 5)).heap.size := by rw [← hG]; simp
  rw [hG] at hat hmk
  obtain ⟨W1, hW1⟩ : ∃ W1, w.alloc (.cells (madeCells #[.int .u8 0] N) 5) = W1 := ⟨_, rfl⟩
  rw [hW1] at hmk hat ob hgl
  clear hW1
  obtain ⟨hn1, hf1⟩ := VAt.readR hat (k := n) (by simp; omega)
  have hat2 := VAt.setR hat (k := n) (by simp; omega) 1#8
  have hb2 := ob.setCell (p := ⟨G, n, none⟩) (by rw [hG]; exact Nat.le_refl _) (bv 1#8)
  rw [← hN] at hat2
  rw [show (List.replicate (n + 1) (0#8)).set n 1#8 = xp n from xp_set n] at hat2
  have hgl2 : G < (W1.setCell ⟨G, n, none⟩ (bv 1#8)).heap.size := by simpa using hgl
  have hsl := Lib.hid (IsSl.of_at (n := N) hat2 (by rw [xp_len]; exact hN) (by omega) hgl2)
  have hlen := Lib.hid (show (xp n).length = N by rw [xp_len]; exact hN)
  have hb2 := Lib.hid hb2
  have n0 : (0 : Int) ≤ (n : Int) := by omega
  have n1 : (n : Int) < (N : Int) := by omega
  clear hat hat2 hgl hgl2 ob hN
  have hGh := Lib.hid hG
  go_enter Try.func66, Try.ntmps66
  go_wp2
  go_ret
  exact ⟨_, N, by rw [hlen.out]; rfl, hsl.out, hb2.out⟩

/-- The root of a place's locator. -/
def rt (n i : Nat) : R := ex (-((n - 1 - i : Nat) : Int))
theorem rt_lc (n i : Nat) : tms (lc n i) (rt n i) = 1 := by
  unfold lc rt
  rw [← ex_nat, ← ex_add, Int.add_right_neg]
  rfl
theorem rt_ne (n i : Nat) : rt n i ≠ 0 := fun e => by
  have := rt_lc n i
  rw [e, tms_zero] at this
  exact one_ne this.symm
theorem rt_iv (n i : Nat) : iv (rt n i) = lc n i := (iv_only (by rw [tms_comm]; exact rt_lc n i)).symm
set_option maxHeartbeats 1000000 in
theorem root_own {n i : Nat} (w : World) (hn : n ≤ 1000) (hi : i < n) : Calls Try.prog 49 #[.int .i64 (i : Int), .int .i64 (n : Int)] w fun e w' => e = .returned (bv (rt n i)) ∧ Below w.heap.size w w' := by
  have cE := exp_own (-((n - 1 - i : Nat) : Int)) w (by omega) (by omega)
  obtain ⟨N, hN⟩ : ∃ N, n = N + 1 := ⟨n - 1, by omega⟩
  obtain ⟨d, hd⟩ : ∃ d, n - 1 - i = d := ⟨_, rfl⟩
  unfold rt
  rw [hd] at cE ⊢
  have cE := Lib.hid cE
  have e1 : (n : Int) - 1 = (N : Int) := by omega
  have e2 : (N : Int) - (i : Int) = (d : Int) := by omega
  have hN2 : N ≤ 1000 := by omega
  have hd2 : d ≤ 1000 := by omega
  have hd3 := Lib.hid hd
  clear hN hd
  go_enter Try.func49, Try.ntmps49
  go_wp2_with fail
  refine cE.out.mono ?_
  rintro e w1 ⟨rfl, hb⟩
  go_wp2
  go_ret
  exact ⟨rfl, hb⟩

/-! ### the locator of places -/
def glm (n : Nat) (ms : List Nat) : List R := ms.foldl (fun q m => mulL q [1, lc n m]) [1]
theorem glm_snoc (n : Nat) (ms : List Nat) (m : Nat) : glm n (ms ++ [m]) = mulL (glm n ms) [1, lc n m] := by simp [glm]
theorem ev_two (X x : R) : ev [1, X] x = 1 ^^^ tms X x := by rw [ev_cons, ev_one, tms_comm]
theorem glm_from (n : Nat) : ∀ (ms : List Nat) (q : List R), Tr q → q ≠ [] → Tr (ms.foldl (fun q m => mulL q [1, lc n m]) q) ∧ (ms.foldl (fun q m => mulL q [1, lc n m]) q).length = q.length + ms.length ∧
    ∀ x, ev (ms.foldl (fun q m => mulL q [1, lc n m]) q) x = tms (ev q x) (ev (loc n ms) x)
  | [], q, h, _ => ⟨h, rfl, fun x => by rw [loc_nil, tms_one]; rfl⟩
  | m :: ms, q, h, h0 => by
    have ht : Tr [1, lc n m] := Tr.snoc (lc_ne n m) [1]
    obtain ⟨t1, t2⟩ := Tr.ml h ht h0 (by simp)
    have e : mulL q [1, lc n m] = G6.ml q [1, lc n m] := t1.eq
    have hl : (mulL q [1, lc n m]).length = q.length + 1 := by rw [e]; simp at t2; omega
    obtain ⟨i1, i2, i3⟩ := glm_from n ms (mulL q [1, lc n m]) (mulL_tr _ _) (fun e => by rw [e] at hl; simp at hl)
    refine ⟨i1, by rw [List.foldl_cons, i2, hl, List.length_cons]; omega, fun x => ?_⟩
    rw [List.foldl_cons, i3 x, ev_mulL, ev_two, loc_cons, tms_assoc]
theorem glm_len (n : Nat) (ms : List Nat) : (glm n ms).length = ms.length + 1 := by
  have := (glm_from n ms [1] (Tr.snoc one_ne []) (by simp)).2.1
  unfold glm
  rw [this]
  simp
  omega
theorem ev_glm (n : Nat) (ms : List Nat) (x : R) : ev (glm n ms) x = ev (loc n ms) x := by
  have := (glm_from n ms [1] (Tr.snoc one_ne []) (by simp)).2.2 x
  unfold glm
  rw [this, ev_one, one_tms]
theorem nat_take (ms : List Nat) (k : Nat) (h : k < ms.length) : ms.take (k + 1) = ms.take k ++ [ms.getD k 0] := by
  rw [List.take_succ_eq_append_getElem h]
  simp [List.getD_eq_getElem?_getD, List.getElem?_eq_getElem h]
theorem nat_mem (ms : List Nat) (j : Nat) (h : j < ms.length) : ms.getD j 0 ∈ ms := by
  rw [List.getD_eq_getElem?_getD, List.getElem?_eq_getElem h]
  exact List.getElem_mem _
theorem cast_get (ms : List Nat) (j : Nat) (h : j < ms.length) : (ms.map fun (i : Nat) => (i : Int)).getD j 0 = ((ms.getD j 0 : Nat) : Int) := by
  simp [List.getD_eq_getElem?_getD, List.getElem?_eq_getElem h]
set_option maxRecDepth 100000 in
set_option maxHeartbeats 2000000 in
theorem locator_own {A : Option Addr} {m c n : Nat} {ms : List Nat} {w : World} (h : IsInts w A c (ms.map fun (i : Nat) => (i : Int))) (hl : ms.length = m) (hm : m ≤ 90) (hn : n ≤ 1000) (hlt : ∀ i ∈ ms, i < n) :
    Calls Try.prog 44 #[.slice A m c, .int .i64 (n : Int)] w (Gives w (glm n ms)) := by
  have hsh := Lib.hid h
  have hlh := Lib.hid hl
  have hlth := Lib.hid hlt
  have hb0 := mb w (.cells #[.int .u8 1] 5)
  have hsl0 := IsSl.made w 5 [1#8] #[.int .u8 1] _ 1 rfl rfl rfl (by decide)
  have hsl0 := Lib.hid (show IsSl (w.alloc (.cells #[.int .u8 1] 5)) (some ⟨w.heap.size, 0, none⟩) 1 (glm n (ms.take 0)) from by rw [List.take_zero]; exact hsl0)
  clear h hl hlt
  go_enter Try.func44, Try.ntmps44
  go_wp2
  go_loopw [5, 13] (fun v i wr => ∃ (k : Nat) (A' : Option Addr) (c' : Nat), k ≤ m ∧ i = .int .i64 k ∧ v = .slice A' (k + 1) c' ∧ Hid (IsSl wr A' c' (glm n (ms.take k))) ∧ Below w.heap.size w wr) (fun _ i _ => m - (intOf i).toNat)
  case atStart => exact ⟨0, _, 1, Nat.zero_le _, rfl, rfl, hsl0, hb0⟩
  case round =>
    clear hsl0 hb0
    obtain ⟨k, A', c', hk, rfl, rfl, hg, hb⟩ := hrel
    by_cases hlt : k < m
    · have hkl : k < ms.length := by rw [hlh.out]; exact hlt
      obtain ⟨b', o, rfl, hbl, hc⟩ := (hsh.out.below hb).read k (by rw [List.length_map]; exact hkl)
      rw [cast_get ms k hkl] at hc
      have htk := nat_take ms k hkl
      have hYn := hlth.out _ (nat_mem ms k hkl)
      obtain ⟨Y, hY⟩ : ∃ Y, ms.getD k 0 = Y := ⟨_, rfl⟩
      rw [hY] at hc htk hYn
      have hst := glm_snoc n (ms.take k) Y
      rw [← htk] at hst
      have hlk : (glm n (ms.take k)).length = k + 1 := by rw [glm_len, List.length_take, Nat.min_eq_left (by omega)]
      have hlk2 : (glm n (ms.take (k + 1))).length = k + 1 + 1 := by rw [glm_len, List.length_take, Nat.min_eq_left (by omega)]
      have cR := Lib.hid (root_own wr hn hYn)
      have cI := fun W => inv_own (rt n Y) W
      rw [rt_iv, show (!(rt n Y == 0#8)) = true by rw [show (rt n Y == 0#8) = false from beq_eq_false_iff_ne.2 (rt_ne n Y)]; rfl] at cI
      have cI := Lib.hid cI
      obtain ⟨X, hX⟩ : ∃ X, lc n Y = X := ⟨_, rfl⟩
      rw [hX] at hst cI
      have hst := Lib.hid (show glm n (ms.take (k + 1)) = mulL (glm n (ms.take k)) [1#8, X] from hst)
      have hlk := Lib.hid hlk
      have hlk2 := Lib.hid hlk2
      have d0 : (k : Int) < (m : Int) := by omega
      have d1 : decide (k < m) = true := decide_eq_true hlt
      have k0 : (0 : Int) ≤ (k : Int) := by omega
      clear hY htk hX hkl hYn
      go_wp2_with fail
      refine cR.out.mono ?_
      rintro e w1 ⟨rfl, hb1⟩
      clear cR
      go_wp2_with fail
      with_reducible refine (cI.out _).mono ?_
      rintro e w2 ⟨rfl, hb2⟩
      clear cI
      have hbb := chain hb1 hb2
      have hb3 := chain hb hbb
      have hg2 := hg.out.below hbb
      clear hb hb1 hb2 hbb hg
      have hlit := IsSl.made w2 5 [1#8, X] #[.int .u8 1, bv X] _ 2 rfl rfl rfl (by decide)
      have hbl := mb w2 (.cells #[.int .u8 1, bv X] 5)
      have cM := mulP_own (hg2.below hbl) hlit (by rw [hlk.out]; simp; omega)
      have hb4 := chain hb3 hbl
      rw [← hst.out, hlk.out, show [1#8, X].length = 2 from rfl] at cM
      have cM := Lib.hid cM
      clear hg2 hlit hbl hb3 hst hlk
      go_wp2_with fail
      with_reducible refine cM.out.mono ?_
      rintro e w3 ⟨A2, c2, rfl, hs2, hb5⟩
      have hb6 := chain hb4 hb5
      have hs2 := Lib.hid hs2
      rw [hlk2.out]
      clear hb4 hb5 cM hlk2
      go_wp2
      go_roundw
      case rel => exact ⟨k + 1, A2, c2, by omega, by go_num, rfl, hs2, hb6⟩
      case measure => simp [intOf]; omega
    · have hke : k = m := by omega
      have d0 : ¬ (k : Int) < (m : Int) := by omega
      have d1 : decide (k < m) = false := decide_eq_false hlt
      rw [hke, List.take_of_length_le (by rw [hlh.out]; exact Nat.le_refl _)] at hg
      rw [hke]
      have hgl := Lib.hid (show (glm n ms).length = m + 1 by rw [glm_len, hlh.out])
      go_wp2
      go_ret
      exact ⟨A', c', by rw [hgl.out]; rfl, hg.out, hb⟩
end Go.Proofs.Ytkobcffkgaodbaa.G8
