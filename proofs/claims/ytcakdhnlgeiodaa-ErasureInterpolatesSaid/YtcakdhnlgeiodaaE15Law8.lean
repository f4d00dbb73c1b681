/- The walk of the law ErasureInterpolates. -/
import Derived.Test.YtcakdhnlgeiodaaE15Awake
import Derived.Test.YtcakdhnlgeiodaaE15Stri
import Derived.Test.YtcakdhnlgeiodaaG6Own7
import Derived.Deep.RegionLaw
import Derived.Maps.AppendAt
import Derived.Lib.AppendZeros
import Derived.BigQuiet
import Derived.Deep.QuietTactic
namespace Go.Proofs.Ytcakdhnlgeiodaa.E15
set_option maxRecDepth 100000
open Go.RowKit Mem S14
open Go.Proofs.Ytcakdhnlgeiodaa.G5 Go.Proofs.Ytcakdhnlgeiodaa.G7
open Go.Proofs.Ytcakdhnlgeiodaa.G6 (IsSl rs rs_len rs_get rs_set rs_one rs_snoc make_zeros zeros_at own_zeros info_byte u8s conv_sl)
set_option linter.unusedVariables false
set_option linter.unusedSimpArgs false

theorem byte_at (w : World) (x : Value) (t : TypeId) : (w.alloc (.cells #[x] t)).cell? ⟨w.heap.size, 0, none⟩ = some x := by
  have h := one_new w x t 0 x rfl
  rw [add_at] at h
  exact h
theorem byte_at2 (w : World) (x : Value) (t : TypeId) (o : Obj) : ((w.alloc (.cells #[x] t)).alloc o).cell? ⟨w.heap.size, 0, none⟩ = some x :=
  (((Below.refl (w.heap.size + 1) (w.alloc (.cells #[x] t))).alloc (by simp) o).cell (p := ⟨w.heap.size, 0, none⟩) (Nat.lt_succ_self _)).trans (byte_at w x t)
theorem byte_at3 (w : World) (x : Value) (t : TypeId) (o : Obj) : ((w.alloc o).alloc (.cells #[x] t)).cell? ⟨w.heap.size + 1, 0, none⟩ = some x := by
  have := byte_at (w.alloc o) x t
  rwa [World.size_alloc] at this
theorem below_drewI {B : Nat} {w W : World} (h : Below B w W) : Below B w W.drew := chainB h 1
/-- append of one byte, as a step of a region that draws its order; where the row then lies. -/
theorem step_appB {w : World} {ops : Array Oper} {o : Oper} {a : Act} {K : Act → World → Prop} {Q : Exit → Act → World → Prop} {E : Prop} (hgd : o.guard = none) (s x : Operand)
    (ho : o.op = .call { callee := .builtin .append, args := #[s, x], argTypes := #[43, 43] }) (base : Nat)
    (v : Value) (n : Nat) (xs : List Value) (b : Nat) (u : Int)
    (hs : a.eval s = v) (hown : w.ownsRow base 5 1 v n xs) (hx : a.eval x = .slice (some ⟨b, 0, none⟩) 1 1) (hc : w.cell? ⟨b, 0, none⟩ = some (.int .u8 u)) (hn : n ≤ 1000000) (hbase : base ≤ w.heap.size)
    (h : ∀ v' w', w'.ownsRow base 5 1 v' (n + 1) (xs ++ [.int .u8 u]) → w.grownBy w' v.ownBlock → (v'.ownBlock = v.ownBlock ∨ v'.ownBlock = some w.heap.size) → K (a.put o.dst v') w') :
    if Region.wanted o (yielded ops a.tmps) = true then Oper.wp Try.prog o a w K Q else E := by
  rw [if_pos (by simp [Region.wanted, hgd])]
  obtain ⟨i0, hi0, hz0, hz1, hz2⟩ := info_parts info_byte
  obtain ⟨v', w', hr, h2, h3, h4, h5⟩ := run_append_own_at (P := Try.prog) w base 43 o.type 5 i0 (.int .u8 0) 1 1 Try.underlying43 hi0 hz0 hz1 hz2 rfl (by decide) v n xs hown ⟨b, 0, none⟩ 1 1 [.int .u8 u] rfl (fun j y hj => by
    match j, hj with
    | 0, hj =>
      simp at hj
      subst hj
      rw [add_at]
      exact hc) (one_cell _ _) (by unfold maxLen; omega) (by omega) hbase
  exact Go.Lib.wp_append_run w s x 43 43 ho _ _ hs hx v' w' hr (h v' w' h2 h3 h5)
/-- The interpolated polynomial's values. -/
theorem itp_lag {E : List (List R)} {O : Nat} {l : List R} (h8 : E.length ≤ 8) (h : G6.Itp (pts E.length) (col E O) l) (x : R) : G6.ev l x = lag (pts E.length) (col E O) x E.length := by
  have := lag_eq (xl := pts E.length) (yl := col E O) (p := l) (pts_nodup (by omega)) h.len (fun j hj => by
    have hv := h.val j hj
    rw [← hv]
    congr 1
    simp [List.getD_eq_getElem?_getD, hj]) x
  rw [pts_len] at this
  exact this.symm
theorem pts_snoc (k : Nat) : pts (k + 1) = pts k ++ [pt k] := by simp [pts, List.range_succ]
theorem col_take (E : List (List R)) (O k : Nat) (hk : k < E.length) : (col E O).take (k + 1) = (col E O).take k ++ [(E[k]).getD O 0] := by
  rw [List.take_add_one, List.getElem?_eq_getElem (by rw [col_len]; exact hk)]
  simp [col]
set_option maxHeartbeats 16000000 in
theorem walk_interpolates (A : Option Addr) (n c : Nat) (ls : List (List UInt8)) (k t : Nat) (w : World) (h0 : IsStrs w A n c ls) (hk : k ≤ 255) (ht : t ≤ 255) :
    Calls Try.prog 10 #[.slice A n c, .int .u8 (k : Int), .int .u8 (t : Int)] w fun e w' => e = .returned (.bool true) ∧ Below w.heap.size w w' := by
  obtain ⟨L, _, h⟩ := IsBs.of_strs h0
  have cS := stripe_any k hk h
  have cA := fun W => awake_any W
  replace cS := Lib.hid cS
  replace cA := Lib.hid cA
  clear h h0
  go_enter Try.func10, Try.ntmps10
  go_wp2_with fail
  refine (cS.out).mono ?_
  rintro e w1 ⟨E, m, M, A1, c1, v, hE, hM, rfl, hB1, hr1, hb1⟩
  obtain ⟨hl1, A2, c2, rfl, hR1⟩ := IsRaw.of_own hr1
  have hE8 := hE.hi
  have hE1 := hE.lo
  have hm40 := hE.m40
  have hgE := fun (j : Nat) (hj : j < E.length) => hB1.get hj
  have hlE : ∀ j (hj : j < E.length), (E[j]).length = m := fun j hj => hE.len _ (List.getElem_mem _)
  obtain ⟨b, o, rfl, hbl, g0⟩ := hB1.get (k := 0) (by omega)
  rw [Nat.add_zero] at g0
  obtain ⟨S0, hS0⟩ : ∃ S, str (E[0]'(by omega)) = S := ⟨_, rfl⟩
  have hz0 : S0.size = m := by rw [← hS0, size_str, hlE]
  rw [hS0] at g0
  have hpl := fun (l : List R) (O : Nat) (h : G6.Itp (pts E.length) (col E O) l) => itp_lag hE8 h
  have hTg := fun (i O : Nat) (hO : O < m) => show (stD E m (pt i)).getD O 0 = lag (pts E.length) (col E O) (pt i) E.length by
    unfold stD
    rw [blk_get _ _ _ hO, pts_len]
  have hTl := fun (i : Nat) => (stD_stripe E m).len (pt i)
  have hshg := fun (i : Nat) (hi : i < E.length + M) => hR1.sh (k := i) (by rw [shA_len]; exact hi)
  have hsha := fun (i : Nat) (hi : i < E.length + M) => shA_get (stD E m) hi
  obtain ⟨T, hT⟩ : ∃ T, stD E m = T := ⟨_, rfl⟩
  obtain ⟨n1, hn1⟩ : ∃ n1, E.length = n1 := ⟨_, rfl⟩
  rw [hT] at hTg hTl hshg hsha
  rw [hn1] at hE8 hE1 hpl hTg hshg hsha hR1 ⊢
  have hn1 := Lib.hid hn1
  obtain ⟨N, hN⟩ : ∃ N, n1 + M = N := ⟨_, rfl⟩
  have hN15 : N ≤ 15 := by omega
  rw [hN] at hshg hsha ⊢
  replace hgE := Lib.hid hgE
  replace hlE := Lib.hid hlE
  replace hpl := Lib.hid hpl
  replace hTg := Lib.hid hTg
  replace hTl := Lib.hid hTl
  replace hshg := Lib.hid hshg
  replace hsha := Lib.hid hsha
  replace hb1 := Lib.hid hb1
  clear hr1 hR1 hE hl1 cS hB1 hS0 hT hN
  have n1i : (1 : Int) ≤ (n1 : Int) := by omega
  by_cases z2 : m = 0
  · have t2 : ((S0.size : Int) == 0) = true := beq_iff_eq.2 (by omega)
    have t2' : (S0.size == 0) = true := beq_iff_eq.2 (by omega)
    replace cA := Lib.hid (cA.out w1)
    clear hgE hlE hpl hTg hTl hshg hsha
    go_wp2_with fail
    refine (cA.out).mono ?_
    rintro e w4 ⟨rfl, hb6⟩
    have hfin := Lib.hid (chain hb1.out hb6)
    clear cA hb1 hb6
    go_wp2
    go_ret
    exact ⟨rfl, hfin.out⟩
  have t2 : ((S0.size : Int) == 0) = false := beq_eq_false_iff_ne.2 (by omega)
  have t2' : (S0.size == 0) = false := beq_eq_false_iff_ne.2 (by omega)
  obtain ⟨O, hO⟩ : ∃ O, t % m = O := ⟨_, rfl⟩
  have hOm : O < m := by rw [← hO]; exact Nat.mod_lt _ (by omega)
  have m3 : (t : Int) % (m : Int) = (O : Int) := by omega
  have m4 : (t : Int).tmod (m : Int) = (O : Int) := by rw [Int.tmod_eq_emod_of_nonneg (by omega)]; exact m3
  have i0' : (0 : Int) ≤ (t : Int) := by omega
  have i1' : (t : Int) ≤ 255 := by omega
  have i4 : (0 : Int) ≤ (O : Int) := by omega
  have i5 : (O : Int) < (m : Int) := by omega
  have wt : IntKind.i64.wrap (t : Int) = (t : Int) := by rw [IntKind.wrap_i64]; omega
  have wO : IntKind.i64.wrap (O : Int) = (O : Int) := by rw [IntKind.wrap_i64]; omega
  have j2 : ((m : Int) == 0) = false := beq_eq_false_iff_ne.2 (by omega)
  have j3 : ¬ m = 0 := z2
  have o1 : ((w1.alloc (.cells #[] 5)).alloc (.cells #[] 5)).ownsRow w1.heap.size 5 1 (.slice (some ⟨w1.heap.size, 0, none⟩) 0 0) 0 (rs (pts 0)) := (empty_at rfl (Nat.le_refl _)).alloc _
  have o2 : ((w1.alloc (.cells #[] 5)).alloc (.cells #[] 5)).ownsRow w1.heap.size 5 1 (.slice (some ⟨w1.heap.size + 1, 0, none⟩) 0 0) 0 (rs ((col E O).take 0)) := empty_at (by simp) (Nat.le_succ _)
  have o3 : Below w1.heap.size w1 ((w1.alloc (.cells #[] 5)).alloc (.cells #[] 5)) := ((Below.refl _ _).alloc (Nat.le_refl _) _).alloc (by simp) _
  have o4 : (Value.slice (some ⟨w1.heap.size, 0, none⟩) 0 0).ownBlock = none ∨ (Value.slice (some ⟨w1.heap.size, 0, none⟩) 0 0).ownBlock ≠ (Value.slice (some ⟨w1.heap.size + 1, 0, none⟩) 0 0).ownBlock := Or.inr (fun e => by
    simp [Value.ownBlock] at e)
  replace o1 := Lib.hid o1
  replace o2 := Lib.hid o2
  replace o3 := Lib.hid o3
  replace o4 := Lib.hid o4
  clear hO z2
  go_wp2
  go_loopw [11, 12, 43] (fun vv uu iv wr => ∃ (j : Nat) (v1 v2 : Value), v1 = vv ∧ v2 = uu ∧ iv = .int .i64 (j : Int) ∧ j ≤ n1 ∧ Hid (wr.ownsRow w1.heap.size 5 1 v1 j (rs (pts j))) ∧ Hid (wr.ownsRow w1.heap.size 5 1 v2 j (rs ((col E O).take j))) ∧ Hid (v1.ownBlock = none ∨ v1.ownBlock ≠ v2.ownBlock) ∧ Hid (Below w1.heap.size w1 wr)) (fun _ _ iv _ => n1 - (intOf iv).toNat)
  case atStart => exact ⟨0, _, _, rfl, rfl, rfl, Nat.zero_le _, o1, o2, o4, o3⟩
  case round =>
    clear o1 o2 o3 o4
    obtain ⟨j, v1, v2, rfl, rfl, rfl, hj, hr1, hr2, hap, hb⟩ := hrel
    by_cases hjt : j < n1
    · have dj : decide ((j : Int) < (n1 : Int)) = true := decide_eq_true (by omega)
      have j0 : (0 : Int) ≤ (j : Int) := by omega
      have j1 : (j : Int) < (n1 : Int) := by omega
      have j8 : (j : Int) ≤ 8 := by omega
      have hjl : j < E.length := by have := hn1.out; omega
      obtain ⟨b', o', e', _, g1⟩ := hgE.out j hjl
      cases e'
      have hlj := hlE.out j hjl
      have hct := col_take E O j hjl
      obtain ⟨S, hS⟩ : ∃ S, str E[j] = S := ⟨_, rfl⟩
      have hel : el S = E[j] := by rw [← hS, el_str]
      have hSs : S.size = m := by rw [← hS, size_str, hlj]
      have hby := byte_val S O (by omega) ((E[j]).getD O 0) (by rw [hel])
      obtain ⟨Y, hY⟩ : ∃ Y, (E[j]).getD O 0 = Y := ⟨_, rfl⟩
      rw [hY] at hct hby
      rw [hS] at g1
      have hbo := hb.out
      have hbs := hbo.size
      have r1 : Hid (rs (pts (j + 1)) = rs (pts j) ++ [.int .u8 (j : Int)]) := Lib.hid (by rw [pts_snoc, rs_snoc]; show _ ++ [Value.int .u8 ((pt j).toNat : Int)] = _; rw [pt_val (by omega)])
      have r2 : Hid (rs ((col E O).take (j + 1)) = rs ((col E O).take j) ++ [.int .u8 (Y.toNat : Int)]) := Lib.hid (by rw [hct]; exact rs_snoc _ _)
      have hr1o := hr1.out
      have hr2o := hr2.out
      have hlt1 : ∀ g, v1.ownBlock = some g → g < wr.heap.size := fun g e => (hr1o.lt g e).2
      have hlt2 : ∀ g, v2.ownBlock = some g → g < wr.heap.size := fun g e => (hr2o.lt g e).2
      have hne1 : some wr.heap.size ≠ v1.ownBlock := fun e => by have := hlt1 _ e.symm; omega
      have hne2 : some (wr.heap.size + 1) ≠ v1.ownBlock := fun e => by have := hlt1 _ e.symm; omega
      have hbl' : b < wr.heap.size := Nat.lt_of_lt_of_le hbl hbs
      have g1r := (hbo.cell (p := ⟨b, o + j, none⟩) hbl).trans g1
      have ga : (wr.alloc (.cells #[.int .u8 (j : Int)] 5)).cell? ⟨b, o + j, none⟩ = some (.string S) := (((Below.refl wr.heap.size wr).alloc (Nat.le_refl _) _).cell (p := ⟨b, o + j, none⟩) hbl').trans g1r
      have hcW := Lib.hid (fun (W : World) (h : Below w1.heap.size w1 W) => (h.cell (p := ⟨b, o + j, none⟩) hbl).trans g1)
      have hb1a : ∀ o, Below w1.heap.size w1 (wr.alloc o) := fun o => hbo.alloc hbs _
      have hb2a : ∀ o o', Below w1.heap.size w1 ((wr.alloc o).alloc o') := fun o o' => (hb1a o).alloc (hb1a o).size _
      have hwj : IntKind.u8.wrap (j : Int) = (j : Int) := by rw [IntKind.wrap_u8]; omega
      have hapB : Hid (v2.ownBlock = none ∨ v2.ownBlock ≠ v1.ownBlock) := Lib.hid (by
        rcases hap.out with h | h
        · by_cases e : v2.ownBlock = none
          · exact Or.inl e
          · exact Or.inr (by rw [h]; exact e)
        · exact Or.inr (fun e => h e.symm))
      have hapA := hap
      replace hlt2 := Lib.hid hlt2
      replace hne1 := Lib.hid hne1
      replace hne2 := Lib.hid hne2
      replace hb1a := Lib.hid hb1a
      replace hb2a := Lib.hid hb2a
      replace hlt1 := Lib.hid hlt1
      clear hS hel hY hct hr1 hr2 hb hgE hlE hpl hTg hTl hshg hsha hap g1 hbo
      go_wp2_with fail
      go_region_law ((first
        | ((refine step_appB (by rfl) _ _ (by rfl) w1.heap.size v1 j (rs (pts j)) _ (j : Int) (by rfl) (show World.ownsRow _ _ _ _ _ _ _ from by first | exact hr1o.alloc _ | exact (hr1o.alloc _).alloc _) (by rfl) (by first | exact byte_at wr _ _ | exact byte_at2 wr _ _ _ | exact byte_at3 wr _ _ _) (by omega) (by simp; omega) ?_); intro v5 w5 hown5 hgr5 hat5; have hrk5 : w5.ownsRow w1.heap.size 5 1 v2 j (rs ((col E O).take j)) := (by refine World.ownsRow.kept ?_ hgr5 hapB.out; first | exact hr2o.alloc _ | exact (hr2o.alloc _).alloc _); have hbl5 : Below w1.heap.size w1 w5 := (by refine Below.grown ?_ hgr5 (by simp; omega) (fun g e => (hr1o.lt g e).1); repeat (refine below_drewI ?_); first | exact hb1a.out _ | exact hb2a.out _ _); have g15 := hcW.out w5 hbl5; have hbs5 := hbl5.size)
        | ((refine step_appB (by rfl) _ _ (by rfl) w1.heap.size v2 j (rs ((col E O).take j)) _ (Y.toNat : Int) (by rfl) (show World.ownsRow _ _ _ _ _ _ _ from by first | exact hrk5.alloc _ | exact hrk5) (by rfl) (by first | exact byte_at w5 _ _ | exact hgr5.cell (byte_at2 wr _ _ _) hne1.out | exact hgr5.cell (byte_at3 wr _ _ _) hne2.out) (by omega) (by first | assumption | (simp; omega)) ?_); intro v6 w6 hown6 hgr6 hat6)))
      all_goals
        have hp5 : v5.ownBlock = none ∨ v5.ownBlock ≠ v2.ownBlock := by
          rcases hat5 with h | h
          · rw [h]; exact hapA.out
          · refine Or.inr (fun e => ?_)
            have h2 := hlt2.out _ (e.symm.trans h)
            simp at h2
            try omega
        have hq6 : w6.ownsRow w1.heap.size 5 1 v5 (j + 1) (rs (pts j) ++ [.int .u8 (j : Int)]) := by
          refine World.ownsRow.kept ?_ hgr6 hp5
          first | exact hown5 | exact hown5.alloc _
        have hp6 : v5.ownBlock = none ∨ v5.ownBlock ≠ v6.ownBlock := by
          rcases hat6 with h | h
          · rw [h]; exact hp5
          · refine Or.inr (fun e => ?_)
            have h2 := (hown5.lt _ (e.trans h)).2
            simp at h2
            try omega
        have hbl6 : Below w1.heap.size w1 w6 := by
          refine Below.grown ?_ hgr6 (by first | assumption | (simp; omega)) (fun g e => (hrk5.lt g e).1)
          first | exact hbl5 | exact hbl5.alloc hbs5 _
        rw [← r1.out] at hq6
        rw [← r2.out] at hown6
        replace hp6 := Lib.hid hp6
        clear hp5 hat5 hat6 hgr5 hgr6 hown5 hrk5 hbl5 g15 hbs5 hr1o hr2o hapB hapA hlt1 hlt2 hne1 hne2 ga g1r hcW hb1a hb2a
        go_wp2
        go_roundw
        case rel => exact ⟨j + 1, _, _, rfl, rfl, by go_num, by omega, Lib.hid hq6, Lib.hid hown6, hp6, Lib.hid hbl6⟩
        case measure => simp [intOf]; omega
    · obtain rfl : j = n1 := by omega
      have dj : decide ((j : Int) < (j : Int)) = false := decide_eq_false (by omega)
      obtain ⟨A3, c3, rfl, _, _⟩ := own_slice hr1.out
      obtain ⟨A4, c4, rfl, _, _⟩ := own_slice hr2.out
      have hs1 := (G6.IsSl.of_own hr1.out).1
      have hs2 := (G6.IsSl.of_own hr2.out).1
      rw [List.take_of_length_le (by rw [col_len, hn1.out]; exact Nat.le_refl _)] at hs2
      have cI := G6.it3_own hs1 hs2 (by rw [pts_len]; omega) (by rw [pts_len, col_len, hn1.out]) (pts_nodup (by omega))
      rw [pts_len, col_len, hn1.out] at cI
      have hb2 := Lib.hid (chain hb1.out hb.out)
      have hbw := hb
      replace cI := Lib.hid cI
      clear hs1 hs2 hr1 hr2 hap hgE hlE hb
      go_wp2_with fail
      refine (cI.out).mono ?_
      rintro e w5 ⟨l, A5, c5, hI, rfl, hsl, hb5⟩
      have hb6 := Lib.hid (chain hb2.out hb5)
      have hbw5 := Lib.hid (chain hbw.out hb5)
      have hll : l.length ≤ 1000 := by have := hI.len; rw [pts_len] at this; omega
      have hval := Lib.hid (fun x => hpl.out l O hI x)
      obtain ⟨ll, hll2⟩ : ∃ ll, l.length = ll := ⟨_, rfl⟩
      have cE := fun (x : R) (W : World) (h : IsSl W A5 c5 l) => G6.eval_own x h hll
      rw [hll2] at cE ⊢
      replace cE := Lib.hid cE
      replace hsl := Lib.hid hsl
      clear hI hb5 hbw hb2 cI hll hll2 hpl
      go_wp2
      go_loopw [69] (fun iv wr => ∃ (i q : Nat), iv = .int .i64 (i : Int) ∧ i ≤ N ∧ Hid (wr = w5.drewN q)) (fun iv _ => N - (intOf iv).toNat)
      case atStart => exact ⟨0, 0, rfl, Nat.zero_le _, Lib.hid rfl⟩
      case round =>
        obtain ⟨i, q, rfl, hi, hw⟩ := hrel
        by_cases hit : i < N
        · have di : decide ((i : Int) < (N : Int)) = true := decide_eq_true (by omega)
          have k0 : (0 : Int) ≤ (i : Int) := by omega
          have k1 : (i : Int) < (N : Int) := by omega
          have i255 : (i : Int) ≤ 255 := by omega
          obtain ⟨b2, o2, rfl, hbl2, g1, g2⟩ := hshg.out i hit
          have hsi := hsha.out i hit
          rw [getD_map' _ _ _ (by rw [shA_len]; exact hit), hsi] at g1 g2
          dsimp only at g1 g2
          rw [pt_val (by omega)] at g1
          have hb7 : Below w1.heap.size w1 wr := by rw [hw.out]; exact chainB hbw5.out q
          have g1 := (hb7.cell (p := ⟨b2, o2 + i * 2, none⟩) hbl2).trans g1
          have g2 := (hb7.cell (p := ⟨b2, o2 + i * 2 + 1, none⟩) hbl2).trans g2
          have hlT := hTl.out i
          obtain ⟨S, hS⟩ : ∃ S, str (T (pt i)) = S := ⟨_, rfl⟩
          have hel : el S = T (pt i) := by rw [← hS, el_str]
          have hSs : S.size = m := by rw [← hS, size_str, hlT]
          rw [hS] at g2
          have hby := byte_val S O (by omega) ((T (pt i)).getD O 0) (by rw [hel])
          have hTv := hTg.out i O hOm
          have hv := hval.out (pt i)
          have cV := fun (q : Nat) => cE.out (pt i) (wr.drewN q) (by rw [hw.out]; exact G6.IsSl.drewN (G6.IsSl.drewN hsl.out _) q)
          rw [hv, ← hTv] at cV
          rw [show bv (pt i) = .int .u8 (i : Int) from by unfold bv; rw [pt_val (by omega)]] at cV
          obtain ⟨Y, hY⟩ : ∃ Y, (T (pt i)).getD O 0 = Y := ⟨_, rfl⟩
          rw [hY] at hby cV
          have hq0 : ((Y.toNat : Int) != (Y.toNat : Int)) = false := by simp
          have hwi : IntKind.u8.wrap (i : Int) = (i : Int) := by rw [IntKind.wrap_u8]; omega
          have hcv : ∀ W, (convert 3 5 (.int .i64 (i : Int))).run Try.prog W = .ok (.int .u8 (i : Int)) W := fun W => by
            simp [convert, go_sem, hwi]
          replace cV := Lib.hid cV
          clear hS hel hY hTv hv hsi hb7 hbl2 hshg hsha hTg hTl hval
          go_wp2
          go_quiet ((go_at_call 25; exact Calls.quiet_of (cV.out _)))
          go_wp2
          rename_i nq _
          go_roundw
          case rel => exact ⟨i + 1, q + nq, by go_num, by omega, Lib.hid (by rw [hw.out, World.drewN_drewN])⟩
          case measure => simp [intOf]; omega
        · obtain rfl : i = N := by omega
          have di : decide ((i : Int) < (i : Int)) = false := decide_eq_false (by omega)
          have hb8 : Below w.heap.size w wr := by rw [hw.out]; exact chainB hb6.out q
          replace cA := Lib.hid (cA.out wr)
          replace hb8 := Lib.hid hb8
          clear hshg hsha hTg hTl hval cE hsl hw hb6 hbw5
          go_wp2_with fail
          refine (cA.out).mono ?_
          rintro e w8 ⟨rfl, hb10⟩
          have hfin := Lib.hid (chain hb8.out hb10)
          clear cA hb8 hb10
          go_wp2
          go_ret
          exact ⟨rfl, hfin.out⟩
end Go.Proofs.Ytcakdhnlgeiodaa.E15
