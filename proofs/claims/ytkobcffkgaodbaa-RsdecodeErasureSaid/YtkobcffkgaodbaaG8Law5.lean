/- The walk of the law RsdecodeErasure, under the package's contracts. -/
import Derived.Test.YtkobcffkgaodbaaG8Law3
import Derived.Test.YtkobcffkgaodbaaG8Ref2
import Derived.Test.YtkobcffkgaodbaaG8App
import Derived.Deep.RegionHeld3
namespace Go.Proofs.Ytkobcffkgaodbaa.G8
open Go.Proofs.Ytkobcffkgaodbaa.G5
open Go.Proofs.Ytkobcffkgaodbaa.G7
open Go.Proofs.Ytkobcffkgaodbaa.G6 (mb)
open Go.RowKit Mem
set_option linter.unusedVariables false
set_option linter.unusedSimpArgs false

/-- The erasures from both ends so far. -/
def bk (zs : List Int) (i : Nat) : List Int := (List.range i).flatMap fun j => [zs.getD (zs.length - 1 - j) 0, zs.getD j 0]
theorem bk_succ (zs : List Int) (i : Nat) : bk zs (i + 1) = bk zs i ++ [zs.getD (zs.length - 1 - i) 0, zs.getD i 0] := by
  unfold bk
  rw [List.range_succ, List.flatMap_append]
  simp
theorem bk_len (zs : List Int) (i : Nat) : (bk zs i).length = 2 * i := by
  induction i with
  | zero => rfl
  | succ i ih =>
    rw [bk_succ, List.length_append, ih]
    simp
    omega
theorem getD_mem (zs : List Int) (j : Nat) (h : j < zs.length) : zs.getD j 0 ∈ zs := by
  rw [List.getD_eq_getElem?_getD, List.getElem?_eq_getElem h]
  exact List.getElem_mem _
theorem bk_sub (zs : List Int) : ∀ i, i ≤ zs.length → ∀ z ∈ bk zs i, z ∈ zs := by
  intro i
  induction i with
  | zero => intro _ z hz; simp [bk] at hz
  | succ i ih =>
    intro h z hz
    rw [bk_succ] at hz
    rcases List.mem_append.1 hz with h1 | h1
    · exact ih (by omega) z h1
    · simp only [List.mem_cons, List.not_mem_nil, or_false] at h1
      rcases h1 with h1 | h1
      · rw [h1]
        exact getD_mem _ _ (by omega)
      · rw [h1]
        exact getD_mem _ _ (by omega)
theorem bk_mem (zs : List Int) : ∀ z, z ∈ bk zs zs.length ↔ z ∈ zs := fun z => by
  refine ⟨bk_sub zs _ (Nat.le_refl _) z, fun hz => ?_⟩
  obtain ⟨j, hj, rfl⟩ := List.getElem_of_mem hz
  unfold bk
  rw [List.mem_flatMap]
  refine ⟨j, List.mem_range.2 hj, ?_⟩
  simp [List.getD_eq_getElem?_getD, List.getElem?_eq_getElem hj]
theorem locL_mem {a b : List R} {j : Nat} (h : j < (locL a b).length) : ∃ x : Nat, (locL a b).getD j 0 = (x : Int) ∧ x < a.length ∧ differ a b x = true := by
  have hm := getD_mem (locL a b) j h
  unfold locL at hm
  obtain ⟨x, hx, e⟩ := List.mem_map.1 hm
  have := List.mem_filter.1 hx
  exact ⟨x, e.symm, List.mem_range.1 this.1, this.2⟩
theorem bad_more {N : Nat} {p : Int} {zs ys : List Int} (h : ¬ Bad N p zs) (hy : ∀ y ∈ ys, y ∈ zs ∨ (0 ≤ y ∧ y < (N : Int))) : ¬ Bad N p ys := by
  rintro (h1 | h1 | h1 | h1 | ⟨y, hm, hb⟩)
  · exact h (.inl h1)
  · exact h (.inr (.inl h1))
  · exact h (.inr (.inr (.inl h1)))
  · exact h (.inr (.inr (.inr (.inl h1))))
  · rcases hy y hm with h2 | h2
    · exact h (.inr (.inr (.inr (.inr ⟨y, h2, hb⟩))))
    · omega
theorem DecQ.at {u c : List R} {p : Int} {zs : List Int} {S : ByteArray} {n k : Int} (h : DecQ u p zs S n k) (hb : ¬ Bad u.length p zs) (hc : Within p.toNat u (Lof zs) c) : S = str c ∧ n = (dif u c : Int) ∧ k = 0 := (h.2 hb).1 c hc

set_option maxRecDepth 100000 in
set_option maxHeartbeats 8000000 in
theorem walk_erasure (D : Dev) (s : ByteArray) (p : Int) (a2 : Option Addr) (n2 c2 : Nat) (z2 : List Int) (i3 : Int) (w : World) (hs : s.size ≤ 140737488351232) (hp : (Lit.int .i64 p).wf = true) (hz : IsRow .i64 w a2 n2 c2 z2) (h3 : (Lit.int .u8 i3).wf = true) :
    Calls Try.prog 7 #[.string s, .int .i64 p, .slice a2 n2 c2, .int .u8 i3] w fun e w' => e = .returned (.bool true) ∧ Below w.heap.size w w' := by
  obtain ⟨zs, hzl, hzi⟩ := IsInts.of_row hz
  obtain ⟨p1, p2⟩ := i64_fit hp
  obtain ⟨q, hq255, rfl⟩ := u8_nat h3
  have cA := Lib.hid (alive_any D w)
  have cS := Lib.hid (fun W => small_any s p a2 n2 c2 W)
  have hzi := Lib.hid hzi
  have hzl := Lib.hid hzl
  obtain ⟨j0, hj, hy0, hy1, hy2⟩ := info_parts info_int
  clear hz hp h3
  go_enter Try.func7, Try.ntmps7
  go_wp2_with fail
  refine cA.out.mono ?_
  rintro e w1 ⟨rfl, hB⟩
  have hzi := Lib.hid (hzi.out.below hB)
  go_wp2_with fail
  refine (cS.out _).mono ?_
  rintro e w2 ⟨rfl, rfl⟩
  rcases hsm : smB s.size p n2 with _ | _
  · go_wp2
    go_ret
    exact ⟨rfl, hB⟩
  obtain ⟨q1, q2, q3⟩ : s.size ≤ 60 ∧ p ≤ 16 ∧ n2 ≤ 40 := by
    unfold smB at hsm
    exact of_decide_eq_true hsm
  have cD := Lib.hid (D.decode hzi.out hzl.out q1 p1 q2)
  go_wp2_with fail
  refine cD.out.mono ?_
  rintro e w3 ⟨S, n, k, hq, rfl, hb⟩
  have hzi := Lib.hid (hzi.out.below hb)
  replace hB := chain hB hb
  clear hb cD cA cS hsm
  rcases hq.cases with ⟨hk, rfl, rfl, hk2⟩ | ⟨rfl, hbad, c, hc, rfl, rfl⟩
  · clear hq
    have d1 : (k == 0) = false := by simpa using hk
    have d2 : (k != 0) = true := by simpa using hk
    rcases hk2 with rfl | rfl
    · go_wp2
      go_ret
      exact ⟨rfl, hB⟩
    · go_wp2
      go_ret
      exact ⟨rfl, hB⟩
  · have hlen : (str c).size = s.size := by rw [size_str, hc.len, el_len]
    have hel : el (str c) = c := el_str c
    obtain ⟨C, hC⟩ : ∃ C, str c = C := ⟨_, rfl⟩
    rw [hC] at hlen hel ⊢
    have hCh := Lib.hid hC
    rw [← hel] at hc ⊢
    have hcc : str (el C) = C := str_el C
    have hcc := Lib.hid hcc
    have hc := Lib.hid hc
    have hbad := Lib.hid hbad
    have hlen := Lib.hid hlen
    have hC60 : C.size ≤ 60 := by have := hlen.out; omega
    clear hq hel hC
    obtain ⟨Dn, hDn⟩ : ∃ Dn, dif (el s) (el C) = Dn := ⟨_, rfl⟩
    have hDnh := Lib.hid hDn
    have hDb : Dn ≤ 60 := by rw [← hDn]; unfold dif; have := cnt_le (el s).length (differ (el s) (el C)); rw [el_len] at this; rw [el_len]; omega
    rw [hDn]
    clear hDn
    obtain ⟨W3, rfl⟩ : ∃ W3, W3 = w3 := ⟨_, rfl⟩
    go_wp2
    go_loopw [12, 13] (fun v x wr => ∃ i M : Nat, i ≤ n2 ∧ x = .int .i64 i ∧ M ≤ 80 ∧ Hid (M = 2 * i) ∧ wr.ownsRow W3.heap.size 3 1 v M (is (bk zs i)) ∧ Below W3.heap.size W3 wr) (fun _ x _ => n2 - (intOf x).toNat)
    case atStart => exact ⟨0, 0, Nat.zero_le _, rfl, Nat.zero_le _, Lib.hid rfl, World.ownsRow_nil _ _ _ _, Below.refl _ _⟩
    case round =>
      obtain ⟨i, M, hi, rfl, hM, hMi, hown, hbq⟩ := hrel
      by_cases hlt : i < n2
      · obtain ⟨J, hJ⟩ : ∃ J, J = n2 - 1 - i := ⟨_, rfl⟩
        obtain ⟨nm, hnm⟩ : ∃ nm, n2 = nm + 1 := ⟨n2 - 1, by omega⟩
        obtain ⟨b, o, rfl, hbl, hc1⟩ := hzi.out.read i (by rw [hzl.out]; exact hlt)
        obtain ⟨b', o', hA', _, hc2'⟩ := hzi.out.read J (by rw [hzl.out]; omega)
        injection hA' with hA'
        injection hA' with hA1 hA2
        subst hA1 hA2
        have hst := bk_succ zs i
        rw [hzl.out, ← hJ] at hst
        obtain ⟨x, hx⟩ : ∃ x, zs.getD i 0 = x := ⟨_, rfl⟩
        obtain ⟨y, hy⟩ : ∃ y, zs.getD J 0 = y := ⟨_, rfl⟩
        rw [hx] at hc1 hst
        rw [hy] at hc2' hst
        have hfxx : -9223372036854775808 ≤ x ∧ x ≤ 9223372036854775807 := by rw [← hx]; exact hzi.out.get_fit i (by rw [hzl.out]; exact hlt)
        have hfy : -9223372036854775808 ≤ y ∧ y ≤ 9223372036854775807 := by rw [← hy]; exact hzi.out.get_fit J (by rw [hzl.out]; omega)
        have hst := Lib.hid hst
        have i0 : (0 : Int) ≤ (i : Int) := by omega
        have i1 : (i : Int) < (n2 : Int) := by omega
        have J0 : (0 : Int) ≤ (J : Int) := by omega
        have J1 : (J : Int) < (n2 : Int) := by omega
        have e1 : (n2 : Int) - 1 = (nm : Int) := by omega
        have e2 : (nm : Int) - (i : Int) = (J : Int) := by omega
        have w1' : IntKind.i64.wrap (nm : Int) = (nm : Int) := by rw [IntKind.wrap_i64]; omega
        have w2' : IntKind.i64.wrap (J : Int) = (J : Int) := by rw [IntKind.wrap_i64]; omega
        have d3 : decide (i < n2) = true := decide_eq_true hlt
        have hM78 := Lib.hid (show M + 2 ≤ 80 by have := hMi.out; omega)
        clear hx hy hJ hnm
        have hfx : ∀ z ∈ [y, x], -9223372036854775808 ≤ z ∧ z ≤ 9223372036854775807 := by
          intro z hz
          simp only [List.mem_cons, List.not_mem_nil, or_false] at hz
          rcases hz with rfl | rfl
          · exact hfy
          · exact hfxx
        have hcx : ∀ W, Below W3.heap.size W3 W → W.cell? ⟨b, o + i, none⟩ = some (.int .i64 x) := fun W h => (h.cell (p := ⟨b, o + i, none⟩) hbl).trans hc1
        have hcy : ∀ W, Below W3.heap.size W3 W → W.cell? ⟨b, o + J, none⟩ = some (.int .i64 y) := fun W h => (h.cell (p := ⟨b, o + J, none⟩) hbl).trans hc2'
        have keep1 : ∀ W, Below W3.heap.size W3 W → Below W3.heap.size W3 (World.drew W) := fun W h => chainN h 1
        have keep2 : ∀ W (ob : Obj), Below W3.heap.size W3 W → Below W3.heap.size W3 (World.alloc W ob) := fun W ob h => h.alloc h.size ob
        clear hc1 hc2'
        go_wp2_with fail
        go_region_held3 (fun W => Below W3.heap.size W3 W) (first | exact hbq | exact keep1 _ hbq | exact keep2 _ _ hbq | exact keep1 _ (keep2 _ _ hbq) | exact Below.trans (keep1 _ (keep2 _ _ hbq)) ‹_› | assumption) ((refine step_append_row (by rfl) _ _ (by rfl) W3.heap.size _ M (bk zs i) wr.heap.size 0 2 2 [y, x] (by rfl) (show World.ownsRow _ _ _ _ _ _ _ from hown.alloc _) (by rfl) (IsInts.made wr 3 [y, x] #[.int .i64 y, .int .i64 x] _ 2 rfl rfl rfl (by decide) hfx).drew rfl (by omega) (by decide) (by have := hbq.size; simp; omega) ?_; intro v' w5 hrow5 hbel5))
        rw [← hst.out] at hrow5
        have hb5 := Below.trans (keep1 _ (keep2 _ _ hbq)) hbel5
        clear hcx hcy keep1 keep2 hbel5 hown hbq
        go_wp2
        go_roundw
        case rel => exact ⟨i + 1, M + 2, by omega, by go_num, hM78.out, Lib.hid (by have := hMi.out; omega), hrow5, hb5⟩
        case measure => simp [intOf]; omega
      · have hin : i = zs.length := by rw [hzl.out]; omega
        have hsub := bk_sub zs i (by omega)
        have hbm := bk_mem zs
        rw [← hin] at hbm
        obtain ⟨A', c', rfl, _, _⟩ := own_slice hown
        obtain ⟨hsl, hbl⟩ := IsInts.of_own hown (fun z hz => hzi.out.fit z (hsub z hz))
        have cD2 := Lib.hid (D.decode hsl hbl q1 p1 q2)
        have hfin2 : ∀ S n k', DecQ (el s) p (bk zs i) S n k' → C = S ∧ n = (Dn : Int) ∧ k' = 0 := fun S n k' h => by
          obtain ⟨g1, g2, g3⟩ := h.at (bad_more hbad.out fun y hy => .inl (hsub y hy)) (hc.out.same fun z => (hbm z).symm)
          rw [hDnh.out] at g2
          exact ⟨by rw [g1, hcc.out], g2, g3⟩
        have hfin2 := Lib.hid hfin2
        have d3 : decide (i < n2) = false := decide_eq_false hlt
        have i1 : ¬ (i : Int) < (n2 : Int) := by omega
        have hzi2 := Lib.hid (hzi.out.below hbq)
        replace hB := chain hB hbq
        have cL := Lib.hid (fun W => D.locate s C W (by omega) (by omega))
        clear hown hsl hbl hsub hbm hin hbq hMi hzi
        go_wp2_with fail
        refine cD2.out.mono ?_
        rintro e w4 ⟨S2, m2, k2, hq2, rfl, hb⟩
        obtain ⟨rfl, rfl, rfl⟩ := hfin2.out S2 m2 k2 hq2
        replace hB := chain hB hb
        have hzi3 := Lib.hid (hzi2.out.below hb)
        clear hb hq2 cD2 hfin2 hzi2
        go_wp2_with fail
        refine (cL.out _).mono ?_
        rintro e w5 ⟨LA, ln, lc, L, k5, hLq, hLl, rfl, hLi, hb⟩
        obtain ⟨rfl, rfl⟩ := hLq.2 (by rw [el_len, el_len, hlen.out])
        obtain rfl : ln = Dn := by rw [← hLl, dif_locL, hDnh.out]
        replace hB := chain hB hb
        have hzi4 := Lib.hid (hzi3.out.below hb)
        have hLi := Lib.hid hLi
        have hLl := Lib.hid hLl
        clear hb hLq cL hzi3
        by_cases hD0 : ln = 0
        · have t0 : ((ln : Int) == 0) = true := by rw [hD0]; rfl
          have t0' : (ln == 0) = true := by rw [hD0]; rfl
          go_wp2
          go_ret
          exact ⟨rfl, hB⟩
        · have t0 : ((ln : Int) == 0) = false := by rw [beq_eq_false_iff_ne]; omega
          have t0' : (ln == 0) = false := by rw [beq_eq_false_iff_ne]; omega
          obtain ⟨j, hjq⟩ : ∃ j, q % ln = j := ⟨_, rfl⟩
          have hjl : j < ln := by rw [← hjq]; exact Nat.mod_lt _ (by omega)
          have ej : (q : Int) % (ln : Int) = (j : Int) := by omega
          have ej2 : Int.tmod (q : Int) (ln : Int) = (j : Int) := by rw [Int.tmod_eq_emod_of_nonneg (by omega)]; exact ej
          obtain ⟨xk, hxk, hxl, hxd⟩ := locL_mem (a := el s) (b := el C) (j := j) (by rw [hLl.out]; exact hjl)
          obtain ⟨bL, oL, rfl, hbL, hcL⟩ := hLi.out.read j (by rw [hLl.out]; exact hjl)
          rw [hxk] at hcL
          have hys : ∀ z, z ∈ zs ++ [(xk : Int)] ↔ z ∈ zs ∨ z = (xk : Int) := fun z => by simp
          have hfin3 : ∀ S n k', DecQ (el s) p (zs ++ [(xk : Int)]) S n k' → C = S ∧ n = (ln : Int) ∧ k' = 0 := fun S n k' h => by
            obtain ⟨g1, g2, g3⟩ := h.at (bad_more hbad.out fun y hy => by
              rcases (hys y).1 hy with h1 | h1
              · exact .inl h1
              · exact .inr (by omega)) (hc.out.more hxl hxd hys)
            rw [hDnh.out] at g2
            exact ⟨by rw [g1, hcc.out], g2, g3⟩
          have hfin3 := Lib.hid hfin3
          have hxs : xk < 60 := by rw [el_len] at hxl; omega
          have nz2 : ¬ (ln : Int) = 0 := by omega
          have nz3 : ¬ ln = 0 := hD0
          have j0' : (0 : Int) ≤ (j : Int) := by omega
          have j1 : (j : Int) < (ln : Int) := by omega
          have wj : IntKind.i64.wrap (j : Int) = (j : Int) := by rw [IntKind.wrap_i64]; omega
          have wq : IntKind.i64.wrap (q : Int) = (q : Int) := by rw [IntKind.wrap_i64]; omega
          have hcells : ∀ W, Below w5.heap.size w5 W → W.cell? ⟨bL, oL + j, none⟩ = some (.int .i64 (xk : Int)) := fun W h => (h.cell (p := ⟨bL, oL + j, none⟩) hbL).trans hcL
          have hzs : ∀ W, Below w5.heap.size w5 W → IsInts W a2 c2 zs := fun W h => hzi4.out.below h
          have hfx : ∀ z ∈ [(xk : Int)], -9223372036854775808 ≤ z ∧ z ≤ 9223372036854775807 := fun z hz => by
            have := List.mem_singleton.1 hz
            omega
          have cD3 : ∀ (W : World) (A : Option Addr) (cap : Nat), IsInts W A cap (zs ++ [(xk : Int)]) → Calls Try.prog 11 #[.string s, .int .i64 p, .slice A (n2 + 1) cap] W (Deco (el s) p (zs ++ [(xk : Int)]) W) := fun W A cap h => D.decode h (by rw [List.length_append, hzl.out]; rfl) q1 p1 q2
          have cD3 := Lib.hid cD3
          have hzs := Lib.hid hzs
          have keep0 := Below.refl w5.heap.size w5
          have keep1 : ∀ W, Below w5.heap.size w5 W → Below w5.heap.size w5 (World.drew W) := fun W h => chainN h 1
          have keep2 : ∀ W (ob : Obj), Below w5.heap.size w5 W → Below w5.heap.size w5 (World.alloc W ob) := fun W ob h => h.alloc h.size ob
          clear hjq hxk hxl hxd hcL hys hLi hLl hbad hc hD0
          go_wp2_with fail
          go_region_held3 (fun W => Below w5.heap.size w5 W) (first | assumption | exact keep0 | exact keep1 _ keep0 | exact keep2 _ _ (keep1 _ keep0) | exact keep1 _ (keep2 _ _ keep0) | exact keep2 _ _ (keep2 _ _ (keep1 _ keep0)) | exact keep2 _ _ ‹Below w5.heap.size w5 _› | exact keep1 _ ‹Below w5.heap.size w5 _› | exact chain ‹Below w5.heap.size w5 _› ‹_› | exact Below.trans ‹Below w5.heap.size w5 _› ‹_›)
            (first
              | ((refine step_append_fresh (by rfl) _ _ (by rfl) _ a2 n2 c2 zs (by rfl) (by rfl) (hzs.out _ (by first | assumption | exact keep2 _ _ (keep1 _ keep0) | exact keep1 _ (keep2 _ _ keep0))) hzl.out (by omega) ?_); intro v6 w6 hown6 hbel6)
              | ((refine step_append_one (by rfl) _ _ (by rfl) w5.heap.size v6 n2 zs _ 1 (xk : Int) (by rfl) (by first | exact (hown6.mono (by simp <;> omega)).alloc _ | exact hown6.mono (by simp <;> omega)) (by rfl) (by first | exact IsInts.made _ 3 [(xk : Int)] #[.int .i64 (xk : Int)] _ 1 rfl (by rfl) rfl (by decide) hfx | exact (IsInts.made (w5.alloc (.cells #[] 3)) 3 [(xk : Int)] #[.int .i64 (xk : Int)] (w5.heap.size + 1) 1 rfl (by simp) rfl (by decide) hfx).drew.below hbel6 | exact ((IsInts.made w5 3 [(xk : Int)] #[.int .i64 (xk : Int)] w5.heap.size 1 rfl rfl rfl (by decide) hfx).below (mb _ (.cells #[] 3))).drew.below hbel6) hzl.out (by omega) (by have := hbel6.size; simp at this ⊢; omega) (fun y hy => hzi4.out.fit y hy) ?_); intro A8 cap8 w8 hi8 hbel8)
              | (go_at_call 11; (with_reducible refine (cD3.out _ _ _ hi8).mono ?_); rintro e3 w9 ⟨S3, m3, k3, hq3, rfl, hb3⟩))
          all_goals
            obtain ⟨rfl, rfl, rfl⟩ := hfin3.out S3 m3 k3 hq3
            have hBB : Below w5.heap.size w5 w9 := by assumption
            clear hq3 hcells keep0 keep1 keep2
            go_wp2
            go_ret
            exact ⟨rfl, chain hB hBB⟩
end Go.Proofs.Ytkobcffkgaodbaa.G8
