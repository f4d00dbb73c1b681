/- The contract of the reference's first of layer 15. -/
import Derived.Test.YtcakdhnlgeiodaaE15Own1
import Derived.Test.YtcakdhnlgeiodaaE15Mk
import Derived.Deep.RegionLaw
import Derived.BigQuiet
import Derived.Deep.QuietTactic
namespace Go.Proofs.Ytcakdhnlgeiodaa.E15
set_option maxRecDepth 100000
open Go.RowKit Mem S14
open Go.Proofs.Ytcakdhnlgeiodaa.G5 Go.Proofs.Ytcakdhnlgeiodaa.G7
open Go.Proofs.Ytcakdhnlgeiodaa.G6 (IsSl rs rs_len rs_get rs_set rs_one rs_snoc make_zeros zeros_at own_zeros info_byte u8s conv_sl)
set_option linter.unusedVariables false
set_option linter.unusedSimpArgs false

theorem one_at (w : World) (x : Value) (t : TypeId) : (w.alloc (.cells #[x] t)).cell? ⟨w.heap.size, 0, none⟩ = some x := by
  have h := one_new w x t 0 x rfl
  rw [add_at] at h
  exact h
theorem one_at2 (w : World) (x : Value) (t : TypeId) (o : Obj) : ((w.alloc (.cells #[x] t)).alloc o).cell? ⟨w.heap.size, 0, none⟩ = some x :=
  (((Below.refl (w.heap.size + 1) (w.alloc (.cells #[x] t))).alloc (by simp) o).cell (p := ⟨w.heap.size, 0, none⟩) (Nat.lt_succ_self _)).trans (one_at w x t)
theorem one_at3 (w : World) (x : Value) (t : TypeId) (o : Obj) : ((w.alloc o).alloc (.cells #[x] t)).cell? ⟨w.heap.size + 1, 0, none⟩ = some x := by
  have := one_at (w.alloc o) x t
  rwa [World.size_alloc] at this
theorem below_drew {B : Nat} {w W : World} (h : Below B w W) : Below B w W.drew := chainB h 1
/-- append of one cell, as a step of a region that draws its order. -/
theorem step_app {w : World} {ops : Array Oper} {o : Oper} {a : Act} {K : Act → World → Prop} {Q : Exit → Act → World → Prop} {E : Prop} (hgd : o.guard = none) (s x : Operand) (t : TypeId)
    (ho : o.op = .call { callee := .builtin .append, args := #[s, x], argTypes := #[t, t] }) (base : Nat) (e : TypeId) (z : Value) (bytes : Nat) (ht : Try.prog.underlying t = some (.slice e)) (hinf : (Try.prog.info? e).map (fun i => (i.zero, i.size, i.bytes)) = some (some z, 1, bytes)) (hzs : z.cells.size = 1) (hbt : bytes ≤ 100)
    (v : Value) (n : Nat) (xs : List Value) (b : Nat) (u : Value)
    (hs : a.eval s = v) (hown : w.ownsRow base e 1 v n xs) (hx : a.eval x = .slice (some ⟨b, 0, none⟩) 1 1) (hc : w.cell? ⟨b, 0, none⟩ = some u) (hu : u.oneCell' = true) (hn : n ≤ 1000000) (hbase : base ≤ w.heap.size)
    (h : ∀ v' w', w'.ownsRow base e 1 v' (n + 1) (xs ++ [u]) → w.grownBy w' v.ownBlock → K (a.put o.dst v') w') :
    if Region.wanted o (yielded ops a.tmps) = true then Oper.wp Try.prog o a w K Q else E := by
  rw [if_pos (by simp [Region.wanted, hgd])]
  obtain ⟨i0, hi0, hz0, hz1, hz2⟩ := info_parts hinf
  refine wp_append_own w s x t ho base e i0 z 1 bytes ht hi0 hz0 hz1 hz2 hzs (by decide) v n xs hs hown ⟨b, 0, none⟩ 1 1 [u] hx rfl ?_ (fun y hy => by rw [List.mem_singleton.1 hy]; exact hu) (by unfold maxLen; omega) (by
    have : (n + 1) * bytes ≤ 1000001 * 100 := Nat.mul_le_mul (by omega) hbt
    omega) hbase fun v' w' h1 h2 _ => h v' w' h1 h2
  intro j y hj
  match j, hj with
  | 0, hj =>
    simp at hj
    subst hj
    rw [add_at]
    exact hc
def FirP (f : List Sh) (w : World) (e : Ending) (w' : World) : Prop := ∃ (A : Option Addr) (c : Nat) (B : Option Addr) (c2 : Nat), e = .returned (.tuple #[.slice A f.length c, .slice B f.length c2]) ∧ IsSl w' A c (f.map Prod.fst) ∧ IsBs w' B f.length c2 (f.map Prod.snd) ∧ Below w.heap.size w w'
theorem own_drewN {w : World} {base e size n : Nat} {v : Value} {xs : List Value} (h : w.ownsRow base e size v n xs) (m : Nat) : (w.drewN m).ownsRow base e size v n xs := h
theorem known_step {l : List R} {j : Nat} (hj : j < l.length) (X : R) : decide (X ∈ l.take (j + 1)) = (decide (X ∈ l.take j) || (l.getD j 0 == X)) := by
  have e : l.getD j 0 = l[j] := by simp [List.getD_eq_getElem?_getD, hj]
  rw [G6.take_snoc l j hj, e, Bool.eq_iff_iff, Bool.or_eq_true, decide_eq_true_iff, decide_eq_true_iff, beq_iff_eq, List.mem_append, List.mem_singleton]
  constructor
  · rintro (h | h)
    · exact Or.inl h
    · exact Or.inr h.symm
  · rintro (h | h)
    · exact Or.inl h
    · exact Or.inr h.symm
set_option maxHeartbeats 8000000 in
theorem first_any {A : Option Addr} {c n D : Nat} {hs : List Sh} {w : World} (h : IsRaw w A n c (raws hs)) (hl : n ≤ 1000) (hD : D ≤ 100) (hix : ∀ s ∈ hs, s.1.toNat ≤ 14) :
    Calls Try.prog 32 #[.slice A n c, .int .i64 (D : Int)] w (FirP (firstF D [] hs) w) := by
  have hgoal : ∀ (v1 v2 : Value) (w' : World) (acc : List Sh), firstF D [] hs = acc → w'.ownsRow w.heap.size 5 1 v1 acc.length (rs (acc.map Prod.fst)) → w'.ownsRow w.heap.size 9 1 v2 acc.length (bs (acc.map Prod.snd)) → Below w.heap.size w w' → FirP (firstF D [] hs) w (.returned (.tuple #[v1, v2])) w' := fun v1 v2 w' acc e h1 h2 h3 => by
    subst e
    obtain ⟨A1, c1, rfl, _, _⟩ := own_slice h1
    obtain ⟨hA, _⟩ := G6.IsSl.of_own h1
    obtain ⟨_, A2, c2, rfl, hB⟩ := IsBs.of_own h2
    exact ⟨A1, c1, A2, c2, rfl, hA, hB, h3⟩
  have hlen : hs.length = n := by rw [← raws_len]; exact h.len
  have hget := fun (k : Nat) (hk : k < hs.length) => h.sh hk
  have hix2 : ∀ k (hk : k < hs.length), hs[k].1.toNat ≤ 14 := fun k hk => hix _ (List.getElem_mem hk)
  have o1 : ((w.alloc (.cells #[] 5)).alloc (.cells #[] 9)).ownsRow w.heap.size 5 1 (.slice (some ⟨w.heap.size, 0, none⟩) 0 0) ([] : List Sh).length (rs (([] : List Sh).map Prod.fst)) := (empty_at rfl (Nat.le_refl _)).alloc _
  have o2 : ((w.alloc (.cells #[] 5)).alloc (.cells #[] 9)).ownsRow w.heap.size 9 1 (.slice (some ⟨w.heap.size + 1, 0, none⟩) 0 0) ([] : List Sh).length (bs (([] : List Sh).map Prod.snd)) := empty_at (by simp) (Nat.le_succ _)
  have o3 : Below w.heap.size w ((w.alloc (.cells #[] 5)).alloc (.cells #[] 9)) := ((Below.refl _ _).alloc (Nat.le_refl _) _).alloc (by simp) _
  obtain ⟨P, hP⟩ : ∃ P, FirP (firstF D [] hs) w = P := ⟨_, rfl⟩
  rw [hP] at hgoal ⊢
  replace hgoal := Lib.hid hgoal
  replace hlen := Lib.hid hlen
  replace hget := Lib.hid hget
  replace hix2 := Lib.hid hix2
  replace o1 := Lib.hid o1
  replace o2 := Lib.hid o2
  replace o3 := Lib.hid o3
  clear hP h hix
  show Calls _ _ _ _ (fun e w' => P e w')
  go_enter Try.func32, Try.ntmps32
  go_wp2
  go_loopw [6, 7, 8] (fun vv uu iv wr => ∃ (k : Nat) (acc : List Sh) (v1 v2 : Value), v1 = vv ∧ v2 = uu ∧ iv = .int .i64 (k : Int) ∧ k ≤ n ∧ Hid (firstF D acc (hs.drop k) = firstF D [] hs) ∧ acc.length ≤ D ∧ Hid (wr.ownsRow w.heap.size 5 1 v1 acc.length (rs (acc.map Prod.fst))) ∧ Hid (wr.ownsRow w.heap.size 9 1 v2 acc.length (bs (acc.map Prod.snd))) ∧ Hid (Below w.heap.size w wr)) (fun _ _ iv _ => n - (intOf iv).toNat)
  case atStart => exact ⟨0, [], _, _, rfl, rfl, rfl, Nat.zero_le _, Lib.hid rfl, Nat.zero_le _, o1, o2, o3⟩
  case round =>
    clear o1 o2 o3
    obtain ⟨k, acc, v1, v2, rfl, rfl, rfl, hk, hF, hal, hr1, hr2, hb⟩ := hrel
    by_cases hlt : k < n
    · have dk : decide ((k : Int) < (n : Int)) = true := decide_eq_true (by omega)
      have k0 : (0 : Int) ≤ (k : Int) := by omega
      have k1 : (k : Int) < (n : Int) := by omega
      obtain ⟨A1, c1, rfl, hc1, _⟩ := own_slice hr1.out
      by_cases hfull : acc.length < D
      · have df : decide ((acc.length : Int) < (D : Int)) = true := decide_eq_true (by omega)
        have hkl : k < hs.length := by have := hlen.out; omega
        obtain ⟨b, o, rfl, hbl, g0, g1⟩ := hget.out k hkl
        rw [getD_map' _ _ _ hkl] at g0 g1
        have hX14 := hix2.out k hkl
        have hdrop : hs.drop k = hs[k] :: hs.drop (k + 1) := List.drop_eq_getElem_cons hkl
        have hF := hF.out
        rw [hdrop] at hF
        obtain ⟨sh, hsh⟩ : ∃ sh, hs[k] = sh := ⟨_, rfl⟩
        rw [hsh] at hF g0 g1 hX14
        obtain ⟨X, bl⟩ := sh
        dsimp only at g0 g1 hX14
        obtain ⟨S, hS⟩ : ∃ S, str bl = S := ⟨_, rfl⟩
        rw [hS] at g1
        have c0 : ∀ W, Below w.heap.size w W → W.cell? ⟨b, o + k * 2, none⟩ = some (.int .i64 (X.toNat : Int)) := fun W h => (h.cell (p := ⟨b, o + k * 2, none⟩) hbl).trans g0
        have c1' : ∀ W, Below w.heap.size w W → W.cell? ⟨b, o + k * 2 + 1, none⟩ = some (.string S) := fun W h => (h.cell (p := ⟨b, o + k * 2 + 1, none⟩) hbl).trans g1
        have hXi0 : (0 : Int) ≤ (X.toNat : Int) := by omega
        have hXi1 : (X.toNat : Int) < 15 := by omega
        have N100 : acc.length ≤ 100 := by omega
        obtain ⟨N, hN⟩ : ∃ N, acc.length = N := ⟨_, rfl⟩
        have hlm : (acc.map Prod.fst).length = N := by rw [List.length_map, hN]
        have hsl := (G6.IsSl.of_own hr1.out).1
        replace hF := Lib.hid hF
        replace c0 := Lib.hid c0
        replace c1' := Lib.hid c1'
        replace hsl := Lib.hid hsl
        rw [hN] at hr1 hr2 hal hfull N100 hc1 df
        have hNh := Lib.hid hN
        have hlmh := Lib.hid hlm
        have hSh := Lib.hid hS
        clear hN hlm hS hsh hdrop g0 g1 hget hix2 hbl
        rw [hNh.out]
        obtain ⟨w0, rfl⟩ : ∃ W, W = wr := ⟨_, rfl⟩
        go_wp2
        go_loopw [9, 10] (fun qv jv wi => ∃ (j q : Nat), jv = .int .i64 (j : Int) ∧ j ≤ N ∧ qv = .bool (decide (X ∈ (acc.map Prod.fst).take j)) ∧ Hid (wi = w0.drewN q)) (fun _ jv _ => N - (intOf jv).toNat)
        case atStart => exact ⟨0, 0, rfl, Nat.zero_le _, by simp, Lib.hid rfl⟩
        case round =>
          obtain ⟨j, q, rfl, hj, rfl, hw⟩ := hrel
          have hbr : Below w.heap.size w wr := by rw [hw.out]; exact chainB hb.out q
          have g0 := c0.out wr hbr
          have g1 := c1'.out wr hbr
          by_cases hjt : j < N
          · have dj : decide ((j : Int) < (N : Int)) = true := decide_eq_true (by omega)
            have j0 : (0 : Int) ≤ (j : Int) := by omega
            have j1 : (j : Int) < (N : Int) := by omega
            obtain ⟨b2, o2, rfl, _, gx⟩ := hsl.out.read j (by rw [hlmh.out]; exact hjt)
            have gx2 : wr.cell? ⟨b2, o2 + j, none⟩ = some (bv ((acc.map Prod.fst).getD j 0)) := by rw [hw.out]; exact gx
            have hks := known_step (l := acc.map Prod.fst) (j := j) (by rw [hlmh.out]; exact hjt) X
            obtain ⟨Y, hY⟩ : ∃ Y, (acc.map Prod.fst).getD j 0 = Y := ⟨_, rfl⟩
            rw [hY] at gx2 hks
            have hq : ((Y.toNat : Int) == (X.toNat : Int)) = (Y == X) := bv_eq1 Y X
            have hYl := Y.isLt
            have hY255 : (Y.toNat : Int) ≤ 255 := by omega
            obtain ⟨q2, hq2⟩ : ∃ q2, (Y == X) = q2 := ⟨_, rfl⟩
            rw [hq2] at hq hks
            rcases hkn : decide (X ∈ (acc.map Prod.fst).take j) with _ | _
            · rw [hkn, Bool.false_or] at hks
              replace hks := Lib.hid hks
              clear hkn hY hq2 gx hbr hsl c0 c1' hF hr1 hr2 hb
              go_wp2
              go_quiet (fail)
              go_wp2
              rename_i nq _
              go_roundw
              case rel => exact ⟨j + 1, q + nq, by go_num, by omega, by rw [hks.out], Lib.hid (by rw [hw.out, World.drewN_drewN])⟩
              case measure => simp [intOf]; omega
            · rw [hkn, Bool.true_or] at hks
              replace hks := Lib.hid hks
              clear hkn hY hq2 gx hbr hsl c0 c1' hF hr1 hr2 hb
              go_wp2
              go_quiet (fail)
              go_wp2
              rename_i nq _
              go_roundw
              case rel => exact ⟨j + 1, q + nq, by go_num, by omega, by rw [hks.out], Lib.hid (by rw [hw.out, World.drewN_drewN])⟩
              case measure => simp [intOf]; omega
          · obtain rfl : j = N := by omega
            have dj : decide ((j : Int) < (j : Int)) = false := decide_eq_false (by omega)
            have hall : (acc.map Prod.fst).take j = acc.map Prod.fst := List.take_of_length_le (by rw [hlmh.out]; exact Nat.le_refl _)
            rw [hall]
            have hb2 := Lib.hid hbr
            have hr1' : Hid (wr.ownsRow w.heap.size 5 1 (.slice A1 j c1) j (rs (acc.map Prod.fst))) := Lib.hid (by rw [hw.out]; exact own_drewN hr1.out q)
            have hr2' : Hid (wr.ownsRow w.heap.size 9 1 v2 j (bs (acc.map Prod.snd))) := Lib.hid (by rw [hw.out]; exact own_drewN hr2.out q)
            clear hall hw hbr hr1 hr2 hb hsl
            rcases hkn : decide (X ∈ acc.map Prod.fst) with _ | _
            · have hm : X ∉ acc.map Prod.fst := of_decide_eq_false hkn
              have r0 : Hid (firstF D (acc ++ [(X, bl)]) (hs.drop (k + 1)) = firstF D [] hs) := Lib.hid (by rw [← hF.out, first_new (by rw [hNh.out]; exact hfull) hm])
              have r1 : Hid (rs ((acc ++ [(X, bl)]).map Prod.fst) = rs (acc.map Prod.fst) ++ [.int .u8 (X.toNat : Int)]) := Lib.hid (by rw [List.map_append]; exact rs_snoc _ _)
              have r2 : Hid (bs ((acc ++ [(X, bl)]).map Prod.snd) = bs (acc.map Prod.snd) ++ [.string S]) := Lib.hid (by rw [List.map_append, ← hSh.out]; exact bs_snoc _ _)
              have r3 : Hid ((acc ++ [(X, bl)]).length = j + 1) := Lib.hid (by rw [List.length_append, hNh.out]; rfl)
              have hap := own_apart hr2'.out hr1'.out (by decide)
              have hr1o := hr1'.out
              have hr2o := hr2'.out
              have hlt1 : ∀ g, (Value.slice A1 j c1).ownBlock = some g → g < wr.heap.size := fun g e => (hr1o.lt g e).2
              have hne1 : some wr.heap.size ≠ (Value.slice A1 j c1).ownBlock := fun e => by have := hlt1 _ e.symm; omega
              have hne2 : some (wr.heap.size + 1) ≠ (Value.slice A1 j c1).ownBlock := fun e => by have := hlt1 _ e.symm; omega
              have hbo := hb2.out
              have hbs := hbo.size
              have ga : (wr.alloc (.cells #[.int .u8 (X.toNat : Int)] 5)).cell? ⟨b, o + k * 2 + 1, none⟩ = some (.string S) := c1'.out _ (hbo.alloc hbs _)
              have gb : (wr.alloc (.cells #[.string S] 9)).cell? ⟨b, o + k * 2, none⟩ = some (.int .i64 (X.toNat : Int)) := c0.out _ (hbo.alloc hbs _)
              have hb1a : ∀ o, Below w.heap.size w (wr.alloc o) := fun o => hbo.alloc hbs _
              have hb2a : ∀ o o', Below w.heap.size w ((wr.alloc o).alloc o') := fun o o' => (hb1a o).alloc (hb1a o).size _
              have X255 : (X.toNat : Int) ≤ 255 := by omega
              have hwX : IntKind.u8.wrap (X.toNat : Int) = (X.toNat : Int) := by rw [IntKind.wrap_u8]; omega
              replace hap := Lib.hid hap
              replace hlt1 := Lib.hid hlt1
              replace hne1 := Lib.hid hne1
              replace hne2 := Lib.hid hne2
              replace hb1a := Lib.hid hb1a
              replace hb2a := Lib.hid hb2a
              clear hm hF hbo hr1' hr2'
              go_wp2_with fail
              go_region_law ((first
                | ((refine step_app (by rfl) _ _ 43 (by rfl) w.heap.size 5 (.int .u8 0) 1 Try.underlying43 info_byte rfl (by decide) (.slice A1 j c1) j (rs (acc.map Prod.fst)) _ (.int .u8 (X.toNat : Int)) (by rfl) (show World.ownsRow _ _ _ _ _ _ _ from by first | exact hr1o.alloc _ | exact (hr1o.alloc _).alloc _) (by rfl) (by first | exact one_at wr _ _ | exact one_at2 wr _ _ _ | exact one_at3 wr _ _ _) rfl (by omega) (by simp; omega) ?_); intro v5 w5 hown5 hgr5; have hrk5 : w5.ownsRow w.heap.size 9 1 v2 j (bs (acc.map Prod.snd)) := (by refine World.ownsRow.kept ?_ hgr5 hap.out; first | exact hr2o.alloc _ | exact (hr2o.alloc _).alloc _); have hbl5 : Below w.heap.size w w5 := (by refine Below.grown ?_ hgr5 (by simp; omega) (fun g e => (hr1o.lt g e).1); repeat (refine below_drew ?_); first | exact hb1a.out _ | exact hb2a.out _ _); have g15 := c1'.out w5 hbl5; have hbs5 := hbl5.size)
                | ((refine step_app (by rfl) _ _ 22 (by rfl) w.heap.size 9 (.string ⟨#[]⟩) 16 Try.underlying22 info_str rfl (by decide) v2 j (bs (acc.map Prod.snd)) _ (.string S) (by rfl) (show World.ownsRow _ _ _ _ _ _ _ from by first | exact hrk5.alloc _ | exact hrk5) (by rfl) (by first | exact one_at w5 _ _ | exact hgr5.cell (one_at2 wr _ _ _) hne1.out | exact hgr5.cell (one_at3 wr _ _ _) hne2.out) rfl (by omega) (by first | assumption | (simp; omega)) ?_); intro v6 w6 hown6 hgr6)))
              all_goals
                have hp6 : w6.ownsRow w.heap.size 5 1 v5 (j + 1) (rs (acc.map Prod.fst) ++ [.int .u8 (X.toNat : Int)]) := by
                  refine World.ownsRow.kept ?_ hgr6 (own_apart hown5 hrk5 (by decide))
                  first | exact hown5 | exact hown5.alloc _
                have hbl6 : Below w.heap.size w w6 := by
                  refine Below.grown ?_ hgr6 (by first | assumption | (simp; omega)) (fun g e => (hrk5.lt g e).1)
                  first | exact hbl5 | exact hbl5.alloc hbs5 _
                rw [← r1.out] at hp6
                rw [← r2.out] at hown6
                clear hgr5 hgr6 hown5 hrk5 hbl5 g15 hbs5 hr1o hr2o hap hlt1 hne1 hne2 ga gb hb1a hb2a g0 g1 c0 c1'
                go_wp2
                go_roundw
                case rel => exact ⟨k + 1, acc ++ [(X, bl)], _, _, rfl, rfl, by go_num, by omega, r0, by rw [r3.out]; omega, Lib.hid (by rw [r3.out]; exact hp6), Lib.hid (by rw [r3.out]; exact hown6), Lib.hid hbl6⟩
                case measure => simp [intOf]; omega
            · have hm : X ∈ acc.map Prod.fst := of_decide_eq_true hkn
              have r0 : Hid (firstF D acc (hs.drop (k + 1)) = firstF D [] hs) := Lib.hid (by rw [← hF.out, first_old (by rw [hNh.out]; exact hfull) hm])
              clear hkn hm hF c0 c1'
              go_wp2
              go_roundw
              case rel => exact ⟨k + 1, acc, _, _, rfl, rfl, by go_num, by omega, r0, by rw [hNh.out]; exact hal, by rw [hNh.out]; exact hr1', by rw [hNh.out]; exact hr2', hb2⟩
              case measure => simp [intOf]; omega
      · have df : decide ((acc.length : Int) < (D : Int)) = false := decide_eq_false (by omega)
        have hfin := Lib.hid (hgoal.out _ _ wr acc (by
          have := hF.out
          rw [first_full D acc _ (by omega)] at this
          exact this.symm) hr1.out hr2.out hb.out)
        clear hgoal hF hr1 hr2 hb hget hix2
        go_wp2
        first | go_ret2 | skip
        exact hfin.out
    · obtain rfl : k = n := by omega
      have dk : decide ((k : Int) < (k : Int)) = false := decide_eq_false (by omega)
      have hfin := Lib.hid (hgoal.out _ _ wr acc (by
        have := hF.out
        rw [List.drop_of_length_le (by have := hlen.out; omega)] at this
        exact this.symm) hr1.out hr2.out hb.out)
      clear hgoal hF hr1 hr2 hb hget hix2
      go_wp2
      first | go_ret2 | skip
      exact hfin.out
end Go.Proofs.Ytcakdhnlgeiodaa.E15
