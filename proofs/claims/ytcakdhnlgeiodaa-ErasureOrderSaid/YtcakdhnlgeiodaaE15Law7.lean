/- The walk of the law ErasureOrder. -/
import Derived.Test.YtcakdhnlgeiodaaE15Awake
import Derived.Test.YtcakdhnlgeiodaaE15Own9
import Derived.Test.YtcakdhnlgeiodaaE15Some
import Derived.Test.YtcakdhnlgeiodaaE15Sel
import Derived.Deep.RegionLaw
namespace Go.Proofs.Ytcakdhnlgeiodaa.E15
set_option maxRecDepth 100000
open Go.RowKit Mem S14
open Go.Proofs.Ytcakdhnlgeiodaa.G5 Go.Proofs.Ytcakdhnlgeiodaa.G7
open Go.Proofs.Ytcakdhnlgeiodaa.G6 (IsSl rs rs_len rs_get rs_set rs_one rs_snoc make_zeros zeros_at own_zeros info_byte u8s conv_sl)
set_option linter.unusedVariables false
set_option linter.unusedSimpArgs false

theorem cells_four (w : World) (t : TypeId) (u0 u1 u2 u3 : Value) : ∀ j u, ([u0, u1, u2, u3] : List Value)[j]? = some u → (w.alloc (.cells #[u0, u1, u2, u3] t)).cell? ((⟨w.heap.size, 0, none⟩ : Addr).add j) = some u := list_new w [u0, u1, u2, u3] t
theorem below_drewO {B : Nat} {w W : World} (h : Below B w W) : Below B w W.drew := chainB h 1
/-- append of two shares, as a step of a region that draws its order. -/
theorem step_app2 {w : World} {ops : Array Oper} {o : Oper} {a : Act} {K : Act → World → Prop} {Q : Exit → Act → World → Prop} {E : Prop} (hgd : o.guard = none) (s x : Operand)
    (ho : o.op = .call { callee := .builtin .append, args := #[s, x], argTypes := #[30, 30] }) (base : Nat)
    (v : Value) (n : Nat) (xs : List Value) (b : Nat) (z0 z1 : Int) (s0 s1 : ByteArray)
    (hs : a.eval s = v) (hown : w.ownsRow base 32 2 v n xs) (hx : a.eval x = .slice (some ⟨b, 0, none⟩) 2 2) (hc : ∀ j u, ([.int .i64 z0, .string s0, .int .i64 z1, .string s1] : List Value)[j]? = some u → w.cell? ((⟨b, 0, none⟩ : Addr).add j) = some u) (hn : n ≤ 1000000) (hbase : base ≤ w.heap.size)
    (h : ∀ v' w', w'.ownsRow base 32 2 v' (n + 2) (xs ++ [.int .i64 z0, .string s0, .int .i64 z1, .string s1]) → w.grownBy w' v.ownBlock → K (a.put o.dst v') w') :
    if Region.wanted o (yielded ops a.tmps) = true then Oper.wp Try.prog o a w K Q else E := by
  rw [if_pos (by simp [Region.wanted, hgd])]
  obtain ⟨i0, hi0, hz0, hz1, hz2⟩ := info_parts info_share
  refine wp_append_own w s x 30 ho base 32 i0 _ 2 24 Try.underlying30 hi0 hz0 hz1 hz2 rfl (by decide) v n xs hs hown ⟨b, 0, none⟩ 2 2 [.int .i64 z0, .string s0, .int .i64 z1, .string s1] hx rfl hc (fun u hu => ?_) (by unfold maxLen; omega) (by omega) hbase fun v' w' h1 h2 _ => h v' w' h1 h2
  rcases List.mem_cons.1 hu with rfl | hu
  · rfl
  rcases List.mem_cons.1 hu with rfl | hu
  · rfl
  rcases List.mem_cons.1 hu with rfl | hu
  · rfl
  rw [List.mem_singleton.1 hu]
  rfl
/-- The shares laid so far: all of them are there, the last k from the end on among them. -/
structure Mor (ms : List Sh) (k : Nat) (mo : List Sh) : Prop where
  len : mo.length = 2 * k
  sub : ∀ s ∈ mo, s ∈ ms
  all : ∀ j (hj : j < ms.length), ms.length - 1 - j < k → ms[j] ∈ mo
theorem Mor.step {ms mo : List Sh} {k p q : Nat} (h : Mor ms k mo) (hk : k < ms.length) (hp : p < ms.length) (hq : ms.length - 1 - k = q) (hq' : q < ms.length) : Mor ms (k + 1) (mo ++ [ms[p], ms[q]]) := by
  refine ⟨by rw [List.length_append, h.len]; simp; omega, fun s hs => ?_, fun j hj h1 => ?_⟩
  · rcases List.mem_append.1 hs with hs | hs
    · exact h.sub s hs
    · rcases List.mem_cons.1 hs with rfl | hs
      · exact List.getElem_mem hp
      · rw [List.mem_singleton.1 hs]; exact List.getElem_mem hq'
  · by_cases e : ms.length - 1 - j < k
    · exact List.mem_append.2 (Or.inl (h.all j hj e))
    · have : j = q := by omega
      subst this
      exact List.mem_append.2 (Or.inr (by simp))
theorem Mor.done {ms mo : List Sh} (h : Mor ms ms.length mo) : ∀ s ∈ ms, s ∈ mo := fun s hs => by
  obtain ⟨j, hj, rfl⟩ := List.getElem_of_mem hs
  exact h.all j hj (by omega)
theorem Sel.more {E : List (List R)} {m M : Nat} {ms mo : List Sh} (h : Sel E m M ms) (h1 : ∀ s ∈ mo, s ∈ ms) (h2 : ∀ s ∈ ms, s ∈ mo) : (ms.length < E.length → errR (raws mo) (E.length : Int) = 19) ∧ (E.length ≤ ms.length → errR (raws mo) (E.length : Int) = 0 ∧ ∀ x, stO (fst_ (raws mo) E.length) x = stD E m x) := by
  obtain ⟨g1, g2⟩ := rst_on (stD_stripe E m) h.ev.lo (by have := h.ev.hi; omega) (onT_sub h.on h1) (fun s hs => h.ix s (h1 s hs))
  have hf := first_same (d := E.length) h.nodup h1 h2
  have hle := (first_ok E.length mo).le
  refine ⟨fun hl => g1 (by
    by_cases e : (firstF E.length [] mo).length = E.length
    · have := hf.1 e; omega
    · omega), fun hl => g2 (hf.2 hl)⟩
theorem Sel.smallm {E : List (List R)} {m M : Nat} {ms mo : List Sh} (h : Sel E m M ms) (h1 : ∀ s ∈ mo, s ∈ ms) : ∀ r ∈ raws mo, r.2.length ≤ 1000000 := fun r hr => by
  obtain ⟨s, hs', rfl⟩ := List.mem_map.1 hr
  show s.2.length ≤ _
  rw [h.on s (h1 s hs'), (stD_stripe E m).len]
  have := h.ev.m40
  omega
theorem raws_two (l : List Sh) (s t : Sh) : rw_ (raws (l ++ [s, t])) = rw_ (raws l) ++ [.int .i64 (s.1.toNat : Int), .string (str s.2), .int .i64 (t.1.toNat : Int), .string (str t.2)] := by
  unfold raws rw_
  rw [List.map_append, List.flatMap_append]
  simp [encR]
set_option maxHeartbeats 16000000 in
theorem walk_order (A : Option Addr) (n c : Nat) (ls : List (List UInt8)) (k s y : Nat) (w : World) (h0 : IsStrs w A n c ls) (hk : k ≤ 255) (hs : s ≤ 65535) (hy : y ≤ 255) :
    Calls Try.prog 9 #[.slice A n c, .int .u8 (k : Int), .int .u16 (s : Int), .int .u8 (y : Int)] w fun e w' => e = .returned (.bool true) ∧ Below w.heap.size w w' := by
  obtain ⟨L, _, h⟩ := IsBs.of_strs h0
  have cS := stripe_any k hk h
  have cA := fun W => awake_any W
  replace cS := Lib.hid cS
  replace cA := Lib.hid cA
  clear h h0
  go_enter Try.func9, Try.ntmps9
  go_wp2_with fail
  refine (cS.out).mono ?_
  rintro e w1 ⟨E, m, M, A1, c1, v, hE, hM, rfl, hB1, hr1, hb1⟩
  obtain ⟨hl1, A2, c2, rfl, hR1⟩ := IsRaw.of_own hr1
  have hE8 := hE.hi
  have hE1 := hE.lo
  have cM := some_any s hs hR1 (by omega)
  obtain ⟨n1, hn1⟩ : ∃ n1, E.length = n1 := ⟨_, rfl⟩
  have hsel := fun ms (hm : ms.Sublist (shA (stD E m) (E.length + M))) => (⟨hE, hM, hm⟩ : Sel E m M ms)
  rw [hn1] at cM hE8 hE1 hsel ⊢
  have hn1 := Lib.hid hn1
  replace cM := Lib.hid cM
  replace hsel := Lib.hid hsel
  replace hb1 := Lib.hid hb1
  clear hr1 hR1 hE hl1 cS hB1
  go_wp2_with fail
  refine (cM.out).mono ?_
  rintro e w2 ⟨ms, v, hsub, rfl, hr2, hb2⟩
  obtain ⟨hl2, A3, c3, rfl, hR2⟩ := IsRaw.of_own hr2
  have hS := hsel.out ms hsub
  have hml := hS.len
  have hb3 := Lib.hid (chain hb1.out hb2)
  obtain ⟨N2, hN2⟩ : ∃ N2, ms.length = N2 := ⟨_, rfl⟩
  have hget := fun (j : Nat) (hj : j < ms.length) => hR2.sh hj
  rw [hN2] at hml hR2 ⊢
  have o1 : (w2.alloc (.cells #[] 32)).ownsRow w2.heap.size 32 2 (.slice (some ⟨w2.heap.size, 0, none⟩) 0 0) (2 * 0) (rw_ (raws [])) := empty_at rfl (Nat.le_refl _)
  have o2 : Mor ms 0 [] := ⟨rfl, fun s h => (by cases h), fun j hj h => by omega⟩
  have o3 : Below w2.heap.size w2 (w2.alloc (.cells #[] 32)) := (Below.refl _ _).alloc (Nat.le_refl _) _
  have y0 : (0 : Int) ≤ (y : Int) := by omega
  have y255 : (y : Int) ≤ 255 := by omega
  have N15 : (N2 : Int) ≤ 15 := by omega
  replace hget := Lib.hid hget
  replace hN2 := Lib.hid hN2
  replace hR2 := Lib.hid hR2
  replace hS := Lib.hid hS
  replace o1 := Lib.hid o1
  replace o2 := Lib.hid o2
  replace o3 := Lib.hid o3
  clear hr2 hsub hl2 hb1 hb2 hsel cM
  go_wp2
  go_loopw [13, 32] (fun vv iv wr => ∃ (j : Nat) (mo : List Sh) (v : Value), v = vv ∧ iv = .int .i64 (j : Int) ∧ j ≤ N2 ∧ Hid (Mor ms j mo) ∧ Hid (wr.ownsRow w2.heap.size 32 2 v (2 * j) (rw_ (raws mo))) ∧ Hid (Below w2.heap.size w2 wr)) (fun _ iv _ => N2 - (intOf iv).toNat)
  case atStart => exact ⟨0, [], _, rfl, rfl, Nat.zero_le _, o2, o1, o3⟩
  case round =>
    clear o1 o2 o3
    obtain ⟨j, mo, v, rfl, rfl, hj, hmo, hrow, hb⟩ := hrel
    by_cases hjt : j < N2
    · have dj : decide ((j : Int) < (N2 : Int)) = true := decide_eq_true (by omega)
      have j0 : (0 : Int) ≤ (j : Int) := by omega
      have j1 : (j : Int) < (N2 : Int) := by omega
      obtain ⟨P, hP⟩ : ∃ P, (j + y) % N2 = P := ⟨_, rfl⟩
      have hPN : P < N2 := by rw [← hP]; exact Nat.mod_lt _ (by omega)
      obtain ⟨Q, hQ⟩ : ∃ Q, N2 - 1 - j = Q := ⟨_, rfl⟩
      have hQN : Q < N2 := by omega
      obtain ⟨J, hJ⟩ : ∃ J, j + y = J := ⟨_, rfl⟩
      have a1 : (j : Int) + (y : Int) = (J : Int) := by omega
      have a2 : (J : Int) % (N2 : Int) = (P : Int) := by rw [← hP, hJ]; omega
      have a3 : (J : Int).tmod (N2 : Int) = (P : Int) := by rw [Int.tmod_eq_emod_of_nonneg (by omega)]; exact a2
      obtain ⟨N1, hN1⟩ : ∃ N1, N2 - 1 = N1 := ⟨_, rfl⟩
      have a4 : (N2 : Int) - 1 = (N1 : Int) := by omega
      have a5 : (N1 : Int) - (j : Int) = (Q : Int) := by omega
      have a6 : (J : Int) ≤ 300 := by omega
      have a7 : (N1 : Int) ≤ 15 := by omega
      have p0 : (0 : Int) ≤ (P : Int) := by omega
      have p1 : (P : Int) < (N2 : Int) := by omega
      have q0 : (0 : Int) ≤ (Q : Int) := by omega
      have q1 : (Q : Int) < (N2 : Int) := by omega
      have w1' : IntKind.i64.wrap (J : Int) = (J : Int) := by rw [IntKind.wrap_i64]; omega
      have w2' : IntKind.i64.wrap (N1 : Int) = (N1 : Int) := by rw [IntKind.wrap_i64]; omega
      have w3' : IntKind.i64.wrap (Q : Int) = (Q : Int) := by rw [IntKind.wrap_i64]; omega
      have w4' : IntKind.i64.wrap (y : Int) = (y : Int) := by rw [IntKind.wrap_i64]; omega
      have d0 : ((N2 : Int) == 0) = false := beq_eq_false_iff_ne.2 (by omega)
      have d1 : ¬ N2 = 0 := by omega
      have hPl : P < ms.length := by have := hN2.out; omega
      have hQl : Q < ms.length := by have := hN2.out; omega
      obtain ⟨b, o, rfl, hbl, g0, g1⟩ := hget.out P hPl
      obtain ⟨b', o', e', _, g2, g3⟩ := hget.out Q hQl
      cases e'
      rw [getD_map' _ _ _ hPl] at g0 g1
      rw [getD_map' _ _ _ hQl] at g2 g3
      have g0 := (hb.out.cell (p := ⟨b, o + P * 2, none⟩) hbl).trans g0
      have g1 := (hb.out.cell (p := ⟨b, o + P * 2 + 1, none⟩) hbl).trans g1
      have g2 := (hb.out.cell (p := ⟨b, o + Q * 2, none⟩) hbl).trans g2
      have g3 := (hb.out.cell (p := ⟨b, o + Q * 2 + 1, none⟩) hbl).trans g3
      have hmo2 := Lib.hid (hmo.out.step (p := P) (q := Q) (by have := hN2.out; omega) hPl (by have := hN2.out; omega) hQl)
      have hrt := raws_two mo ms[P] ms[Q]
      obtain ⟨sp, hsp⟩ : ∃ sp, ms[P] = sp := ⟨_, rfl⟩
      obtain ⟨sq, hsq⟩ : ∃ sq, ms[Q] = sq := ⟨_, rfl⟩
      rw [hsp] at g0 g1 hrt hmo2
      rw [hsq] at g2 g3 hrt hmo2
      obtain ⟨X1, l1⟩ := sp
      obtain ⟨X2, l2⟩ := sq
      dsimp only at g0 g1 g2 g3 hrt
      obtain ⟨S1, hS1⟩ : ∃ S, str l1 = S := ⟨_, rfl⟩
      obtain ⟨S2, hS2⟩ : ∃ S, str l2 = S := ⟨_, rfl⟩
      rw [hS1] at g1 hrt
      rw [hS2] at g3 hrt
      replace hrt := Lib.hid hrt
      have hro := hrow.out
      have hbo := hb.out
      have hbs := hbo.size
      clear hP hQ hN1 hJ hbl hsp hsq hS1 hS2 hmo hrow hb hget
      go_wp2_with fail
      go_region_law ((refine step_app2 (by rfl) _ _ (by rfl) w2.heap.size v (2 * j) (rw_ (raws mo)) wr.heap.size (X1.toNat : Int) (X2.toNat : Int) S1 S2 (by rfl) (show World.ownsRow _ _ _ _ _ _ _ from hro.alloc _) (by rfl) (cells_four wr _ _ _ _ _) (by omega) (by simp; omega) ?_; intro v5 w5 hown5 hgr5))
      all_goals
        have hbl6 : Below w2.heap.size w2 w5 := by
          refine Below.grown ?_ hgr5 (by simp; omega) (fun g e => (hro.lt g e).1)
          repeat (refine below_drewO ?_)
          exact hbo.alloc hbs _
        rw [← hrt.out] at hown5
        clear hgr5 hro hbo g0 g1 g2 g3 a1 a2 a3 a4 a5 w1' w2' w3' w4'
        go_wp2
        go_roundw
        case rel => exact ⟨j + 1, mo ++ [(X1, l1), (X2, l2)], _, rfl, by go_num, by omega, hmo2, Lib.hid (by rw [show 2 * (j + 1) = 2 * j + 2 by omega]; exact hown5), Lib.hid hbl6⟩
        case measure => simp [intOf]; omega
    · obtain rfl : j = N2 := by omega
      have dj : decide ((j : Int) < (j : Int)) = false := decide_eq_false (by omega)
      have hmo1 := hmo.out
      rw [← hN2.out] at hmo1
      obtain ⟨hl5, A5, c5, rfl, hR5⟩ := IsRaw.of_own hrow.out
      have hsm := hS.out.smallm hmo1.sub
      have hmall := hmo1.done
      have hr1 := hS.out.rst
      have hr2 := hS.out.more hmo1.sub hmall
      rw [hn1.out, hN2.out] at hr1 hr2
      have hR3 := hR2.out.below hb.out
      have cR1 := restore_own (n1 : Int) hR3 (by omega) hS.out.small
      have cR2 := fun (W : World) (hb' : Below wr.heap.size wr W) => restore_own (n1 : Int) (hR5.below hb') (by omega) hsm
      have hb4 := Lib.hid (hb3.out.trans (hb.out.mono hb3.out.size))
      replace cR1 := Lib.hid cR1
      replace cR2 := Lib.hid cR2
      replace hr1 := Lib.hid hr1
      replace hr2 := Lib.hid hr2
      clear hmo hmo1 hmall hsm hR5 hR3 hR2 hrow hb hb3 hget hS hl5
      go_wp2_with fail
      refine (cR1.out).mono ?_
      rintro e w5 ⟨k1, b1, A6, c6, hq1, rfl, hB1, hb5⟩
      replace cR2 := Lib.hid (cR2.out w5 hb5)
      have hb6 := Lib.hid (chain hb4.out hb5)
      replace hq1 := Lib.hid hq1
      replace hB1 := Lib.hid hB1
      clear hb5 hb4 cR1
      go_wp2_with fail
      refine (cR2.out).mono ?_
      rintro e w6 ⟨k2, b2, A7, c7, hq2, rfl, hB2, hb7⟩
      have hkb : k1 = k2 ∧ b1 = b2 ∧ b1.length ≤ 15 := by
        by_cases hlt : j < n1
        · have e1 := hr1.out.1 hlt
          have e2 := hr2.out.1 hlt
          have f1 : k1 = 19 := by rw [hq1.out.err]; exact e1
          have f2 : k2 = 19 := by rw [hq2.err]; exact e2
          rw [hq1.out.no (by rw [f1]; decide), hq2.no (by rw [f2]; decide), f1, f2]
          exact ⟨rfl, rfl, Nat.zero_le _⟩
        · obtain ⟨e1, e2⟩ := hr1.out.2 (by omega)
          obtain ⟨e3, e4⟩ := hr2.out.2 (by omega)
          have f1 : k1 = 0 := by rw [hq1.out.err]; exact e1
          have f2 : k2 = 0 := by rw [hq2.err]; exact e3
          rw [hq1.out.yes f1, hq2.yes f2, f1, f2]
          refine ⟨rfl, List.map_congr_left fun i _ => ?_, by simp; omega⟩
          show stO (fst_ (raws ms) n1) (pt i) = stO (fst_ (raws mo) n1) (pt i)
          rw [e2, e4]
      obtain ⟨rfl, rfl, hl15⟩ := hkb
      have cSm := same_any (hB1.out.below hb7) hB2 (by omega) (by omega)
      have hb8 := Lib.hid (chain hb6.out hb7)
      have t1 : (k1 == k1) = true := beq_self_eq_true k1
      replace cSm := Lib.hid cSm
      clear hq1 hq2 hB1 hB2 hb6 hb7 cR2 hr1 hr2
      go_wp2_with fail
      refine (cSm.out).mono ?_
      rintro e w7 ⟨⟨q, rfl, hq⟩, nq, rfl⟩
      obtain rfl := hq.2 (by first | trivial | rfl)
      replace cA := Lib.hid (cA.out (w6.drewN nq))
      have hb9 := Lib.hid (chainB hb8.out nq)
      clear hq cSm hb8
      go_wp2_with fail
      refine (cA.out).mono ?_
      rintro e w8 ⟨rfl, hb10⟩
      have hfin := Lib.hid (hb9.out.trans (hb10.mono hb9.out.size))
      clear cA hb9 hb10
      go_wp2
      go_ret
      exact ⟨rfl, hfin.out⟩
end Go.Proofs.Ytcakdhnlgeiodaa.E15
