/- The contracts of the landed stripes of layer 16 and of its iterator. -/
import Derived.Test.YtcfoclmkhippoaaL16Own2
import Derived.Test.YtcfoclmkhippoaaL16Own3
import Derived.Test.YtcfoclmkhippoaaE15OwnA
import Derived.Test.YtcfoclmkhippoaaRgT
import Derived.Test.YtcfoclmkhippoaaApIn
import Derived.Stop.RegionWithIn
import Derived.RangeFuncNested
import Derived.RangeFuncLeaves
import Derived.RangeFuncCalls
import Derived.Shelf.Abstract
import Derived.Shelf.RegionOpen
import Derived.OwnWalkIn
import Derived.TacticsInMore
import Derived.LoopNIn
import Derived.LoopIn
namespace Go.Proofs.Ytcfoclmkhippoaa.L16
set_option maxRecDepth 100000
open Go.RowKit Go.Shelf Mem
open Go.Proofs.Ytcfoclmkhippoaa.G5 Go.Proofs.Ytcfoclmkhippoaa.G7 Go.Proofs.Ytcfoclmkhippoaa.E15
set_option linter.unusedVariables false
set_option linter.unusedSimpArgs false
attribute [local go_sem] Oper.semAt_some

/-- What the iterator wants kept: its two boxes. -/
def Kp2 (b1 b2 : Nat) (W W' : World) : Prop := W'.heap[b1]? = W.heap[b1]? ∧ W'.heap[b2]? = W.heap[b2]?
theorem kp2_t {b1 b2 : Nat} {A B C : World} (h : Kp2 b1 b2 A B) (k : Kp2 b1 b2 B C) : Kp2 b1 b2 A C := ⟨k.1.trans h.1, k.2.trans h.2⟩
theorem kp2_l {b1 b2 : Nat} {w : World} (h1 : b1 < w.heap.size) (h2 : b2 < w.heap.size) (W : World) (l : Nat) (o : Obj) (hl : w.heap.size ≤ l) : Kp2 b1 b2 W (W.putObj l o) := ⟨World.putObj_heap_other (by omega), World.putObj_heap_other (by omega)⟩
/-- A layout's box. -/
def LyBox (W : World) (B : Nat) (D S : Int) : Prop := W.heap[B]? = some (.cells #[.int .i64 D, .int .i64 S] 23 (0, 0))
theorem LyBox.lt {W : World} {B : Nat} {D S : Int} (h : LyBox W B D S) : B < W.heap.size := (Array.getElem?_eq_some_iff.1 h).1
theorem LyBox.cells {W : World} {B : Nat} {D S : Int} (h : LyBox W B D S) : Cells2 W B (.int .i64 D) (.int .i64 S) := Cells2.of (vat_of_block (l := [.int .i64 D, .int .i64 S]) h)
theorem LyBox.new (w : World) (D S : Int) : LyBox (w.alloc (.cells #[.int .i64 D, .int .i64 S] 23)) w.heap.size D S := World.alloc_heap_new w _
theorem LyBox.below {W W' : World} {B : Nat} {D S : Int} (h : LyBox W B D S) (k : Below W.heap.size W W') : LyBox W' B D S := (k.block B h.lt).trans h
theorem boxed_below {W W' : World} {B : Nat} {t : TypeId} {v : Value} (h : Boxed W B t v) (k : Below W.heap.size W W') : Boxed W' B t v := (k.block B h.lt).trans h
theorem stripes_own (D S : Int) (c : ByteArray) (w : World) : Calls Try.prog 26 #[.agg #[.int .i64 D, .int .i64 S], .string c] w fun e w' =>
    e = .returned (.func (.func 37) #[] #[.pointer (some ⟨w.heap.size + 1, 0, none⟩), .pointer (some ⟨w.heap.size, 0, none⟩)]) ∧ w' = (w.alloc (.cells #[.int .i64 D, .int .i64 S] 23)).alloc (.cells #[.string c] 9) := by
  go_enter Try.func26, Try.ntmps26
  go_wp2
  go_ret
  exact ⟨rfl, rfl⟩
/-- What a yielded stripe is. -/
def TStr (D S : Nat) (x : List R) (pre : List (Value × List (List R))) (y : Value × List (List R)) (W : World) : Prop :=
  pre.length < cnt D x.length ∧ y.2 = stp D S x (pre.length * (28 * D)) ∧ W.ownsRow 0 9 1 y.1 (D + S) (bs y.2)
set_option maxHeartbeats 4000000 in
theorem stripes1_in (n S : Nat) (h1 : 1 ≤ n) (h8 : n ≤ 8) (hS : S ≤ 7) (c : ByteArray) (hc : c.size ≤ 100000) (l b1 b2 : Nat) (J : List (Value × List (List R)) → World → Prop)
    (hJ : ∀ pre A B, J pre A → Below A.heap.size A B → J pre B)
    (hY : ∀ pre x A, J pre A → TStr n S (el c) pre x A → YieldAt Fence.wide 1 Try.prog l #[x.1] A fun e B => e = .returned (.bool true) ∧ J (pre ++ [x]) B ∧ Kp2 b1 b2 A B)
    (W : World) (hx1 : Boxed W b1 9 (.string c)) (hx2 : LyBox W b2 (n : Int) (S : Int)) (h0 : J [] W) :
    CallsIn Fence.wide 2 Try.prog 37 #[.func (.yield l) #[] #[], .pointer (some ⟨b1, 0, none⟩), .pointer (some ⟨b2, 0, none⟩)] W fun e B => (∃ v, e = .returned v) ∧ ∃ xs, xs.map Prod.snd = sts n S (el c) ∧ J xs B := by
  obtain ⟨z, hz⟩ : ∃ z, 28 * n = z := ⟨_, rfl⟩
  have z28 : 28 ≤ z := by omega
  have z224 : z ≤ 224 := by omega
  obtain ⟨N, hN⟩ : ∃ N, cnt n (el c).length = N := ⟨_, rfl⟩
  have hlt := fun t => cnt_lt (D := n) (n := (el c).length) (t := t) h1
  rw [hN, hz, el_len] at hlt
  replace hlt := Lib.hid hlt
  replace hN := Lib.hid hN
  replace hz := Lib.hid hz
  obtain ⟨j0, hj0, hy0, hy1, hy2⟩ := info_parts info_str
  refine callsIn_of_wp Try.func37 rfl trivial ?_ rfl
  simp only [Try.ntmps37, List.size_toArray, List.length_cons, List.length_nil, Nat.reduceAdd, Nat.reduceSub, Array.replicate_succ, Array.replicate_zero, List.push_toArray, List.append_toArray, List.nil_append, List.cons_append]
  gi_wp2
  gi_loopw [4] (fun i wr => ∃ (pre : List (Value × List (List R))) (a : Nat), i = .int .i64 (a : Int) ∧ Hid (a = pre.length * z) ∧ Hid (pre.length ≤ N) ∧ Hid (pre.map Prod.snd = fro n S (el c) pre.length) ∧ J pre wr ∧ Boxed wr b1 9 (.string c) ∧ LyBox wr b2 (n : Int) (S : Int))
    (fun i _ => c.size + 1000 - (intOf i).toNat)
  case atStart => exact ⟨[], 0, rfl, Lib.hid (by simp), Lib.hid (Nat.zero_le _), Lib.hid rfl, h0, hx1, hx2⟩
  case round =>
    clear h0 hx1 hx2
    obtain ⟨pre, a, rfl, ha, hpn, hps, hJs, hx1, hx2⟩ := hrel
    have d0 := hx1.cell
    obtain ⟨d1, d2⟩ := hx2.cells
    by_cases hin : a < c.size
    · have t1 : decide ((a : Int) < (c.size : Int)) = true := decide_eq_true (by omega)
      have a0 : (0 : Int) ≤ (a : Int) := by omega
      have a1 : (a : Int) ≤ (c.size : Int) := by omega
      have a2 : a ≤ c.size := by omega
      have cD := fun W => datas_own n (S : Int) (c.extract a c.size) W h1 h8 (by rw [ByteArray.size_extract]; omega)
      rw [el_ext _ (Nat.le_refl _), List.take_of_length_le (by rw [el_len]; exact Nat.le_refl _), dat_drop] at cD
      replace cD := Lib.hid cD
      gi_wp2
      gi_region_with (refine ⟨trivial, ?_⟩; gi_at_call 38; refine (callsIn_wide.2 (cD.out _)).mono ?_; rintro e w1 ⟨v, rfl, hr1, hb1⟩)
      all_goals
        have hbw := chain (chainN (Below.refl wr.heap.size wr) 1) hb1
        have hws := Lib.hid (show wr.heap.size ≤ w1.heap.size from hbw.size)
        have d2' := (hx2.below hbw).cells.c1
        obtain ⟨_, A1, c1, rfl, hB1⟩ := IsBs.of_own hr1
        have cE := encode_own (S : Int) (by omega) hB1 (fun b hb => by rw [dat_28 b hb]; decide)
        have hsp := Lib.hid (fun k bl (h : EncQ (dat n (el c) a) (S : Int) k bl) => enc_spr (D := n) (S := S) (x := el c) (a := a) h1 (by omega) h)
        have hsl := spr_len n S (el c) a
        have hst : bs (dat n (el c) a) ++ bs (spr n S (el c) a) = bs (stp n S (el c) a) := by unfold stp bs; rw [List.map_append]
        have ht := (hlt.out pre.length).2 (by have := ha.out; omega)
        have hae : a = pre.length * (28 * n) := by rw [hz.out]; exact ha.out
        have hr1 : w1.ownsRow wr.heap.size 9 1 (.slice A1 n c1) n (bs (dat n (el c) a)) := hr1
        replace cE := Lib.hid cE
        replace hsl := Lib.hid hsl
        replace hst := Lib.hid hst
        replace ht := Lib.hid ht
        replace hae := Lib.hid hae
        replace hbw := Lib.hid hbw
        replace hJs := Lib.hid hJs
        replace hx1 := Lib.hid hx1
        replace hx2 := Lib.hid hx2
        clear d0 d1 d2 hB1 cD hb1 t1
        gi_wp2_with fail
        refine ⟨trivial, (callsIn_wide.2 cE.out).mono ?_⟩
        rintro e w2 ⟨k, bl, A2, c2, hq, rfl, hB2, hb2⟩
        obtain ⟨rfl, rfl⟩ := hsp.out k bl hq
        rw [hsl.out] at hB2 ⊢
        have hb3 := chain hbw.out hb2
        have hr2 := own_below hr1 hb2
        have e1 : n + S ≤ maxLen := by unfold maxLen; omega
        have e2 : (n + S) * 16 ≤ 140737488355328 := by omega
        have e4 : wr.heap.size ≤ w2.heap.size := hb3.size
        have hone := bs_one (spr n S (el c) a)
        have hbl : (bs (spr n S (el c) a)).length = S := by rw [bs_len, hsl.out]
        have hnil := hB2.nil
        have hrd := hB2.rd
        have hYp := hY pre
        replace hYp := Lib.hid hYp
        replace hrd := Lib.hid hrd
        replace hbl := Lib.hid hbl
        replace hone := Lib.hid hone
        replace hnil := Lib.hid hnil
        replace hb3 := Lib.hid hb3
        clear hr1 d2' cE hq hb2 hB2 hsp hbw
        gi_wp2_with (gi_at_builtin; refine wpListIn_append_rd rfl _ _ 39 rfl wr.heap.size 9 j0 (.string ⟨#[]⟩) 16 Try.underlying39 hj0 hy0 hy1 hy2 rfl _ n _ rfl hr2 A2 S c2 _ rfl hrd.out hbl.out hnil.out hone.out e1 e2 e4 ?_; intro v' w3 hown' hgrow; rw [hst.out] at hown'; have hb4 := hb3.out.grown hgrow e4 (fun j hj => (hr2.lt j hj).1); obtain ⟨fn, tmps, assign, body, hy, hR⟩ := hYp.out (v', stp n S (el c) a) w3 (hJ _ _ _ hJs.out hb4) ⟨by rw [hN.out]; exact ht.out, by rw [hae.out], own_mono hown' (Nat.zero_le _)⟩; dsimp only at hy)
        have hx1 := boxed_below hx1.out hb4
        have hx2 := hx2.out.below hb4
        clear hown' hgrow hb4 hr2 hJs hb3 hy
        refine hR.mono ?_
        rintro e w4 ⟨rfl, hJ4, hk4⟩
        clear hR
        have hx1 : Boxed w4 b1 9 (.string c) := hk4.1.trans hx1
        have hx2 : LyBox w4 b2 (n : Int) (S : Int) := hk4.2.trans hx2
        clear hk4
        have q1 := hx2.cells.c0
        have q2 := hx2.cells.c1
        have cB := fun W => sby_own (n : Int) (S : Int) (by omega) W
        rw [show (n : Int) * 28 = (z : Int) by have := hz.out; omega] at cB
        replace cB := Lib.hid cB
        have az : (a : Int) + (z : Int) = ((a + z : Nat) : Int) := by omega
        obtain ⟨a', ha'⟩ : ∃ a', a + z = a' := ⟨_, rfl⟩
        rw [ha'] at az
        have az2 : (a' : Int) ≤ 1000000 := by omega
        replace ha' := Lib.hid ha'
        gi_wp2_with (refine ⟨trivial, ?_⟩; gi_at_call 25; refine (callsIn_wide.2 (cB.out _)).mono ?_; rintro e w5 ⟨rfl, hb5⟩)
        go_roundw
        case rel => exact ⟨pre ++ [(v', stp n S (el c) a)], a', rfl, Lib.hid (by rw [← ha'.out, ha.out, List.length_append, List.length_singleton, Nat.add_mul, Nat.one_mul]), Lib.hid (by rw [List.length_append, List.length_singleton]; have := ht.out; omega), Lib.hid (by rw [List.map_append, hps.out, List.length_append, List.length_singleton, fro_snoc, hae.out]; rfl), hJ _ _ _ hJ4 hb5, boxed_below hx1 hb5, hx2.below hb5⟩
        case measure => simp [intOf]; have := ha'.out; omega
    · have t1 : decide ((a : Int) < (c.size : Int)) = false := decide_eq_false (by omega)
      have hpN : pre.length = N := by
        have h2 := hpn.out
        have h3 := (hlt.out pre.length).1
        have h4 := ha.out
        rcases Nat.lt_or_ge pre.length N with h | h
        · have := h3 h
          omega
        · omega
      have hfin := Lib.hid (show ∃ xs, xs.map Prod.snd = sts n S (el c) ∧ J xs wr from ⟨pre, by rw [hps.out, hpN, ← hN.out]; rfl, hJs⟩)
      clear hpN hps hJs hx1 hx2 d1 d2 hJ hY
      gi_wp2
      go_end0
      exact ⟨⟨_, rfl⟩, hfin.out⟩
theorem stripes_seq (n S : Nat) (h1 : 1 ≤ n) (h8 : n ≤ 8) (hS : S ≤ 7) (c : ByteArray) (hc : c.size ≤ 100000) (b1 b2 : Nat) (w : World) (hx1 : Boxed w b1 9 (.string c)) (hx2 : LyBox w b2 (n : Int) (S : Int)) :
    SeqT Fence.wide 2 Try.prog 37 #[.pointer (some ⟨b1, 0, none⟩), .pointer (some ⟨b2, 0, none⟩)] (fun x : Value × List (List R) => #[x.1]) (TStr n S (el c)) (Kp2 b1 b2) (fun xs => xs.map Prod.snd = sts n S (el c)) w :=
  fun l J W hW hJ hY h0 => stripes1_in n S h1 h8 hS c hc l b1 b2 J hJ hY W (boxed_below hx1 hW) (hx2.below hW) h0
end Go.Proofs.Ytcfoclmkhippoaa.L16
