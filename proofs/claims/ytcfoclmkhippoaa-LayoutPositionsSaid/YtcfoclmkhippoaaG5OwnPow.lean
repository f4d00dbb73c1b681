/- The contracts of the landed functions of layer 5: the iterator over an exponent's bits, power. -/
import Derived.RangeFuncFrom
import Derived.RangeFuncNested
import Derived.RangeFuncBound
import Derived.RangeFuncCalls
import Derived.RangeFuncLeaves
import Derived.Shelf.Abstract
import Derived.Shelf.RegionOpen
import Derived.WalkKit
import Derived.OwnWalkIn
import Derived.TacticsInMore
import Derived.LoopNIn
import Derived.LoopIn
import Derived.Test.YtcfoclmkhippoaaG5OwnPow0
namespace Go.Proofs.Ytcfoclmkhippoaa.G5
set_option maxRecDepth 100000
open Go.RowKit Go.Shelf Mem
set_option linter.unusedVariables false
set_option linter.unusedSimpArgs false
attribute [local go_sem] Oper.semAt_some

theorem bit_of (r : Nat) : (bits .and .i64 (r : Int) 1 == 1) = (r % 2 == 1) := by
  rw [i64_and1]
  rcases Nat.mod_two_eq_zero_or_one r with h | h
  · rw [h, show ((r : Int) % 2) = 0 by omega]
    rfl
  · rw [h, show ((r : Int) % 2) = 1 by omega]
    rfl

set_option maxRecDepth 100000 in
set_option maxHeartbeats 1000000 in
/-- The iterator over the bits of a number, for every body of the loop. -/
theorem bits1_in (F : Fence) (n : Nat) (hf : F.fn 72) (hro : F.round = none) (hn : 1 ≤ n) (l Bn n₀ f N : Nat) (hN : N < 2 ^ f) (hN64 : N < 9223372036854775808) (J Jx : List Bool → World → Prop)
    (hY : ∀ pre x W, J pre W → pre.length < (bitsF f N).length → YieldAt F (n - 1) Try.prog l #[.bool x] W fun e W' =>
      (e = .returned (.bool true) ∧ J (pre ++ [x]) W' ∧ Below n₀ W W') ∨ (e = .returned (.bool false) ∧ Jx (pre ++ [x]) W'))
    (W : World) (hBn : W.cell? ⟨Bn, 0, none⟩ = some (.int .i64 (N : Int))) (h0 : J [] W) :
    CallsIn F n Try.prog 72 #[.func (.yield l) #[] #[], .pointer (some ⟨Bn, 0, none⟩)] W fun e W' => (∃ v, e = .returned v) ∧
      ((∃ ys, ys = bitsF f N ∧ J ys W') ∨ (∃ pre, pre <+: bitsF f N ∧ Jx pre W')) := by
  refine callsIn_of_wp Try.func72 rfl hf ?_ hro
  simp only [Try.ntmps72, List.size_toArray, List.length_cons, List.length_nil, Nat.reduceAdd, Nat.reduceSub, Array.replicate_succ, Array.replicate_zero, List.push_toArray, List.append_toArray, List.nil_append, List.cons_append]
  gi_wp2
  gi_loopw [3] (fun p wr => ∃ (pre : List Bool) (g r : Nat), p = .int .i64 (r : Int) ∧ bitsF f N = pre ++ bitsF g r ∧ r < 2 ^ g ∧ r < 9223372036854775808 ∧ J pre wr)
    (fun p _ => (intOf p).toNat)
  case atStart => exact ⟨[], f, N, rfl, rfl, hN, hN64, h0⟩
  case round =>
    obtain ⟨pre, g, r, rfl, hx, hg, hr64, hJs⟩ := hrel
    by_cases hr : r = 0
    · subst hr
      rw [bitsF_zero, List.append_nil] at hx
      have hxh := Lib.hid hx
      clear hx hg
      gi_wp2
      go_end0
      exact ⟨⟨_, rfl⟩, .inl ⟨pre, hxh.out.symm, hJs⟩⟩
    · cases g with
      | zero => exact absurd (show r = 0 by simp at hg; exact hg) hr
      | succ g =>
        rw [bitsF_pos g r hr] at hx
        have hg2 : r / 2 < 2 ^ g := by rw [Nat.pow_succ] at hg; omega
        have hb := bit_of r
        obtain ⟨B, hB⟩ : ∃ B, (r % 2 == 1) = B := ⟨_, rfl⟩
        rw [hB] at hx hb
        obtain ⟨fn, tmps, assign, body, hy, hR⟩ := hY pre B wr hJs (by rw [hx]; simp)
        have hxh := Lib.hid hx
        have hgh := Lib.hid hg2
        have hBh := Lib.hid hB
        have hrp : (0 : Int) < (r : Int) := by omega
        clear hx hg2 hg hB hr
        gi_wp2
        refine hR.mono ?_
        rintro e W3 (⟨rfl, hJ3, hk3⟩ | ⟨rfl, hJx3⟩)
        · gi_wp2
          go_roundw
          case rel => exact ⟨pre ++ [B], g, r / 2, by simp, by rw [hxh.out]; simp, hgh.out, by omega, hJ3⟩
          case measure => simp [intOf]; omega
        · gi_wp2
          refine bodyPost_ret (results_none rfl _ _ _) rfl ?_
          exact ⟨⟨_, rfl⟩, .inr ⟨pre ++ [B], ⟨bitsF g (r / 2), by rw [hxh.out]; simp⟩, hJx3⟩⟩

theorem bits_stops (F : Fence) (n : Nat) (hf : F.fn 72) (hro : F.round = none) (hn : 1 ≤ n) (Bn n₀ f N : Nat) (hN : N < 2 ^ f) (hN64 : N < 9223372036854775808) (w : World) (hBn : Bn < w.heap.size)
    (hc : w.cell? ⟨Bn, 0, none⟩ = some (.int .i64 (N : Int))) :
    SeqStopsK F n Try.prog 72 #[.pointer (some ⟨Bn, 0, none⟩)] (fun x : Bool => #[Value.bool x]) (Below n₀) (fun ys => ys = bitsF f N) (fun pre => pre <+: bitsF f N) (bitsF f N).length w := fun l J Jx W hW _ _ hY h0 =>
  bits1_in F n hf hro hn l Bn n₀ f N hN hN64 J Jx hY W ((hW.cell (p := ⟨Bn, 0, none⟩) hBn).trans hc) h0

/-! ### power -/
theorem cell_far {w : World} (p a : Addr) (v : Value) (h : p.block ≠ a.block) : (w.setCell p v).cell? a = w.cell? a :=
  World.cell?_setCell_other _ _ _ _ (fun e => h (by rw [e]))
theorem cell_of_box {W : World} {B : Nat} {v : Value} {t : TypeId} (h : W.heap[B]? = some (.cells #[v] t (0, 0))) : W.cell? ⟨B, 0, none⟩ = some v ∧ W.frozen? ⟨B, 0, none⟩ = false := by
  constructor <;> simp [World.cell?, World.frozen?, h]
theorem cell_new (W : World) (v : Value) (t : TypeId) : (W.alloc (.cells #[v] t)).cell? ⟨W.heap.size, 0, none⟩ = some v ∧ (W.alloc (.cells #[v] t)).frozen? ⟨W.heap.size, 0, none⟩ = false :=
  cell_of_box (World.alloc_heap_new W _)
theorem cell_alloc {W : World} {a : Addr} {v : Value} (o : Obj) (h : W.cell? a = some v) : (W.alloc o).cell? a = some v := cell_kept h (World.grownBy_alloc W o none) (fun r e => by cases e)
theorem frozen_alloc {W : World} {a : Addr} {v : Value} (o : Obj) (h : W.cell? a = some v) (hf : W.frozen? a = false) : (W.alloc o).frozen? a = false := (frozen_kept h (World.grownBy_alloc W o none) (fun r e => by cases e)).trans hf

set_option maxRecDepth 100000 in
set_option maxHeartbeats 2000000 in
theorem power_own (a : R) (n : Int) (w : World) (h1 : -9223372036854775808 ≤ n) (h2 : n ≤ 9223372036854775807) :
    Calls Try.prog 69 #[bv a, .int .i64 n] w fun e W' => e = .returned (bv (pw a (n % 255).toNat)) ∧ Below w.heap.size w W' := by
  obtain ⟨N, hN, hNl⟩ : ∃ N : Nat, n % 255 = (N : Int) ∧ N < 255 := ⟨(n % 255).toNat, by omega, by omega⟩
  rw [hN, Int.toNat_natCast]
  have c1 := fun W => exponent_own n W
  rw [hN] at c1
  have c2 := fun W => bitsOf_own (N : Int) W
  have c1 := Lib.hid c1
  have c2 := Lib.hid c2
  clear hN
  refine (callsIn_wide (n := 3)).1 ?_
  refine callsIn_of_wp_marks Try.func69 rfl trivial ?_ rfl
  simp only [Try.ntmps69, List.size_toArray, List.length_cons, List.length_nil, Nat.reduceAdd, Nat.reduceSub, Array.replicate_succ, Array.replicate_zero, List.push_toArray, List.append_toArray, List.nil_append, List.cons_append]
  gi_wp2_with (first
    | (refine ⟨trivial, ?_⟩; gi_at_call 71; refine (callsIn_wide.2 (c1.out _)).mono ?_; rintro e w' ⟨rfl, rfl⟩)
    | (refine ⟨trivial, ?_⟩; gi_at_call 70; refine (callsIn_wide.2 (c2.out _)).mono ?_; rintro e w' ⟨rfl, rfl⟩))
  have hs := cell_new w (bv a) 5
  have hp := cell_new (w.alloc (.cells #[bv a] 5)) (.int .u8 1) 5
  have hb := cell_new ((w.alloc (.cells #[bv a] 5)).alloc (.cells #[.int .u8 1] 5)) (.int .i64 (N : Int)) 3
  simp only [World.size_alloc] at hp hb
  have hB0 : Below w.heap.size w (((w.alloc (.cells #[bv a] 5)).alloc (.cells #[.int .u8 1] 5)).alloc (.cells #[.int .i64 (N : Int)] 3)) := (((Below.refl _ w).alloc (Nat.le_refl _) _).alloc (by simp) _).alloc (by simp; omega) _
  refine wpIn_rangeFunc_ownF rfl (by omega) (gf := 72) (lb := #[.pointer (some ⟨w.heap.size + 1 + 1, 0, none⟩)]) rfl trivial (enters_of Try.func72 (by kernel_rfl) rfl)
    (bits_stops Fence.wide 2 trivial rfl (by omega) (w.heap.size + 1 + 1) w.heap.size 8 N (by omega) (by omega) _ (by simp) hb.1) belowK_t (belowK_b (by simp; omega)) (Below.refl _ _) (fun _ => rfl)
    (fun pre W => ((W.cell? ⟨w.heap.size, 0, none⟩ = some (bv (sqs a pre).2) ∧ W.frozen? ⟨w.heap.size, 0, none⟩ = false) ∧ (W.cell? ⟨w.heap.size + 1, 0, none⟩ = some (bv (sqs a pre).1) ∧ W.frozen? ⟨w.heap.size + 1, 0, none⟩ = false)) ∧ Below w.heap.size w W)
    (fun _ _ _ => False)
    (OwnFrom.and (Own.from (fun s A B row hs hg hr => ⟨⟨cell_kept hs.1.1 hg hr, (frozen_kept hs.1.1 hg hr).trans hs.1.2⟩, ⟨cell_kept hs.2.1 hg hr, (frozen_kept hs.2.1 hg hr).trans hs.2.2⟩⟩) _) (ownFrom_below (Nat.le_refl _) (by simp; omega)))
    (fun _ _ _ _ _ hs _ _ => hs)
    ⟨⟨⟨cell_alloc _ (cell_alloc _ hs.1), frozen_alloc _ (cell_alloc _ hs.1) (frozen_alloc _ hs.1 hs.2)⟩, ⟨cell_alloc _ hp.1, frozen_alloc _ hp.1 hp.2⟩⟩, hB0⟩
    (fun x => { tmps := #[bv a, .int .i64 n, .pointer (some ⟨w.heap.size, 0, none⟩), undef, .int .u8 0, .pointer (some ⟨w.heap.size + 1, 0, none⟩), .bool x, .int .i64 n, .int .i64 (N : Int), .func (.func 72) #[] #[.pointer (some ⟨w.heap.size + 1 + 1, 0, none⟩)], .bool x, undef, undef, undef, undef, undef, undef, undef, undef], defers := [] }) ?assign ?body ?done ?stop
  case assign =>
    intro l x W K hK
    gi_wp2
    exact hK
  case body =>
    rintro l pre x W ⟨⟨⟨hc1, hf1⟩, ⟨hc2, hf2⟩⟩, hB⟩ _
    have hq := sqs_snoc a pre x
    obtain ⟨P, hP⟩ : ∃ P, (sqs a pre).1 = P := ⟨_, rfl⟩
    obtain ⟨S, hS⟩ : ∃ S, (sqs a pre).2 = S := ⟨_, rfl⟩
    rw [show sqs a pre = (P, S) by rw [← hP, ← hS]] at hq
    rw [hP] at hc2
    rw [hS] at hc1
    clear hP hS hs hp hb
    have c3 := Lib.hid (fun x y W => mul_own x y W)
    have hqh := Lib.hid hq
    clear hq
    cases x with
    | true =>
      gi_wp2_with (refine ⟨trivial, ?_⟩; gi_at_call 63; refine (CallsIn.inRound l (callsIn_wide.2 (c3.out _ _ _))).mono ?_; rintro e w' ⟨rfl, rfl⟩)
      have e1 : (sqs a (pre ++ [true])).1 = tms P S := by rw [hqh.out]; rfl
      have e2 : (sqs a (pre ++ [true])).2 = tms S S := by rw [hqh.out]; rfl
      have hc2' : (W.setCell ⟨w.heap.size + 1, 0, none⟩ (bv (tms P S))).cell? ⟨w.heap.size + 1, 0, none⟩ = some (bv (tms P S)) := World.cell?_setCell_same' _ _ _ (by rw [hc2]; rfl)
      have hc1' : (W.setCell ⟨w.heap.size + 1, 0, none⟩ (bv (tms P S))).cell? ⟨w.heap.size, 0, none⟩ = some (bv S) := (cell_far _ _ _ (by simp)).trans hc1
      refine ⟨(KeepsOthers.setCell _ _ _).trans (KeepsOthers.setCell _ _ _), ((Below.refl w.heap.size W).setCell (p := ⟨w.heap.size + 1, 0, none⟩) (by simp) _).setCell (p := ⟨w.heap.size, 0, none⟩) (Nat.le_refl _) _,
        ⟨⟨?_, by rw [World.frozen?_setCell, World.frozen?_setCell]; exact hf1⟩, ⟨?_, by rw [World.frozen?_setCell, World.frozen?_setCell]; exact hf2⟩⟩, (hB.setCell (p := ⟨w.heap.size + 1, 0, none⟩) (by simp) _).setCell (p := ⟨w.heap.size, 0, none⟩) (Nat.le_refl _) _⟩
      · rw [e2]
        exact World.cell?_setCell_same' _ _ _ (by rw [hc1']; rfl)
      · rw [e1]
        exact (cell_far _ _ _ (by simp)).trans hc2'
    | false =>
      gi_wp2_with (refine ⟨trivial, ?_⟩; gi_at_call 63; refine (CallsIn.inRound l (callsIn_wide.2 (c3.out _ _ _))).mono ?_; rintro e w' ⟨rfl, rfl⟩)
      have e1 : (sqs a (pre ++ [false])).1 = P := by rw [hqh.out]; rfl
      have e2 : (sqs a (pre ++ [false])).2 = tms S S := by rw [hqh.out]; rfl
      refine ⟨KeepsOthers.setCell _ _ _, (Below.refl w.heap.size W).setCell (p := ⟨w.heap.size, 0, none⟩) (Nat.le_refl _) _,
        ⟨⟨?_, by rw [World.frozen?_setCell]; exact hf1⟩, ⟨?_, by rw [World.frozen?_setCell]; exact hf2⟩⟩, hB.setCell (p := ⟨w.heap.size, 0, none⟩) (Nat.le_refl _) _⟩
      · rw [e2]
        exact World.cell?_setCell_same' _ _ _ (by rw [hc1]; rfl)
      · rw [e1]
        exact (cell_far _ _ _ (by simp)).trans hc2
  case done =>
    rintro D ys W hD rfl ⟨⟨⟨hc1, hf1⟩, ⟨hc2, hf2⟩⟩, hB⟩ hK
    rw [sqs_pw a 8 N (by omega)] at hc2
    gi_wp2
    refine ⟨by simp, .inl ⟨_, _, rfl, run_takeDeferred hK, ?_⟩⟩
    exact ⟨_, results_tmp rfl _ _ _, rfl, hB.trans (belowK_b (w := w) (Nat.le_refl _) W D _ _ (by simp at hD; omega) hK rfl rfl)⟩
  case stop =>
    rintro D c pre W _ _ h _
    exact h.elim
end Go.Proofs.Ytcfoclmkhippoaa.G5
