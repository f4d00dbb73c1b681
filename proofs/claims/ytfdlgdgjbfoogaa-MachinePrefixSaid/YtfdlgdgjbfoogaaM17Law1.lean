/- MachinePrefix, walked. -/
import Derived.Test.YtfdlgdgjbfoogaaM17Alive
import Derived.Test.YtfdlgdgjbfoogaaM17RefG
import Derived.Test.YtfdlgdgjbfoogaaM17Lin
import Derived.Test.YtfdlgdgjbfoogaaM12Pre
import Derived.Deep.Cut
import Derived.Test.YtfdlgdgjbfoogaaM17Open
import Derived.Test.YtfdlgdgjbfoogaaArr3
namespace Go.Proofs.Ytfdlgdgjbfoogaa.M17
set_option maxRecDepth 100000
open Go.RowKit Mem
set_option linter.unusedVariables false
set_option linter.unusedSimpArgs false

theorem prefix_test {a b : List UInt8} (h : a <+: b) : decide (((⟨b.toArray⟩ : ByteArray).data.toList.take (⟨a.toArray⟩ : ByteArray).size) = (⟨a.toArray⟩ : ByteArray).data.toList) = true := by
  refine decide_eq_true ?_
  show b.take a.toArray.size = a
  obtain ⟨t, rfl⟩ := h
  simp
theorem after_call {T : TypeId} {W W' : World} (h : Below W.heap.size W W') (X : Nat) (l : List Value) (k : Blk T W X l) : Blk T W' X l := (h.block X k.lt).trans k
theorem blk_al {T : TypeId} {W : World} {X : Nat} {l : List Value} (k : Blk T W X l) (o : Obj) : Blk T (W.alloc o) X l := (Below.heap_alloc W o X k.lt).trans k
theorem blk_drew {T : TypeId} {W : World} {X : Nat} {l : List Value} (k : Blk T W X l) : Blk T W.drew X l := k
theorem blk_new {T : TypeId} {W : World} {X : Nat} {l : List Value} (h : W.heap.size = X) : Blk T (W.alloc (.cells l.toArray T)) X l := by subst h; exact Blk.new W T l
theorem blk_set3 {T : TypeId} {W : World} {X : Nat} {a b c : Value} (k : Blk T W X [a, b, c]) (x y z : Value) : Blk T (((W.setCell ⟨X, 0, none⟩ x).setCell ⟨X, 1, none⟩ y).setCell ⟨X, 2, none⟩ z) X [x, y, z] := ((k.set 0 x).set 1 y).set 2 z
theorem blk_far {T : TypeId} {W : World} {X Y i : Nat} {l : List Value} (k : Blk T W X l) (h : X ≠ Y) (v : Value) : Blk T (W.setCell ⟨Y, i, none⟩ v) X l := (Below.heap_setCell _ _ _ _ h).trans k
theorem z3 {T : TypeId} {W : World} {X : Nat} {a b c : Value} (k : Blk T W X [a, b, c]) : W.cell? ⟨X, 0, none⟩ = some a ∧ W.cell? ⟨X, 1, none⟩ = some b ∧ W.cell? ⟨X, 2, none⟩ = some c ∧ W.frozen? ⟨X, 0, none⟩ = false ∧ W.frozen? ⟨X, 1, none⟩ = false ∧ W.frozen? ⟨X, 2, none⟩ = false := ⟨k.cell 0, k.cell 1, k.cell 2, k.frz 0, k.frz 1, k.frz 2⟩
theorem k1 {T : TypeId} (wb : World) (P Q : List Value) : Blk T ((wb.alloc (.cells P.toArray T)).alloc (.cells Q.toArray T)) wb.heap.size P ∧ Blk T ((wb.alloc (.cells P.toArray T)).alloc (.cells Q.toArray T)) (wb.heap.size + 1) Q := ⟨blk_al (Blk.new wb _ _) _, blk_new (by simp)⟩
theorem k2 {T : TypeId} {wb : World} {X : Nat} {a b c : Value} (r : Blk T wb X [a, b, c]) (x y z : Value) (Q : List Value) : Blk T ((((wb.setCell ⟨X, 0, none⟩ x).setCell ⟨X, 1, none⟩ y).setCell ⟨X, 2, none⟩ z).alloc (.cells Q.toArray T)) X [x, y, z] ∧ Blk T ((((wb.setCell ⟨X, 0, none⟩ x).setCell ⟨X, 1, none⟩ y).setCell ⟨X, 2, none⟩ z).alloc (.cells Q.toArray T)) wb.heap.size Q := ⟨blk_al (blk_set3 r x y z) _, blk_new (by simp)⟩
theorem k3 {T : TypeId} {wb : World} {X Y : Nat} {a b c a' b' c' : Value} (r : Blk T wb X [a, b, c]) (r' : Blk T wb Y [a', b', c']) (h : X ≠ Y) (x y z x' y' z' : Value) : Blk T ((((((wb.setCell ⟨X, 0, none⟩ x).setCell ⟨X, 1, none⟩ y).setCell ⟨X, 2, none⟩ z).setCell ⟨Y, 0, none⟩ x').setCell ⟨Y, 1, none⟩ y').setCell ⟨Y, 2, none⟩ z') X [x, y, z] ∧ Blk T ((((((wb.setCell ⟨X, 0, none⟩ x).setCell ⟨X, 1, none⟩ y).setCell ⟨X, 2, none⟩ z).setCell ⟨Y, 0, none⟩ x').setCell ⟨Y, 1, none⟩ y').setCell ⟨Y, 2, none⟩ z') Y [x', y', z'] :=
  ⟨blk_far (blk_far (blk_far (blk_set3 r x y z) h _) h _) h _, blk_set3 (blk_far (blk_far (blk_far r' h.symm _) h.symm _) h.symm _) x' y' z'⟩
set_option maxHeartbeats 4000000 in
theorem walk_prefix {A IA : Option Addr} {n c m ic : Nat} {ts : List Txt} {inp : List Nat} {w : World} (h : IsTxts w A n c ts) (hI : IsInp w IA m ic inp) (a0 a1 a2 : Int) :
    Calls Try.prog 4 #[.slice A n c, .slice IA m ic, .agg #[.int .i64 a0, .int .i64 a1, .int .i64 a2]] w fun e w' => e = .returned (.bool true) ∧ Below w.heap.size w w' := by
  have cA := Lib.hid alive_any
  have hbx := boxed w (.cells #[.int .i64 a0, .int .i64 a1, .int .i64 a2] 32)
  have v0 := Blk.new w 32 [.int .i64 a0, .int .i64 a1, .int .i64 a2]
  obtain ⟨X, hX⟩ : ∃ X, w.heap.size = X := ⟨_, rfl⟩
  obtain ⟨W0, hW0⟩ : ∃ W, w.alloc (.cells #[.int .i64 a0, .int .i64 a1, .int .i64 a2] 32) = W := ⟨_, rfl⟩
  rw [show (w.alloc (.cells [.int .i64 a0, .int .i64 a1, .int .i64 a2].toArray 32)) = W0 from hW0, hX] at v0
  rw [hW0] at hbx
  have hT := Lib.hid (h.below hbx)
  have hN := Lib.hid (hI.below hbx)
  replace v0 := Lib.hid v0
  replace hbx := Lib.hid hbx
  clear h hI
  go_enter Try.func4, Try.ntmps4
  go_wp2_with fail
  refine (cA.out _).mono ?_
  rintro e w1 ⟨rfl, hb1⟩
  have v1 : Blk 32 w1 X _ := (hb1.block X v0.out.lt).trans v0.out
  have hT1 := Lib.hid (hT.out.below hb1)
  have hN1 := Lib.hid (hN.out.below hb1)
  have hb2 := Lib.hid (chain hbx.out hb1)
  have x0 := v1.cell 0
  have x1 := v1.cell 1
  have x2 := v1.cell 2
  simp only [List.getElem?_cons_zero, List.getElem?_cons_succ] at x0 x1 x2
  replace v1 := Lib.hid v1
  clear hT hN v0 hbx hb1 cA hW0
  go_wp2_with fail
  go_quiet (fail)
  have hb3 := Lib.hid (chainN hb2.out nq)
  have hT2 := Lib.hid (hT1.out.below (chainN (Below.refl _ _) nq))
  have hN2 := Lib.hid (hN1.out.below (chainN (Below.refl _ _) nq))
  have v2 := Lib.hid (show Blk 32 (w1.drewN nq) X _ from v1.out)
  obtain ⟨w2, hw2⟩ : ∃ W, w1.drewN nq = W := ⟨_, rfl⟩
  rw [hw2] at hb3 hT2 hN2 v2
  rw [hw2]
  clear hw2 x0 x1 x2 v1 hT1 hN1 hb2
  go_upto_if 19 with fail
  go_cut [7, 8] from 9 (fun f m W => (∃ few many : Int, f = .int .i64 few ∧ m = .int .i64 many ∧ Hid (few ≤ many)) ∧ W = w2)
  case first =>
    by_cases hsw : a2 < a1
    · have sw : decide (a2 < a1) = true := decide_eq_true hsw
      have hs := Lib.hid (show a2 ≤ a1 by omega)
      go_wp2
      go_meet
      exact ⟨⟨_, _, rfl, rfl, hs⟩, rfl⟩
    · have sw : decide (a2 < a1) = false := decide_eq_false hsw
      have hs := Lib.hid (show a1 ≤ a2 by omega)
      go_wp2
      go_meet
      exact ⟨⟨_, _, rfl, rfl, hs⟩, rfl⟩
  case rest =>
    obtain ⟨⟨few, many, rfl, rfl, hfm⟩, rfl⟩ := hcut
    have y0 := v2.out.cell 0
    simp only [List.getElem?_cons_zero] at y0
    have cG := Lib.hid (great_any hT2.out IA m ic many)
    go_wp2_with fail
    refine (cG.out).mono ?_
    rintro e w3 ⟨he, hb4⟩
    have hT3 := Lib.hid (hT2.out.below hb4)
    have hN3 := Lib.hid (hN2.out.below hb4)
    have v3 : Blk 32 w3 X _ := (hb4.block X v2.out.lt).trans v2.out
    have hb5 := Lib.hid (chain hb3.out hb4)
    have z0 := v3.cell 0
    simp only [List.getElem?_cons_zero] at z0
    have vX := Lib.hid v3.lt
    clear hT2 hN2 v2 v3 hb4 hb3 y0 cG
    rcases he with rfl | rfl
    rotate_left
    · go_wp2
      first | go_ret | skip
      exact ⟨rfl, hb5.out⟩
    by_cases hbig : 100000000 < many
    · have u0 : decide (100000000 < many) = true := decide_eq_true hbig
      go_wp2
      first | go_ret | skip
      exact ⟨rfl, hb5.out⟩
    have u0 : decide (100000000 < many) = false := decide_eq_false hbig
    obtain ⟨p1, p2, p3⟩ := ans_less ts a0 inp hfm.out (by omega)
    have cF := fun (W : World) (hb : Below w3.heap.size w3 W) => Run_own (hT3.out.below hb) (hN3.out.below hb) a0 few
    have cM := fun (W : World) (hb : Below w3.heap.size w3 W) => Run_own (hT3.out.below hb) (hN3.out.below hb) a0 many
    have l1 := (ans_len ts a0 inp few).1
    have l2 := (ans_len ts a0 inp many).1
    obtain ⟨x, hx⟩ : ∃ x, ans ts a0 inp few = x := ⟨_, rfl⟩
    obtain ⟨y, hy⟩ : ∃ y, ans ts a0 inp many = y := ⟨_, rfl⟩
    rw [hx] at cF p1 p2 p3 l1
    rw [hy] at cM p1 p2 p3 l2
    unfold outV at cF cM
    replace cF := Lib.hid cF
    replace cM := Lib.hid cM
    replace p1 := Lib.hid p1
    replace p2 := Lib.hid p2
    replace p3 := Lib.hid p3
    replace l1 := Lib.hid l1
    replace l2 := Lib.hid l2
    have bel0 : Below w3.heap.size w3 w3.drew := (Below.refl _ _).drew
    have bal : ∀ W o, Below w3.heap.size w3 W → Below w3.heap.size w3 (World.alloc W o) := fun W o h => h.alloc h.size o
    have bst : ∀ W W', Below w3.heap.size w3 W → Below W.heap.size W W' → Below w3.heap.size w3 W' := fun W W' h k => h.trans (k.mono h.size)
    have kp : ∀ (W W' : World) (g : Nat), Below W.heap.size W W' → Blk 29 W g [.string ⟨#[]⟩, .int .i64 0, .int .i64 0] → Blk 29 W' g [.string ⟨#[]⟩, .int .i64 0, .int .i64 0] := fun W W' g h k => after_call h g _ k
    have f0 : Calls Try.prog 10 #[.slice A n c, .int .i64 a0, .slice IA m ic, .int .i64 few] w3.drew fun e wa => e = .returned (.agg #[.string ⟨x.out.toArray⟩, .int .i64 (x.err : Int), .int .i64 (x.steps : Int)]) ∧ Below w3.heap.size w3 wa := (cF.out _ bel0).mono fun e w' ⟨he, hw⟩ => ⟨he, bst _ _ bel0 hw⟩
    have f1 : Calls Try.prog 10 #[.slice A n c, .int .i64 a0, .slice IA m ic, .int .i64 few] (w3.alloc (.cells #[.string ⟨#[]⟩, .int .i64 0, .int .i64 0] 29)).drew fun e wa => e = .returned (.agg #[.string ⟨x.out.toArray⟩, .int .i64 (x.err : Int), .int .i64 (x.steps : Int)]) ∧ Below w3.heap.size w3 wa ∧ Blk 29 wa w3.heap.size [.string ⟨#[]⟩, .int .i64 0, .int .i64 0] := (cF.out _ (bal w3 _ (Below.refl _ _)).drew).mono fun e w' ⟨he, hw⟩ => ⟨he, bst _ _ (bal w3 _ (Below.refl _ _)).drew hw, kp _ _ _ hw (Blk.new w3 _ _)⟩
    have f2 : Calls Try.prog 10 #[.slice A n c, .int .i64 a0, .slice IA m ic, .int .i64 few] ((w3.alloc (.cells #[.string ⟨#[]⟩, .int .i64 0, .int .i64 0] 29)).alloc (.cells #[.string ⟨#[]⟩, .int .i64 0, .int .i64 0] 29)).drew fun e wa => e = .returned (.agg #[.string ⟨x.out.toArray⟩, .int .i64 (x.err : Int), .int .i64 (x.steps : Int)]) ∧ Below w3.heap.size w3 wa ∧ Blk 29 wa w3.heap.size [.string ⟨#[]⟩, .int .i64 0, .int .i64 0] ∧ Blk 29 wa (w3.heap.size + 1) [.string ⟨#[]⟩, .int .i64 0, .int .i64 0] := (cF.out _ (bal _ _ (bal w3 _ (Below.refl _ _))).drew).mono fun e w' ⟨he, hw⟩ => ⟨he, bst _ _ (bal _ _ (bal w3 _ (Below.refl _ _))).drew hw, kp _ _ _ hw (blk_al (Blk.new w3 _ _) _), kp _ _ _ hw (blk_new (W := w3.alloc _) (by simp))⟩
    have m00 : ∀ (wa : World), Below w3.heap.size w3 wa → Calls Try.prog 10 #[.slice A n c, .int .i64 a0, .slice IA m ic, .int .i64 many] wa fun e wb => e = .returned (.agg #[.string ⟨y.out.toArray⟩, .int .i64 (y.err : Int), .int .i64 (y.steps : Int)]) ∧ Below w3.heap.size w3 wb := fun wa hS => (cM.out _ hS).mono fun e w' ⟨he, hw⟩ => ⟨he, bst _ _ hS hw⟩
    have m01 : ∀ (wa : World), Below w3.heap.size w3 wa → Calls Try.prog 10 #[.slice A n c, .int .i64 a0, .slice IA m ic, .int .i64 many] (wa.alloc (.cells #[.string ⟨#[]⟩, .int .i64 0, .int .i64 0] 29)) fun e wb => e = .returned (.agg #[.string ⟨y.out.toArray⟩, .int .i64 (y.err : Int), .int .i64 (y.steps : Int)]) ∧ Below w3.heap.size w3 wb ∧ Blk 29 wb wa.heap.size [.string ⟨#[]⟩, .int .i64 0, .int .i64 0] := fun wa hS  => (cM.out _ (bal _ _ hS)).mono fun e w' ⟨he, hw⟩ => ⟨he, bst _ _ (bal _ _ hS) hw, kp _ _ _ hw (Blk.new wa _ _)⟩
    have m02 : ∀ (wa : World), Below w3.heap.size w3 wa → Calls Try.prog 10 #[.slice A n c, .int .i64 a0, .slice IA m ic, .int .i64 many] ((wa.alloc (.cells #[.string ⟨#[]⟩, .int .i64 0, .int .i64 0] 29)).alloc (.cells #[.string ⟨#[]⟩, .int .i64 0, .int .i64 0] 29)) fun e wb => e = .returned (.agg #[.string ⟨y.out.toArray⟩, .int .i64 (y.err : Int), .int .i64 (y.steps : Int)]) ∧ Below w3.heap.size w3 wb ∧ Blk 29 wb wa.heap.size [.string ⟨#[]⟩, .int .i64 0, .int .i64 0] ∧ Blk 29 wb (wa.heap.size + 1) [.string ⟨#[]⟩, .int .i64 0, .int .i64 0] := fun wa hS  => (cM.out _ (bal _ _ (bal _ _ hS))).mono fun e w' ⟨he, hw⟩ => ⟨he, bst _ _ (bal _ _ (bal _ _ hS)) hw, kp _ _ _ hw (blk_al (Blk.new wa _ _) _), kp _ _ _ hw (blk_new (W := wa.alloc _) (by simp))⟩
    have m10 : ∀ (wa : World), Below w3.heap.size w3 wa → Blk 29 wa w3.heap.size [.string ⟨#[]⟩, .int .i64 0, .int .i64 0] → Calls Try.prog 10 #[.slice A n c, .int .i64 a0, .slice IA m ic, .int .i64 many] wa fun e wb => e = .returned (.agg #[.string ⟨y.out.toArray⟩, .int .i64 (y.err : Int), .int .i64 (y.steps : Int)]) ∧ Below w3.heap.size w3 wb ∧ Blk 29 wb w3.heap.size [.string ⟨#[]⟩, .int .i64 0, .int .i64 0] := fun wa hS h0 => (cM.out _ hS).mono fun e w' ⟨he, hw⟩ => ⟨he, bst _ _ hS hw, kp _ _ _ hw h0⟩
    have m11 : ∀ (wa : World), Below w3.heap.size w3 wa → Blk 29 wa w3.heap.size [.string ⟨#[]⟩, .int .i64 0, .int .i64 0] → Calls Try.prog 10 #[.slice A n c, .int .i64 a0, .slice IA m ic, .int .i64 many] (wa.alloc (.cells #[.string ⟨#[]⟩, .int .i64 0, .int .i64 0] 29)) fun e wb => e = .returned (.agg #[.string ⟨y.out.toArray⟩, .int .i64 (y.err : Int), .int .i64 (y.steps : Int)]) ∧ Below w3.heap.size w3 wb ∧ Blk 29 wb w3.heap.size [.string ⟨#[]⟩, .int .i64 0, .int .i64 0] ∧ Blk 29 wb wa.heap.size [.string ⟨#[]⟩, .int .i64 0, .int .i64 0] := fun wa hS h0 => (cM.out _ (bal _ _ hS)).mono fun e w' ⟨he, hw⟩ => ⟨he, bst _ _ (bal _ _ hS) hw, kp _ _ _ hw (blk_al h0 _), kp _ _ _ hw (Blk.new wa _ _)⟩
    have m20 : ∀ (wa : World), Below w3.heap.size w3 wa → Blk 29 wa w3.heap.size [.string ⟨#[]⟩, .int .i64 0, .int .i64 0] → Blk 29 wa (w3.heap.size + 1) [.string ⟨#[]⟩, .int .i64 0, .int .i64 0] → Calls Try.prog 10 #[.slice A n c, .int .i64 a0, .slice IA m ic, .int .i64 many] wa fun e wb => e = .returned (.agg #[.string ⟨y.out.toArray⟩, .int .i64 (y.err : Int), .int .i64 (y.steps : Int)]) ∧ Below w3.heap.size w3 wb ∧ Blk 29 wb w3.heap.size [.string ⟨#[]⟩, .int .i64 0, .int .i64 0] ∧ Blk 29 wb (w3.heap.size + 1) [.string ⟨#[]⟩, .int .i64 0, .int .i64 0] := fun wa hS h0 h1 => (cM.out _ hS).mono fun e w' ⟨he, hw⟩ => ⟨he, bst _ _ hS hw, kp _ _ _ hw h0, kp _ _ _ hw h1⟩
    replace f0 := Lib.hid f0
    replace f1 := Lib.hid f1
    replace f2 := Lib.hid f2
    replace m00 := Lib.hid m00
    replace m01 := Lib.hid m01
    replace m02 := Lib.hid m02
    replace m10 := Lib.hid m10
    replace m11 := Lib.hid m11
    replace m20 := Lib.hid m20
    have ld : ∀ W, Below w3.heap.size w3 W → W.cell? ⟨X, 0, none⟩ = some (.int .i64 a0) := fun W hb => (hb.cell (p := ⟨X, 0, none⟩) vX.out).trans z0
    replace bal := Lib.hid bal
    replace bst := Lib.hid bst
    clear kp cF cM hbig hx hy bel0
    have keep0 := Below.refl w3.heap.size w3
    have keep1 : ∀ W, Below w3.heap.size w3 W → Below w3.heap.size w3 (World.drew W) := fun W h => h.drew
    have keep2 : ∀ W W', Below w3.heap.size w3 W → Below W.heap.size W W' → Below w3.heap.size w3 W' := fun W W' h k => h.trans (k.mono h.size)
    have keepA : ∀ W o, Below w3.heap.size w3 W → Below w3.heap.size w3 (World.alloc W o) := fun W o h => h.alloc h.size o
    have keepS : ∀ W Y i v, w3.heap.size ≤ Y → Below w3.heap.size w3 W → Below w3.heap.size w3 (World.setCell W ⟨Y, i, none⟩ v) := fun W Y i v hY h => h.setCell (p := ⟨Y, i, none⟩) hY v
    go_wp2_with fail
    go_cut [9, 10] from 31 (fun f m W => ∃ X1 X2 : Nat, f = .pointer (some ⟨X1, 0, none⟩) ∧ m = .pointer (some ⟨X2, 0, none⟩) ∧ Hid (Blk 29 W X1 [.string ⟨x.out.toArray⟩, .int .i64 (x.err : Int), .int .i64 (x.steps : Int)]) ∧ Hid (Blk 29 W X2 [.string ⟨y.out.toArray⟩, .int .i64 (y.err : Int), .int .i64 (y.steps : Int)]) ∧ Hid (Below w3.heap.size w3 W))
    case first =>
      go_region_held3 (fun W => Below w3.heap.size w3 W) (((repeat' (with_reducible (first | assumption | exact keep0 | refine keepS _ _ _ _ ?_ ?_ | refine keepA _ _ ?_ | refine keep1 _ ?_))); all_goals (first | omega | (simp; omega)))) (first
        | (go_at_call 10; (with_reducible refine (f0.out).mono ?_); rintro e wa ⟨rfl, hS⟩; have zA := hS.size)
        | (go_at_call 10; (with_reducible refine (f1.out).mono ?_); rintro e wa ⟨rfl, hS, q1⟩; have s1 := q1.lt; have zA := hS.size)
        | (go_at_call 10; (with_reducible refine (f2.out).mono ?_); rintro e wa ⟨rfl, hS, q1, q2⟩; have s1 := q2.lt; have zA := hS.size)
        | (go_at_call 10; (with_reducible refine (m20.out wa hS q1 q2).mono ?_); rintro e wb ⟨rfl, hT, r1, r2⟩; have zB := hT.size; obtain ⟨ra0, ra1, ra2, ra3, ra4, ra5⟩ := z3 r1; obtain ⟨rb0, rb1, rb2, rb3, rb4, rb5⟩ := z3 r2)
        | (go_at_call 10; (with_reducible refine (m11.out wa hS q1).mono ?_); rintro e wb ⟨rfl, hT, r1, r2⟩; have zB := hT.size; obtain ⟨ra0, ra1, ra2, ra3, ra4, ra5⟩ := z3 r1; obtain ⟨rb0, rb1, rb2, rb3, rb4, rb5⟩ := z3 r2; have na : ¬ w3.heap.size = wa.heap.size := (by omega); have nb : ¬ wa.heap.size = w3.heap.size := (by omega))
        | (go_at_call 10; (with_reducible refine (m10.out wa hS q1).mono ?_); rintro e wb ⟨rfl, hT, r1⟩; have zB := hT.size; have s2 := r1.lt; obtain ⟨ra0, ra1, ra2, ra3, ra4, ra5⟩ := z3 r1; obtain ⟨rb0, rb1, rb2, rb3, rb4, rb5⟩ := z3 (blk_al r1 (.cells #[.string ⟨#[]⟩, .int .i64 0, .int .i64 0] 29)); obtain ⟨rc0, rc1, rc2, rc3, rc4, rc5⟩ := z3 (Blk.new wb 29 [.string ⟨#[]⟩, .int .i64 0, .int .i64 0]); have na : ¬ w3.heap.size = wb.heap.size := (by omega); have nb : ¬ wb.heap.size = w3.heap.size := (by omega))
        | (go_at_call 10; (with_reducible refine (m02.out wa hS).mono ?_); rintro e wb ⟨rfl, hT, r1, r2⟩; have zB := hT.size; obtain ⟨ra0, ra1, ra2, ra3, ra4, ra5⟩ := z3 r1; obtain ⟨rb0, rb1, rb2, rb3, rb4, rb5⟩ := z3 r2)
        | (go_at_call 10; (with_reducible refine (m01.out wa hS).mono ?_); rintro e wb ⟨rfl, hT, r1⟩; have zB := hT.size; have s2 := r1.lt; obtain ⟨ra0, ra1, ra2, ra3, ra4, ra5⟩ := z3 r1; obtain ⟨rb0, rb1, rb2, rb3, rb4, rb5⟩ := z3 (blk_al r1 (.cells #[.string ⟨#[]⟩, .int .i64 0, .int .i64 0] 29)); obtain ⟨rc0, rc1, rc2, rc3, rc4, rc5⟩ := z3 (Blk.new wb 29 [.string ⟨#[]⟩, .int .i64 0, .int .i64 0]); have na : ¬ wa.heap.size = wb.heap.size := (by omega); have nb : ¬ wb.heap.size = wa.heap.size := (by omega))
        | (go_at_call 10; (with_reducible refine (m00.out wa hS).mono ?_); rintro e wb ⟨rfl, hT⟩; have zB := hT.size; obtain ⟨ra0, ra1, ra2, ra3, ra4, ra5⟩ := z3 (blk_al (Blk.new wb 29 [.string ⟨#[]⟩, .int .i64 0, .int .i64 0]) (.cells #[.string ⟨#[]⟩, .int .i64 0, .int .i64 0] 29)); obtain ⟨rb0, rb1, rb2, rb3, rb4, rb5⟩ := z3 (blk_new (W := wb.alloc (.cells #[.string ⟨#[]⟩, .int .i64 0, .int .i64 0] 29)) (T := 29) (l := [.string ⟨#[]⟩, .int .i64 0, .int .i64 0]) (show (wb.alloc (.cells #[.string ⟨#[]⟩, .int .i64 0, .int .i64 0] 29)).heap.size = wb.heap.size + 1 by simp))))
      all_goals (go_wp2_with fail)
      all_goals go_meet
      all_goals refine ⟨_, _, rfl, rfl, Lib.hid ?_, Lib.hid ?_, Lib.hid ?_⟩
      all_goals first
        | with_reducible exact (k1 wb _ _).1
        | with_reducible exact (k1 wb _ _).2
        | with_reducible exact (k2 r1 _ _ _ _).1
        | with_reducible exact (k2 r1 _ _ _ _).2
        | with_reducible exact (k3 r1 r2 (by omega) _ _ _ _ _ _).1
        | with_reducible exact (k3 r1 r2 (by omega) _ _ _ _ _ _).2
        | with_reducible exact (k3 r2 r1 (by omega) _ _ _ _ _ _).1
        | with_reducible exact (k3 r2 r1 (by omega) _ _ _ _ _ _).2
        | ((repeat' (with_reducible (first | assumption | exact keep0 | refine keepS _ _ _ _ ?_ ?_ | refine keepA _ _ ?_ | refine keep1 _ ?_))) <;> (first | omega | (simp; omega)))
    case rest =>
      obtain ⟨X1, X2, rfl, rfl, v1, v2, hb6⟩ := hcut
      have hb7 := Lib.hid (hb5.out.trans (hb6.out.mono hb5.out.size))
      obtain ⟨d0, d1, d2, -, -, -⟩ := z3 v1.out
      obtain ⟨g0, g1, g2, -, -, -⟩ := z3 v2.out
      have cH := fun W => M12.has_prefix (⟨y.out.toArray⟩ : ByteArray) ⟨x.out.toArray⟩ W (by show y.out.toArray.size ≤ _; rw [List.size_toArray]; have := l2.out; omega) (by show x.out.toArray.size ≤ _; rw [List.size_toArray]; have := l1.out; omega)
      rw [prefix_test p1.out] at cH
      have t1 : decide ((y.steps : Int) < (x.steps : Int)) = false := decide_eq_false (by have := p2.out; omega)
      have p3 := p3.out
      obtain ⟨sx, hsx⟩ : ∃ q : Int, (x.steps : Int) = q := ⟨_, rfl⟩
      obtain ⟨sy, hsy⟩ : ∃ q : Int, (y.steps : Int) = q := ⟨_, rfl⟩
      rw [hsx] at d2 t1
      rw [hsy] at g2 t1
      have t1n : ¬ sy < sx := of_decide_eq_false t1
      have hss := Lib.hid (show x = y → sx = sy from fun h => by rw [← hsx, ← hsy, h])
      replace cH := Lib.hid cH
      clear hsx hsy f0 f1 f2 m00 m01 m02 m10 m11 m20 keep0 keep1 keep2 keepA keepS ld bal bst v1 v2 hb6 p1 p2 l1 l2 hT3 hN3 z0 hb5
      rcases p3 with p3 | p3
      · obtain ⟨O1, hO1⟩ : ∃ O : ByteArray, ⟨x.out.toArray⟩ = O := ⟨_, rfl⟩
        obtain ⟨O2, hO2⟩ : ∃ O : ByteArray, ⟨y.out.toArray⟩ = O := ⟨_, rfl⟩
        rw [hO1] at d0 cH
        rw [hO2] at g0 cH
        rw [p3] at d1
        rw [show ((13 : Nat) : Int) = 13 from rfl] at d1
        go_wp2_with fail
        refine (cH.out _).mono ?_
        rintro e w9 ⟨rfl, rfl⟩
        go_wp2
        first | go_ret | skip
        exact ⟨rfl, hb7.out⟩
      · obtain rfl := hss.out p3
        subst p3
        obtain ⟨O1, hO1⟩ : ∃ O : ByteArray, ⟨x.out.toArray⟩ = O := ⟨_, rfl⟩
        rw [hO1] at d0 g0 cH
        by_cases h13 : x.err = 13
        · rw [h13] at d1 g1
          rw [show ((13 : Nat) : Int) = 13 from rfl] at d1 g1
          go_wp2_with fail
          refine (cH.out _).mono ?_
          rintro e w9 ⟨rfl, rfl⟩
          go_wp2
          first | go_ret | skip
          exact ⟨rfl, hb7.out⟩
        · have t2 : ((x.err : Int) == 13) = false := beq_eq_false_iff_ne.2 (by omega)
          have t3 : decide ((x.err : Int) = 13) = false := decide_eq_false (by omega)
          have t4 : ¬ (x.err : Int) = 13 := by omega
          go_wp2_with fail
          refine (cH.out _).mono ?_
          rintro e w9 ⟨rfl, rfl⟩
          go_wp2
          first | go_ret | skip
          exact ⟨rfl, hb7.out⟩
/-- The same at what the reading says. -/
theorem row_prefix (A : Option Addr) (n c : Nat) (ts : List Txt) (IA : Option Addr) (m ic : Nat) (zs : List Int) (a0 a1 a2 : Int) (w : World) (h : IsTxts w A n c ts) (hI : IsRow .u32 w IA m ic zs) (q0 : -9223372036854775808 ≤ a0 ∧ a0 ≤ 9223372036854775807) (q1 : -9223372036854775808 ≤ a1 ∧ a1 ≤ 9223372036854775807) (q2 : -9223372036854775808 ≤ a2 ∧ a2 ≤ 9223372036854775807) : Calls Try.prog 4 #[.slice A n c, .slice IA m ic, .agg #[.int .i64 a0, .int .i64 a1, .int .i64 a2]] w fun e w' => e = .returned (.bool true) ∧ Below w.heap.size w w' := by
  obtain ⟨l, hl⟩ := IsInp.of_row hI
  exact walk_prefix h hl a0 a1 a2
end Go.Proofs.Ytfdlgdgjbfoogaa.M17
