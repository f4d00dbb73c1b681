/- MachinePlacing, walked. -/
import Derived.Test.YtfdlgdgjbfoogaaM17Alive
import Derived.Test.YtfdlgdgjbfoogaaM17PPla
import Derived.Test.YtfdlgdgjbfoogaaShelf
import Derived.Test.YtfdlgdgjbfoogaaM17Open
import Derived.Test.YtfdlgdgjbfoogaaArr2
import Derived.Deep.Cut
namespace Go.Proofs.Ytfdlgdgjbfoogaa.M17
set_option maxRecDepth 100000
open Go.RowKit Mem
set_option linter.unusedVariables false
set_option linter.unusedSimpArgs false

theorem txts_two (w : World) (z1 z2 : Int) (S1 S2 : ByteArray) (h1 : FitT (z1, S1)) (h2 : FitT (z2, S2)) : IsTxts (w.alloc (.cells #[.int .i64 z1, .string S1, .int .i64 z2, .string S2] 38)) (some ⟨w.heap.size, 0, none⟩) 2 2 [(z1, S1), (z2, S2)] := txts_new w [(z1, S1), (z2, S2)] (by
  intro t h
  rcases List.mem_cons.1 h with e | h
  · rw [e]; exact h1
  · rw [List.mem_singleton.1 h]; exact h2) (by simp)
theorem rep_len (b : UInt8) : ∀ d, (Lib.repeatL [b] d).length = d
  | 0 => rfl
  | d + 1 => by
    show ([b] ++ Lib.repeatL [b] d).length = d + 1
    rw [List.length_append, rep_len b d, List.length_singleton, Nat.add_comm]
theorem after_call {T : TypeId} {W W' : World} (h : Below W.heap.size W W') (X : Nat) (l : List Value) (k : Blk T W X l) : Blk T W' X l := (h.block X k.lt).trans k
theorem blk_al {T : TypeId} {W : World} {X : Nat} {l : List Value} (k : Blk T W X l) (o : Obj) : Blk T (W.alloc o) X l := (Below.heap_alloc W o X k.lt).trans k
theorem blk_new {T : TypeId} {W : World} {X : Nat} {l : List Value} (h : W.heap.size = X) : Blk T (W.alloc (.cells l.toArray T)) X l := by subst h; exact Blk.new W T l
theorem z3 {T : TypeId} {W : World} {X : Nat} {a b c : Value} (k : Blk T W X [a, b, c]) : W.cell? ⟨X, 0, none⟩ = some a ∧ W.cell? ⟨X, 1, none⟩ = some b ∧ W.cell? ⟨X, 2, none⟩ = some c ∧ W.frozen? ⟨X, 0, none⟩ = false ∧ W.frozen? ⟨X, 1, none⟩ = false ∧ W.frozen? ⟨X, 2, none⟩ = false := ⟨k.cell 0, k.cell 1, k.cell 2, k.frz 0, k.frz 1, k.frz 2⟩
theorem blk_set3 {T : TypeId} {W : World} {X : Nat} {a b c : Value} (k : Blk T W X [a, b, c]) (x y z : Value) : Blk T (((W.setCell ⟨X, 0, none⟩ x).setCell ⟨X, 1, none⟩ y).setCell ⟨X, 2, none⟩ z) X [x, y, z] := ((k.set 0 x).set 1 y).set 2 z
set_option maxHeartbeats 4000000 in
theorem walk_placing {IA : Option Addr} {m ic : Nat} {inp : List Nat} {w : World} (S : ByteArray) (hI : IsInp w IA m ic inp) (z0 z1 : Int) (q0 : -9223372036854775808 ≤ z0 ∧ z0 ≤ 9223372036854775807) (q1 : -9223372036854775808 ≤ z1 ∧ z1 ≤ 9223372036854775807) :
    Calls Try.prog 7 #[.string S, .slice IA m ic, .agg #[.int .i64 z0, .int .i64 z1]] w fun e w' => e = .returned (.bool true) ∧ Below w.heap.size w w' := by
  have cA := Lib.hid alive_any
  have hbx := boxed w (.cells #[.int .i64 z0, .int .i64 z1] 24)
  have v0 := Blk.new w 24 [.int .i64 z0, .int .i64 z1]
  obtain ⟨X, hX⟩ : ∃ X, w.heap.size = X := ⟨_, rfl⟩
  obtain ⟨W0, hW0⟩ : ∃ W, w.alloc (.cells #[.int .i64 z0, .int .i64 z1] 24) = W := ⟨_, rfl⟩
  rw [show (w.alloc (.cells [.int .i64 z0, .int .i64 z1].toArray 24)) = W0 from hW0, hX] at v0
  rw [hW0] at hbx
  have hN := Lib.hid (hI.below hbx)
  have hlen := Lib.hid hI.len
  replace v0 := Lib.hid v0
  replace hbx := Lib.hid hbx
  clear hI
  go_enter Try.func7, Try.ntmps7
  go_wp2_with fail
  refine (cA.out _).mono ?_
  rintro e w1 ⟨rfl, hb1⟩
  have v1 : Blk 24 w1 X _ := (hb1.block X v0.out.lt).trans v0.out
  have hN1 := Lib.hid (hN.out.below hb1)
  have hb2 := Lib.hid (chain hbx.out hb1)
  have x0 := v1.cell 0
  have x1 := v1.cell 1
  simp only [List.getElem?_cons_zero, List.getElem?_cons_succ] at x0 x1
  clear hN v0 hbx hb1 cA hW0 v1
  by_cases big0 : 300 < S.size
  · have u0 : decide ((300 : Int) < (S.size : Int)) = true := decide_eq_true (by omega)
    clear big0
    go_wp2
    first | go_ret | skip
    exact ⟨rfl, hb2.out⟩
  by_cases big1 : 100 < m
  · have u0 : decide ((300 : Int) < (S.size : Int)) = false := decide_eq_false (by omega)
    have u1 : decide ((100 : Int) < (m : Int)) = true := decide_eq_true (by omega)
    clear big0 big1
    go_wp2
    first | go_ret | skip
    exact ⟨rfl, hb2.out⟩
  have u0 : decide ((300 : Int) < (S.size : Int)) = false := decide_eq_false (by omega)
  have u1 : decide ((100 : Int) < (m : Int)) = false := decide_eq_false (by omega)
  have hS300 : S.size ≤ 300 := by omega
  obtain ⟨d, hd⟩ : ∃ d, S.size = d := ⟨_, rfl⟩
  rw [hd] at u0 hS300
  obtain ⟨r1, r2, n, hn, hn2⟩ := rem_up z0 ((d : Int) + 1) (by omega) (by omega) q0.1 q0.2
  obtain ⟨r3, r4, b, hb, hb2'⟩ := rem_up z1 1000 (by decide) (by decide) q1.1 q1.2
  obtain ⟨r, hr⟩ : ∃ r, z0.tmod ((d : Int) + 1) = r := ⟨_, rfl⟩
  obtain ⟨t, ht⟩ : ∃ t, z1.tmod 1000 = t := ⟨_, rfl⟩
  rw [hr] at hn r1 r2
  rw [ht] at hb r3 r4
  rw [← Int.add_assoc] at hn
  have hnd : n ≤ d := by omega
  have hb999 : b < 1000 := by omega
  have M0 : (((d : Int) + 1) == 0) = false := beq_eq_false_iff_ne.2 (by omega)
  have e1 := ans_cut b n S (by omega) (by omega) hb999 inp 2000
  have e2 := fun D hD => ans_over b D S hD (by omega) hb999 inp 2000
  obtain ⟨bn, hbn⟩ : ∃ bn : Int, (b : Int) + (n : Int) = bn := ⟨_, rfl⟩
  have fS : FitT ((b : Int), S) := fit_small _ _ (by omega) (by omega) (by omega)
  have fA : FitT (bn, S.extract n S.size) := fit_small _ _ (by omega) (by omega) (by rw [ByteArray.size_extract]; omega)
  have fB : FitT ((b : Int), S.extract 0 n) := fit_small _ _ (by omega) (by omega) (by rw [ByteArray.size_extract]; omega)
  have e2' := fun D (hD : D.size = d) => e2 D (hD.trans hd.symm)
  rw [hbn] at e1
  rw [hd] at e1 fA
  obtain ⟨SA, hSA⟩ : ∃ SA, S.extract n d = SA := ⟨_, rfl⟩
  obtain ⟨SB, hSB⟩ : ∃ SB, S.extract 0 n = SB := ⟨_, rfl⟩
  rw [hSA] at e1 fA
  rw [hSB] at e1 fB
  obtain ⟨x, hx⟩ : ∃ x, ans [((b : Int), S)] (b : Int) inp 2000 = x := ⟨_, rfl⟩
  rw [hx] at e1
  have e2 := fun D hD => (e2' D hD).trans hx
  have c1 := fun (W : World) (h : Below w1.heap.size w1 W) => Run_own (txts_one W (b : Int) S fS) (hN1.out.below (h.alloc h.size (.cells #[.int .i64 (b : Int), .string S] 38))) (b : Int) 2000
  have c2 := fun (W : World) (g : Nat) (ht : IsTxts W (some ⟨g, 0, none⟩) 2 2 [(bn, SA), ((b : Int), SB)]) (h : Below w1.heap.size w1 W) => Run_own ht (hN1.out.below h) (b : Int) 2000
  have c3 := fun (D : ByteArray) (hD : D.size = d) (W : World) (h : Below w1.heap.size w1 W) => Run_own (txts_two W (b : Int) (b : Int) D S (fit_small _ _ (by omega) (by omega) (by omega)) fS) (hN1.out.below (h.alloc h.size (.cells #[.int .i64 (b : Int), .string D, .int .i64 (b : Int), .string S] 38))) (b : Int) 2000
  have tA := fun (W : World) (o : Obj) => (txts_two W bn (b : Int) SA SB fA fB).below (boxed _ o)
  have tB := fun (W : World) => txts_two W bn (b : Int) SA SB fA fB
  rw [hx] at c1
  rw [e1] at c2
  replace c3 := fun (D : ByteArray) (hD : D.size = d) (W : World) (h : Below w1.heap.size w1 W) => by
    have := c3 D hD W h
    rw [e2 D hD] at this
    exact this
  have cR := fun W => Try.strings_Repeat ⟨#[36]⟩ d W (by omega) (by show 1 * d ≤ _; omega)
  have hDz : (⟨(Lib.repeatL (ByteArray.mk #[36]).data.toList d).toArray⟩ : ByteArray).size = d := by
    show (Lib.repeatL (ByteArray.mk #[36]).data.toList d).toArray.size = d
    rw [List.size_toArray]; exact rep_len 36 d
  obtain ⟨D, hD⟩ : ∃ D : ByteArray, ⟨(Lib.repeatL (ByteArray.mk #[36]).data.toList d).toArray⟩ = D := ⟨_, rfl⟩
  rw [hD] at cR hDz
  replace c3 := c3 D hDz
  unfold outV at c1 c2 c3
  obtain ⟨O, hO⟩ : ∃ O : ByteArray, ⟨x.out.toArray⟩ = O := ⟨_, rfl⟩
  obtain ⟨oe, hoe⟩ : ∃ o : Int, (x.err : Int) = o := ⟨_, rfl⟩
  obtain ⟨os, hos⟩ : ∃ o : Int, (x.steps : Int) = o := ⟨_, rfl⟩
  rw [hO, hoe, hos] at c1 c2 c3
  have n0 : (0 : Int) ≤ (n : Int) := by omega
  have n1 : (n : Int) ≤ (d : Int) := by omega
  have n2 : n ≤ d := hnd
  have b0 : (0 : Int) ≤ (b : Int) := by omega
  have b1 : (b : Int) < 1000 := by omega
  have bn1 : bn ≤ 2000 := by omega
  have bnw : IntKind.i64.wrap bn = bn := IntWalk.i64_in _ (by omega)
  have bn0 : 0 ≤ bn := by omega
  replace c1 := Lib.hid c1
  replace c2 := Lib.hid c2
  replace tA := Lib.hid tA
  replace tB := Lib.hid tB
  replace c3 := Lib.hid c3
  replace cR := Lib.hid cR
  clear e1 e2 e2' hx fS fA fB hO hoe hos hD hDz hn2 hb2' q0 q1 hnd big0 big1
  go_wp2_with fail
  refine (c1.out _ (Below.refl _ _)).mono ?_
  rintro e w2 ⟨rfl, hb3⟩
  have hb4 := chain (boxed w1 (.cells #[.int .i64 (b : Int), .string S] 38)) hb3
  have hb5 := hb4.alloc hb4.size (.cells #[.string O, .int .i64 oe, .int .i64 os] 29)
  have v1 := Blk.new w2 29 [.string O, .int .i64 oe, .int .i64 os]
  obtain ⟨Y, hY⟩ : ∃ Y, w2.heap.size = Y := ⟨_, rfl⟩
  obtain ⟨W2, hW2⟩ : ∃ W, w2.alloc (.cells #[.string O, .int .i64 oe, .int .i64 os] 29) = W := ⟨_, rfl⟩
  rw [show (w2.alloc (.cells [.string O, .int .i64 oe, .int .i64 os].toArray 29)) = W2 from hW2, hY] at v1
  rw [hW2] at hb5
  replace v1 := Lib.hid v1
  replace hb5 := Lib.hid hb5
  clear hb3 hb4 x0 x1 c1
  have sA : (W2.alloc (.cells #[.string ⟨#[]⟩, .int .i64 0, .int .i64 0] 29)).heap.size = W2.heap.size + 1 := by simp
  have hZ : ∀ (W W' : World) (Z : Nat), Below W.heap.size W W' → Blk 29 W Z [.string ⟨#[]⟩, .int .i64 0, .int .i64 0] → Blk 29 W' Z [.string ⟨#[]⟩, .int .i64 0, .int .i64 0] := fun W W' Z h k => after_call h Z _ k
  have kA := (c2.out ((W2.alloc (.cells #[.string ⟨#[]⟩, .int .i64 0, .int .i64 0] 29)).alloc (.cells #[.int .i64 bn, .string SA, .int .i64 (b : Int), .string SB] 38)).drew (W2.heap.size + 1) (by have := (tB.out (W2.alloc (.cells #[.string ⟨#[]⟩, .int .i64 0, .int .i64 0] 29))).below (Below.refl _ _).drew; rwa [sA] at this) (((hb5.out.alloc hb5.out.size _).alloc (Nat.le_trans hb5.out.size (by simp)) _).drew)).mono (R' := fun e w' => e = .returned (.agg #[.string O, .int .i64 oe, .int .i64 os]) ∧ Blk 29 w' W2.heap.size [.string ⟨#[]⟩, .int .i64 0, .int .i64 0] ∧ Below W2.heap.size W2 w') (fun e w' ⟨he, hw⟩ => ⟨he, hZ _ _ _ hw (blk_al (Blk.new W2 _ _) _), (chain (boxed W2 _) (chain (boxed _ _) ((Below.refl _ _).drew))).trans (hw.mono (by simp <;> omega))⟩)
  have kB := (c2.out ((W2.alloc (.cells #[.int .i64 bn, .string SA, .int .i64 (b : Int), .string SB] 38)).alloc (.cells #[.string ⟨#[]⟩, .int .i64 0, .int .i64 0] 29)).drew W2.heap.size ((tA.out W2 _).below (Below.refl _ _).drew) (((hb5.out.alloc hb5.out.size _).alloc (Nat.le_trans hb5.out.size (by simp)) _).drew)).mono (R' := fun e w' => e = .returned (.agg #[.string O, .int .i64 oe, .int .i64 os]) ∧ Blk 29 w' (W2.heap.size + 1) [.string ⟨#[]⟩, .int .i64 0, .int .i64 0] ∧ Below W2.heap.size W2 w') (fun e w' ⟨he, hw⟩ => ⟨he, hZ _ _ _ hw (blk_new (W := W2.alloc _) (by simp)), (chain (boxed W2 _) (chain (boxed _ _) ((Below.refl _ _).drew))).trans (hw.mono (by simp <;> omega))⟩)
  have kC := (c2.out (W2.alloc (.cells #[.int .i64 bn, .string SA, .int .i64 (b : Int), .string SB] 38)).drew W2.heap.size ((tB.out W2).below (Below.refl _ _).drew) ((hb5.out.alloc hb5.out.size _).drew)).mono (R' := fun e w' => e = .returned (.agg #[.string O, .int .i64 oe, .int .i64 os]) ∧ Below W2.heap.size W2 w') (fun e w' ⟨he, hw⟩ => ⟨he, (chain (boxed W2 _) ((Below.refl _ _).drew)).trans (hw.mono (by simp <;> omega))⟩)
  replace kA := Lib.hid kA
  replace kB := Lib.hid kB
  replace kC := Lib.hid kC
  clear hZ sA tA tB c2
  go_wp2_with fail
  go_cut [10] from 48 (fun q W => ∃ Z : Nat, q = .pointer (some ⟨Z, 0, none⟩) ∧ Hid (Blk 29 W Z [.string O, .int .i64 oe, .int .i64 os]) ∧ Hid (Below W2.heap.size W2 W))
  case first =>
    go_region_with (first
      | (go_at_call 10; (with_reducible refine (kA.out).mono ?_); rintro e wa ⟨rfl, hz, hw⟩; have hlw := hw.size; obtain ⟨y0, y1, y2, y3, y4, y5⟩ := z3 hz)
      | (go_at_call 10; (with_reducible refine (kB.out).mono ?_); rintro e wa ⟨rfl, hz, hw⟩; have hlw := hw.size; obtain ⟨y0, y1, y2, y3, y4, y5⟩ := z3 hz)
      | (go_at_call 10; (with_reducible refine (kC.out).mono ?_); rintro e wa ⟨rfl, hw⟩))
    all_goals (go_wp2_with fail)
    all_goals go_meet
    all_goals first
      | exact ⟨_, rfl, Lib.hid (blk_set3 hz _ _ _), Lib.hid (((hw.setCell (p := ⟨_, 0, none⟩) (by dsimp only; omega) _).setCell (p := ⟨_, 1, none⟩) (by dsimp only; omega) _).setCell (p := ⟨_, 2, none⟩) (by dsimp only; omega) _)⟩
      | exact ⟨_, rfl, Lib.hid (Blk.new wa _ _), Lib.hid (hw.alloc hw.size _)⟩
  case rest =>
    obtain ⟨Z, rfl, v2, hb6⟩ := hcut
    have hb7 := Lib.hid (hb5.out.trans (hb6.out.mono hb5.out.size))
    have v1' := Lib.hid (after_call hb6.out _ _ v1.out)
    replace v1 := v1'
    have hN2 := Lib.hid (hN1.out.below hb7.out)
    clear v1' hb6 hb5 kA kB kC hW2 hY
    go_wp2_with fail
    refine (cR.out _).mono ?_
    rintro e w4 ⟨rfl, hb8⟩
    have v1' : Hid (Blk 29 w4 Y [.string O, .int .i64 oe, .int .i64 os]) := Lib.hid (after_call hb8 _ _ v1.out)
    have v2' : Hid (Blk 29 w4 Z [.string O, .int .i64 oe, .int .i64 os]) := Lib.hid (after_call hb8 _ _ v2.out)
    have hb9 := Lib.hid (hb7.out.trans (hb8.mono hb7.out.size))
    clear v1 v2 hb8 hb7 cR
    go_wp2_with fail
    refine (c3.out _ hb9.out).mono ?_
    rintro e w5 ⟨rfl, hb10⟩
    have v1 : Hid (Blk 29 w5 Y [.string O, .int .i64 oe, .int .i64 os]) := Lib.hid (after_call hb10 _ _ (blk_al v1'.out _))
    have v2 : Hid (Blk 29 w5 Z [.string O, .int .i64 oe, .int .i64 os]) := Lib.hid (after_call hb10 _ _ (blk_al v2'.out _))
    have hb11 := Lib.hid (hb9.out.trans ((chain (boxed w4 _) hb10).mono hb9.out.size))
    clear v1' v2' hb10 hb9 c3
    have y1 := z3 (blk_al v1.out (.cells #[.string O, .int .i64 oe, .int .i64 os] 29))
    have y2 := z3 (blk_al v2.out (.cells #[.string O, .int .i64 oe, .int .i64 os] 29))
    have y3 := z3 (Blk.new w5 29 [.string O, .int .i64 oe, .int .i64 os])
    have hb12 := Lib.hid (hb11.out.alloc hb11.out.size (.cells #[.string O, .int .i64 oe, .int .i64 os] 29))
    obtain ⟨V, hV⟩ : ∃ V, w5.heap.size = V := ⟨_, rfl⟩
    obtain ⟨W5, hW5⟩ : ∃ W, w5.alloc (.cells #[.string O, .int .i64 oe, .int .i64 os] 29) = W := ⟨_, rfl⟩
    rw [show (w5.alloc (.cells [.string O, .int .i64 oe, .int .i64 os].toArray 29)) = W5 from hW5, hV] at y3
    rw [hW5] at y1 y2 hb12
    obtain ⟨a0, a1, a2, -, -, -⟩ := y1
    obtain ⟨d0, d1, d2, -, -, -⟩ := y2
    obtain ⟨f0, f1, f2, -, -, -⟩ := y3
    clear v1 v2 hb11
    go_wp2
    first | go_ret | skip
    exact ⟨rfl, chain hb2.out hb12.out⟩
/-- The same at what the reading says. -/
theorem row_placing (S : ByteArray) (A : Option Addr) (n c : Nat) (zs : List Int) (z0 z1 : Int) (w : World) (hS : S.size ≤ 140737488351232) (h : IsRow .u32 w A n c zs) (q0 : -9223372036854775808 ≤ z0 ∧ z0 ≤ 9223372036854775807) (q1 : -9223372036854775808 ≤ z1 ∧ z1 ≤ 9223372036854775807) : Calls Try.prog 7 #[.string S, .slice A n c, .agg #[.int .i64 z0, .int .i64 z1]] w fun e w' => e = .returned (.bool true) ∧ Below w.heap.size w w' := by
  obtain ⟨l, hl⟩ := IsInp.of_row h
  exact walk_placing S hl z0 z1 q0 q1
end Go.Proofs.Ytfdlgdgjbfoogaa.M17
