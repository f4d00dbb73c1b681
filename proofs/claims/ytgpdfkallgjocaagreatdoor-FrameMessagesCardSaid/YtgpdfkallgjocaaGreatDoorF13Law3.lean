/- The walk of the law FrameMessages, under the package's contracts. -/
import Derived.Test.YtgpdfkallgjocaaGreatDoorF13Dev
import Derived.Test.YtgpdfkallgjocaaGreatDoorF13Ref3
import Derived.Deep.RegionHeld3
namespace Go.Proofs.YtgpdfkallgjocaaGreatDoor.F13
set_option maxRecDepth 100000
open Go.RowKit Mem
set_option linter.unusedVariables false
set_option linter.unusedSimpArgs false

set_option maxHeartbeats 8000000 in
theorem walk_messages (D : Dev) (f : Fr) (b : ByteArray) (w : World) (hf : Fit f ∨ 200 < f.pay.size) (hp : f.pay.size ≤ 9223372036854775807) (hb : b.size ≤ 140737488351232) :
    Calls Tryz.prog 3 #[f.val, .string b] w fun e w' => e = .returned (.bool true) ∧ Below w.heap.size w w' := by
  have cA := Lib.hid (fun W => alive_any D W)
  have cL := fun W => toolong_any f W hp
  have hbox : Below w.heap.size w (w.alloc (.cells f.cells 26)) := (Below.refl _ _).alloc (Nat.le_refl _) _
  have hvB : VAt (w.alloc (.cells f.cells 26)) w.heap.size f.cells.toList := vat_alloc w _ f.cells.toList
  have hsB : w.heap.size < (w.alloc (.cells f.cells 26)).heap.size := by simp
  by_cases h1 : 200 < f.pay.size
  · rw [decide_eq_true h1] at cL
    replace cL := Lib.hid cL
    obtain ⟨kind, reel, sess, idx, len, data, spare, arch, pay⟩ := f
    unfold Fr.val Fr.cells at *
    dsimp only at *
    clear h1 hf hp
    go_enter Tryz.func3, Tryz.ntmps3
    go_wp2_with fail
    refine (cA.out _).mono ?_
    rintro e w1 ⟨rfl, hb1⟩
    obtain ⟨a0, a1, a2, a3, a4, a5, a6, a7, a8, _, _, _, _, _, _, _, _, _⟩ := cells9 (hvB.below hb1 hsB)
    go_wp2_with fail
    refine (cL.out _).mono ?_
    rintro e w2 ⟨rfl, hb2⟩
    go_wp2
    go_ret
    exact ⟨rfl, chain hbox (chain hb1 hb2)⟩
  · rw [decide_eq_false h1] at cL
    replace cL := Lib.hid cL
    by_cases h2 : 200 < b.size
    · have d2 : decide ((200 : Int) < (b.size : Int)) = true := decide_eq_true (by omega)
      obtain ⟨kind, reel, sess, idx, len, data, spare, arch, pay⟩ := f
      unfold Fr.val Fr.cells at *
      dsimp only at *
      clear h1 hf hp h2 hb
      go_enter Tryz.func3, Tryz.ntmps3
      go_wp2_with fail
      refine (cA.out _).mono ?_
      rintro e w1 ⟨rfl, hb1⟩
      obtain ⟨a0, a1, a2, a3, a4, a5, a6, a7, a8, _, _, _, _, _, _, _, _, _⟩ := cells9 (hvB.below hb1 hsB)
      go_wp2_with fail
      refine (cL.out _).mono ?_
      rintro e w2 ⟨rfl, hb2⟩
      go_wp2
      go_ret
      exact ⟨rfl, chain hbox (chain hb1 hb2)⟩
    · have d2 : decide ((200 : Int) < (b.size : Int)) = false := decide_eq_false (by omega)
      have hfit : Fit f := hf.resolve_right h1
      have cM := fun W => D.marshal f W hfit
      have cM' := fun W => rmarshal_any f W (by omega)
      have cU := fun W => D.unmarshal b W (by omega)
      have cU' := fun W => runmarshal_any b W (by omega)
      have cC := fun W => D.check f W hfit
      have cC' := fun W => rcheck_any f W (by omega)
      obtain ⟨k, hk⟩ : ∃ k, ckE f = k := ⟨_, rfl⟩
      obtain ⟨M, hM⟩ : ∃ M, mS f = M := ⟨_, rfl⟩
      obtain ⟨k2, hk2⟩ : ∃ k, unE b.data.toList = k := ⟨_, rfl⟩
      obtain ⟨U, hU⟩ : ∃ U, unF b.data.toList = U := ⟨_, rfl⟩
      rw [hk] at cM cM' cC cC'
      rw [hM] at cM cM'
      rw [hk2, hU] at cU cU'
      obtain ⟨WB, hWB⟩ : ∃ W, w.alloc (.cells f.cells 26) = W := ⟨_, rfl⟩
      rw [hWB] at hbox hvB hsB
      obtain ⟨kind, reel, sess, idx, len, data, spare, arch, pay⟩ := f
      obtain ⟨ukind, ureel, usess, uidx, ulen, udata, uspare, uarch, upay⟩ := U
      unfold Fr.val at cM cM' cU cU' cC cC' cL ⊢
      unfold Fr.cells at cM cM' cU cU' cC cC' cL hvB hWB ⊢
      dsimp only at cM cM' cU cU' cC cC' cL hvB hWB ⊢
      replace cM := Lib.hid cM
      replace cM' := Lib.hid cM'
      replace cU := Lib.hid cU
      replace cU' := Lib.hid cU'
      replace cC := Lib.hid cC
      replace cC' := Lib.hid cC'
      clear h1 hf hp hk hM hk2 hU hfit h2 hb
      go_enter Tryz.func3, Tryz.ntmps3
      go_wp2_with fail
      refine (cA.out _).mono ?_
      rintro e w1 ⟨rfl, hB1⟩
      clear hWB
      obtain ⟨a0, a1, a2, a3, a4, a5, a6, a7, a8, _, _, _, _, _, _, _, _, _⟩ := cells9 (hvB.below hB1 hsB)
      go_wp2_with fail
      refine (cL.out _).mono ?_
      rintro e w2 ⟨rfl, hb2⟩
      have hB2 := chain hB1 hb2
      clear hB1 hb2 a0 a1 a2 a3 a4 a5 a6 a7 a8
      obtain ⟨a0, a1, a2, a3, a4, a5, a6, a7, a8, _, _, _, _, _, _, _, _, _⟩ := cells9 (hvB.below hB2 hsB)
      go_wp2_with fail
      refine (cM.out _).mono ?_
      rintro e w3 ⟨rfl, hb3⟩
      have hB3 := chain hB2 hb3
      clear hB2 hb3 a0 a1 a2 a3 a4 a5 a6 a7 a8
      obtain ⟨a0, a1, a2, a3, a4, a5, a6, a7, a8, _, _, _, _, _, _, _, _, _⟩ := cells9 (hvB.below hB3 hsB)
      go_wp2_with fail
      refine (cM'.out _).mono ?_
      rintro e w4 ⟨rfl, hb4⟩
      have hB4 := chain hB3 hb4
      clear hB3 hb4 a0 a1 a2 a3 a4 a5 a6 a7 a8
      go_wp2_with fail
      refine (cU.out _).mono ?_
      rintro e w5 ⟨rfl, hb5⟩
      have hB5 := chain hB4 hb5
      have hal5 := (Below.refl w5.heap.size w5).alloc (Nat.le_refl _) (.cells #[.int .i64 ukind, .int .i64 ureel, .int .i64 usess, .int .i64 uidx, .int .i64 ulen, .int .i64 udata, .int .i64 uspare, .int .u32 (uarch.toNat : Int), .string upay] 26)
      have hv5 := vat_alloc w5 26 [.int .i64 ukind, .int .i64 ureel, .int .i64 usess, .int .i64 uidx, .int .i64 ulen, .int .i64 udata, .int .i64 uspare, .int .u32 (uarch.toNat : Int), .string upay]
      obtain ⟨W5, hW5⟩ : ∃ W, w5.alloc (.cells #[.int .i64 ukind, .int .i64 ureel, .int .i64 usess, .int .i64 uidx, .int .i64 ulen, .int .i64 udata, .int .i64 uspare, .int .u32 (uarch.toNat : Int), .string upay] 26) = W := ⟨_, rfl⟩
      rw [show w5.alloc (.cells [.int .i64 ukind, .int .i64 ureel, .int .i64 usess, .int .i64 uidx, .int .i64 ulen, .int .i64 udata, .int .i64 uspare, .int .u32 (uarch.toNat : Int), .string upay].toArray 26) = W5 from hW5] at hv5
      rw [hW5] at hal5
      have hs5 : w5.heap.size < W5.heap.size := by rw [← hW5]; simp
      have hB5' := chain hB5 hal5
      clear hb5 hB4
      go_wp2_with fail
      refine (cU'.out _).mono ?_
      rintro e w6 ⟨rfl, hb6⟩
      have hB6 := chain hB5' hb6
      have hv6 := hv5.below hb6 hs5
      have hs56 : w5.heap.size < w6.heap.size := Nat.lt_of_lt_of_le hs5 hb6.size
      have hal6 := (Below.refl w6.heap.size w6).alloc (Nat.le_refl _) (.cells #[.int .i64 ukind, .int .i64 ureel, .int .i64 usess, .int .i64 uidx, .int .i64 ulen, .int .i64 udata, .int .i64 uspare, .int .u32 (uarch.toNat : Int), .string upay] 26)
      have hv7 := vat_alloc w6 26 [.int .i64 ukind, .int .i64 ureel, .int .i64 usess, .int .i64 uidx, .int .i64 ulen, .int .i64 udata, .int .i64 uspare, .int .u32 (uarch.toNat : Int), .string upay]
      obtain ⟨W6, hW6⟩ : ∃ W, w6.alloc (.cells #[.int .i64 ukind, .int .i64 ureel, .int .i64 usess, .int .i64 uidx, .int .i64 ulen, .int .i64 udata, .int .i64 uspare, .int .u32 (uarch.toNat : Int), .string upay] 26) = W := ⟨_, rfl⟩
      rw [show w6.alloc (.cells [.int .i64 ukind, .int .i64 ureel, .int .i64 usess, .int .i64 uidx, .int .i64 ulen, .int .i64 udata, .int .i64 uspare, .int .u32 (uarch.toNat : Int), .string upay].toArray 26) = W6 from hW6] at hv7
      rw [hW6] at hal6
      have hs6 : w6.heap.size < W6.heap.size := by rw [← hW6]; simp
      have hB7 := chain hB6 hal6
      have hv67 := hv6.below hal6 hs56
      have hs57 : w5.heap.size < W6.heap.size := by omega
      have hsB7 : w.heap.size < W6.heap.size := Nat.lt_of_lt_of_le hsB hB7.size
      have hvB7 := hvB.below hB7 hsB
      have rB := fun (W : World) (h : Below W6.heap.size W6 W) => cells9 (hvB7.below h hsB7)
      have r5 := fun (W : World) (h : Below W6.heap.size W6 W) => cells9 (hv67.below h hs57)
      have r6 := fun (W : World) (h : Below W6.heap.size W6 W) => cells9 (hv7.below h hs6)
      have x0 := fun W h => (rB W h).c0
      have x1 := fun W h => (rB W h).c1
      have x2 := fun W h => (rB W h).c2
      have x3 := fun W h => (rB W h).c3
      have x4 := fun W h => (rB W h).c4
      have x5 := fun W h => (rB W h).c5
      have x6 := fun W h => (rB W h).c6
      have x7 := fun W h => (rB W h).c7
      have x8 := fun W h => (rB W h).c8
      have y0 := fun W h => (r5 W h).c0
      have y1 := fun W h => (r5 W h).c1
      have y2 := fun W h => (r5 W h).c2
      have y3 := fun W h => (r5 W h).c3
      have y4 := fun W h => (r5 W h).c4
      have y5 := fun W h => (r5 W h).c5
      have y6 := fun W h => (r5 W h).c6
      have y7 := fun W h => (r5 W h).c7
      have y8 := fun W h => (r5 W h).c8
      have z0 := fun W h => (r6 W h).c0
      have z1 := fun W h => (r6 W h).c1
      have z2 := fun W h => (r6 W h).c2
      have z3 := fun W h => (r6 W h).c3
      have z4 := fun W h => (r6 W h).c4
      have z5 := fun W h => (r6 W h).c5
      have z6 := fun W h => (r6 W h).c6
      have z7 := fun W h => (r6 W h).c7
      have z8 := fun W h => (r6 W h).c8
      have hfin := Lib.hid (chain hbox hB7)
      have keep0 := Below.refl W6.heap.size W6
      have keep1 : ∀ W, Below W6.heap.size W6 W → Below W6.heap.size W6 (World.drew W) := fun W h => chainN h 1
      clear hb6 hB5 hB5' hB6 hB7 hv5 hv6 hv7 hv67 hvB hvB7 hsB7 hs57 hs56 hs6 hs5 hal5 hal6 hbox hsB rB r5 r6 cM cM' cU cU' cL cA
      go_wp2_with fail
      go_region_held3 (fun W => Below W6.heap.size W6 W) (first | exact keep0 | exact keep1 _ keep0 | exact chain ‹_› ‹_› | assumption) (first | (go_at_call 16; (with_reducible refine (cC.out _).mono ?_); rintro e w9 ⟨rfl, hb9⟩) | (go_at_call 17; (with_reducible refine (cC'.out _).mono ?_); rintro e w9 ⟨rfl, hb9⟩))
      all_goals
        go_wp2
        go_ret
        exact ⟨rfl, chain hfin.out (by assumption)⟩
end Go.Proofs.YtgpdfkallgjocaaGreatDoor.F13
