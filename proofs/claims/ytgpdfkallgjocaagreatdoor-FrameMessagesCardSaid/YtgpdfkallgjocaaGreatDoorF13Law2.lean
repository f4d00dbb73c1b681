/- The walk of the law FrameEncodes, under the package's contracts. -/
import Derived.Test.YtgpdfkallgjocaaGreatDoorF13Dev
import Derived.Test.YtgpdfkallgjocaaGreatDoorM13AX
namespace Go.Proofs.YtgpdfkallgjocaaGreatDoor.F13
set_option maxRecDepth 100000
open Go.RowKit Mem
set_option linter.unusedVariables false
set_option linter.unusedSimpArgs false

set_option maxHeartbeats 8000000 in
theorem walk_encodes (D : Dev) (f : Fr) (w : World) (hf : Fit f ∨ 200 < f.pay.size) (hp : f.pay.size ≤ 9223372036854775807) :
    Calls Tryz.prog 4 #[f.val] w fun e w' => e = .returned (.bool true) ∧ Below w.heap.size w w' := by
  have cA := Lib.hid (fun W => alive_any D W)
  have cL := fun W => toolong_any f W hp
  have hbox : Below w.heap.size w (w.alloc (.cells f.cells 26)) := (Below.refl _ _).alloc (Nat.le_refl _) _
  have hvB : VAt (w.alloc (.cells f.cells 26)) w.heap.size f.cells.toList := vat_alloc w _ f.cells.toList
  have hsB : w.heap.size < (w.alloc (.cells f.cells 26)).heap.size := by simp
  by_cases h1 : 200 < f.pay.size
  · rw [decide_eq_true h1] at cL
    replace cL := Lib.hid cL
    obtain ⟨kind, reel, sess, idx, len, data, spare, arch, pay⟩ := f
    unfold Fr.val Fr.cells at *
    dsimp only at *
    clear h1 hf hp
    go_enter Tryz.func4, Tryz.ntmps4
    go_wp2_with fail
    refine (cA.out _).mono ?_
    rintro e w1 ⟨rfl, hb1⟩
    obtain ⟨a0, a1, a2, a3, a4, a5, a6, a7, a8, _, _, _, _, _, _, _, _, _⟩ := cells9 (hvB.below hb1 hsB)
    go_wp2_with fail
    refine (cL.out _).mono ?_
    rintro e w2 ⟨rfl, hb2⟩
    go_wp2
    go_ret
    exact ⟨rfl, chain hbox (chain hb1 hb2)⟩
  · rw [decide_eq_false h1] at cL
    replace cL := Lib.hid cL
    have hfit : Fit f := hf.resolve_right h1
    have cE := fun W => D.encode f W hfit
    have cR := fun W => rencode_any f W (by omega)
    unfold EncP at cE cR
    have honly := fun S S' (h : EncQ f S) (h' : EncQ f S') => h.only h'
    have hlen := fun S (h : EncQ f S) (h0 : ckE f = 0) => (show S.size = 852 by
      obtain ⟨W, h2, rfl⟩ := h.1 h0
      rw [ByteArray.size_append, bodyC_size (h2.size ((valid_iff f).1 h0))]
      rfl)
    obtain ⟨k, hk⟩ : ∃ k, ckE f = k := ⟨_, rfl⟩
    rw [hk] at cE cR hlen
    obtain ⟨E, hE⟩ : ∃ E, EncQ f = E := ⟨_, rfl⟩
    rw [hE] at cE cR honly hlen
    replace cE := Lib.hid cE
    replace cR := Lib.hid cR
    replace honly := Lib.hid honly
    replace hlen := Lib.hid hlen
    obtain ⟨WB, hWB⟩ : ∃ W, w.alloc (.cells f.cells 26) = W := ⟨_, rfl⟩
    rw [hWB] at hbox hvB hsB
    obtain ⟨kind, reel, sess, idx, len, data, spare, arch, pay⟩ := f
    unfold Fr.val at cE cR cL ⊢
    unfold Fr.cells at cE cR cL hvB hWB ⊢
    dsimp only at cE cR cL hvB hWB ⊢
    clear h1 hf hp hk hE hfit
    go_enter Tryz.func4, Tryz.ntmps4
    go_wp2_with fail
    refine (cA.out _).mono ?_
    rintro e w1 ⟨rfl, hB1⟩
    clear hWB
    obtain ⟨a0, a1, a2, a3, a4, a5, a6, a7, a8, _, _, _, _, _, _, _, _, _⟩ := cells9 (hvB.below hB1 hsB)
    go_wp2_with fail
    refine (cL.out _).mono ?_
    rintro e w2 ⟨rfl, hb2⟩
    have hB2 := chain hB1 hb2
    clear hB1 hb2 a0 a1 a2 a3 a4 a5 a6 a7 a8
    obtain ⟨a0, a1, a2, a3, a4, a5, a6, a7, a8, _, _, _, _, _, _, _, _, _⟩ := cells9 (hvB.below hB2 hsB)
    go_wp2_with fail
    refine (cE.out _).mono ?_
    rintro e w3 ⟨S, hS, rfl, hb3⟩
    have hB3 := chain hB2 hb3
    clear hB2 hb3 a0 a1 a2 a3 a4 a5 a6 a7 a8
    obtain ⟨a0, a1, a2, a3, a4, a5, a6, a7, a8, _, _, _, _, _, _, _, _, _⟩ := cells9 (hvB.below hB3 hsB)
    go_wp2_with fail
    refine (cR.out _).mono ?_
    rintro e w4 ⟨S', hS', rfl, hb4⟩
    have hB4 := chain hbox (chain hB3 hb4)
    obtain rfl := honly.out S S' hS hS'
    clear hb4 hB3 a0 a1 a2 a3 a4 a5 a6 a7 a8
    by_cases h0 : k = 0
    · have hs := hlen.out S hS h0
      subst h0
      have i1 : (S.size : Int) = 852 := by omega
      clear hs hS hS'
      go_wp2
      go_ret
      exact ⟨rfl, hB4⟩
    · have d1 : (k != 0) = true := bne_iff_ne.2 h0
      clear hS hS'
      go_wp2
      go_ret
      exact ⟨rfl, hB4⟩
end Go.Proofs.YtgpdfkallgjocaaGreatDoor.F13
