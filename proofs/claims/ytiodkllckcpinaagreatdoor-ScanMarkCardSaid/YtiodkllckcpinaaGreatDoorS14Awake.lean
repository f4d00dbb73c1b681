/- The laws' helper awake of layer 14: the example of the chapter. -/
import Derived.Test.YtiodkllckcpinaaGreatDoorS14Own3
import Derived.Test.YtiodkllckcpinaaGreatDoorS14Own4
import Derived.Test.YtiodkllckcpinaaGreatDoorM14AU
import Derived.Deep.RegionHeld3
set_option linter.unusedVariables false
set_option linter.unusedSimpArgs false
set_option maxRecDepth 100000
namespace Go.Proofs.YtiodkllckcpinaaGreatDoor
namespace S14
open Go.RowKit Mem F13

def fa : Fr := mkF 0 1 0 1 0 7#32 [97]
def fb : Fr := mkF 0 1 1 1 0 7#32 [98]
theorem fa_valid : Valid fa := mkF_valid (by decide) (by decide) (by decide) (by decide) (by decide) (by decide)
theorem fb_valid : Valid fb := mkF_valid (by decide) (by decide) (by decide) (by decide) (by decide) (by decide)
theorem fb_of (f : Fr) (h : Valid f) : FitB f := by
 have h1 := h.kind
 have h2 := h.data
 have h3 := h.spare
 have h4 := h.reel
 have h5 := h.sess
 have h6 := h.idx
 have h7 := h.len
 have h8 := h.size
 have ha := f.arch.isLt
 exact ⟨(Lit.wf_int_iff .i64 _).2 ⟨by show -9223372036854775808 ≤ _; omega, by show _ ≤ 9223372036854775807; omega⟩, (Lit.wf_int_iff .i64 _).2 ⟨by show -9223372036854775808 ≤ _; omega, by show _ ≤ 9223372036854775807; omega⟩, (Lit.wf_int_iff .i64 _).2 ⟨by show -9223372036854775808 ≤ _; omega, by show _ ≤ 9223372036854775807; omega⟩, (Lit.wf_int_iff .i64 _).2 ⟨by show -9223372036854775808 ≤ _; omega, by show _ ≤ 9223372036854775807; omega⟩, (Lit.wf_int_iff .i64 _).2 ⟨by show -9223372036854775808 ≤ _; omega, by show _ ≤ 9223372036854775807; omega⟩, (Lit.wf_int_iff .i64 _).2 ⟨by show -9223372036854775808 ≤ _; omega, by show _ ≤ 9223372036854775807; omega⟩, (Lit.wf_int_iff .i64 _).2 ⟨by show -9223372036854775808 ≤ _; omega, by show _ ≤ 9223372036854775807; omega⟩, (Lit.wf_int_iff .u32 _).2 ⟨by show (0 : Int) ≤ _; omega, by show _ ≤ 4294967295; omega⟩, by unfold maxLen; omega⟩
theorem two_frames (f g : Fr) (hf : FitB f) (hg : FitB g) (W : World) (T : TypeId) : IsFrames (W.alloc (.cells (f.cells ++ g.cells) T)) (some ⟨W.heap.size, 0, none⟩) [f, g].length 2 [f, g] := by
 refine ⟨rfl, Nat.le_refl _, by decide, fun e => (by cases e), fun x hx => ?_, fun j hj => ?_⟩
 ·rcases List.mem_cons.1 hx with rfl | hx
  ·exact hf
  ·rw [List.mem_singleton.1 hx]; exact hg
 ·refine ⟨W.heap.size, 0, rfl, by simp, ?_⟩
  rw [World.cell?_alloc_new, Nat.zero_add]
  have e : ([f, g].flatMap fun f => f.cells.toList) = (f.cells ++ g.cells).toList := by simp
  have := List.getElem?_eq_getElem hj
  rw [← this]
  rw [e, Array.getElem?_toList]
theorem join_two (f g : Fr) (hf : Valid f) (hg : Valid g) (W : World) : Calls Tryz.prog 19 #[.slice (some ⟨W.heap.size, 0, none⟩) 2 2] (W.alloc (.cells (f.cells ++ g.cells) 44)) fun e w' => ∃ S : ByteArray, Join0 [f, g] S.data.toList ∧ e = .returned (.tuple #[.string S, .int .i64 0]) ∧ Below (W.alloc (.cells (f.cells ++ g.cells) 44)).heap.size (W.alloc (.cells (f.cells ++ g.cells) 44)) w' := by
 have h := join_own [f, g] _ 2 _ (two_frames f g (fb_of f hf) (fb_of g hg) W 44) (by show 2 ≤ 1000; omega)
 refine h.mono ?_
 rintro e w' ⟨S, k, hJ, rfl, hb⟩
 have hk : k = 0 := by
  rw [hJ.err]
  unfold firstE
  rw [if_pos ((valid_iff f).2 hf)]
  unfold firstE
  rw [if_pos ((valid_iff g).2 hg)]
  rfl
 subst hk
 exact ⟨S, hJ.yes rfl, rfl, hb⟩
theorem piece_two (f g : Fr) (S : ByteArray) (W : World) (hS : Join0 [f, g] S.data.toList) : Calls Tryz.prog 17 #[.string S] W fun e w' => ∃ gg cap, e = .returned (.slice (some ⟨gg, 0, none⟩) 2 cap) ∧ w'.cell? ⟨gg, 1, none⟩ = some (.int .i64 0) ∧ w'.cell? ⟨gg, 15, none⟩ = some (.int .i64 852) ∧ w'.cell? ⟨gg, 19, none⟩ = some (.int .i64 g.idx) ∧ Below W.heap.size W w' := by
 have hs : S.size = 1704 := by
  have := hS.len
  have e : S.data.toList.length = S.size := by simp
  rw [e] at this
  exact this
 refine (piece_own S W (by omega)).mono ?_
 rintro e w' ⟨l, v, hl, rfl, hr, hb⟩
 have e := scan_join hS hl
 subst e
 obtain ⟨hn, A, cap, rfl, _, _, _, h5⟩ := own_at hr
 obtain ⟨g0, rfl, _, _, a0⟩ := h5 0 (by show 0 < 2; omega)
 obtain ⟨g1, e1, _, _, a1⟩ := h5 1 (by show 1 < 2; omega)
 injection e1 with e1
 injection e1 with e1
 subst e1
 exact ⟨g0, cap, rfl, a0.c1, a1.c1, a1.c5, hb⟩
set_option maxHeartbeats 8000000 in
theorem awake_any (w : World) : Calls Tryz.prog 12 #[] w fun e w' => e = .returned (.bool true) ∧ Below w.heap.size w w' := by
 have cA := fun W => rmake_any 0 1 0 1 0 7#32 ⟨#[97]⟩ W (by decide)
 have cB := fun W => rmake_any 0 1 1 1 0 7#32 ⟨#[98]⟩ W (by decide)
 have cJ := fun W => join_two fa fb fa_valid fb_valid W
 have cP := fun S W h => piece_two fa fb S W h
 obtain ⟨Za, hZa⟩ : ∃ Z : ByteArray, ⟨(padD [97]).toArray⟩ = Z := ⟨_, rfl⟩
 obtain ⟨Zb, hZb⟩ : ∃ Z : ByteArray, ⟨(padD [98]).toArray⟩ = Z := ⟨_, rfl⟩
 have hA : (mkF 0 1 0 1 0 7#32 ((ByteArray.mk #[97]).data.toList.take 28)).val = .agg #[.int .i64 66, .int .i64 0, .int .i64 1, .int .i64 0, .int .i64 1, .int .i64 1, .int .i64 0, .int .u32 7, .string Za] := by rw [← hZa]; rfl
 have hB : (mkF 0 1 1 1 0 7#32 ((ByteArray.mk #[98]).data.toList.take 28)).val = .agg #[.int .i64 66, .int .i64 0, .int .i64 1, .int .i64 1, .int .i64 1, .int .i64 1, .int .i64 0, .int .u32 7, .string Zb] := by rw [← hZb]; rfl
 have hC : fa.cells ++ fb.cells = #[.int .i64 66, .int .i64 0, .int .i64 1, .int .i64 0, .int .i64 1, .int .i64 1, .int .i64 0, .int .u32 7, .string Za, .int .i64 66, .int .i64 0, .int .i64 1, .int .i64 1, .int .i64 1, .int .i64 1, .int .i64 0, .int .u32 7, .string Zb] := by rw [← hZa, ← hZb]; rfl
 rw [hA] at cA
 rw [hB] at cB
 simp only [hC] at cJ
 rw [show fb.idx = 1 from rfl] at cP
 rw [show ((7#32).toNat : Int) = 7 from rfl] at cA cB
 replace cA := Lib.hid cA
 replace cB := Lib.hid cB
 replace cJ := Lib.hid cJ
 replace cP := Lib.hid cP
 have hv := vat_alloc w 41 [.int .i64 1, .int .i64 0]
 have hb1 : Below w.heap.size w (w.alloc (.cells #[.int .i64 1, .int .i64 0] 41)) := (Below.refl _ _).alloc (Nat.le_refl _) _
 obtain ⟨W0, hW0⟩ : ∃ W, w.alloc (.cells #[.int .i64 1, .int .i64 0] 41) = W := ⟨_, rfl⟩
 have hlt0 : w.heap.size < W0.heap.size := by rw [← hW0]; simp
 rw [show w.alloc (.cells ([.int .i64 1, .int .i64 0] : List Value).toArray 41) = W0 from hW0] at hv
 rw [hW0] at hb1
 obtain ⟨W1, hW1⟩ : ∃ W, W0.setCell ⟨w.heap.size, 1, none⟩ (.int .i64 0) = W := ⟨_, rfl⟩
 have z0 := (hv 0 (show 0 < 2 by decide)).1
 have z1 := (hv 1 (show 1 < 2 by decide)).1
 have z2 := (hv 0 (show 0 < 2 by decide)).2
 have z3 := (hv 1 (show 1 < 2 by decide)).2
 replace hv := hv.set (k := 1) (show 1 < 2 by decide) (.int .i64 0)
 replace hb1 := hb1.setCell (p := ⟨w.heap.size, 1, none⟩) (Nat.le_refl _) (.int .i64 0)
 have hlt : w.heap.size < W1.heap.size := by rw [← hW1]; simpa using hlt0
 rw [hW1] at hv hb1
 have r0 : ∀ W, Below W1.heap.size W1 W → W.cell? ⟨w.heap.size, 0, none⟩ = some (.int .i64 1) := fun W h => (h.cell (p := ⟨w.heap.size, 0, none⟩) hlt).trans (hv 0 (show 0 < 2 by decide)).1
 have r1 : ∀ W, Below W1.heap.size W1 W → W.cell? ⟨w.heap.size, 1, none⟩ = some (.int .i64 0) := fun W h => (h.cell (p := ⟨w.heap.size, 1, none⟩) hlt).trans (hv 1 (show 1 < 2 by decide)).1
 have keep1 : ∀ W, Below W1.heap.size W1 W → Below W1.heap.size W1 (World.drew W) := fun W h => chainN h 1
 have keep0 := Below.refl W1.heap.size W1
 have keepA : ∀ W o, Below W1.heap.size W1 W → Below W1.heap.size W1 (World.alloc W o) := fun W o h => h.alloc h.size o
 replace hb1 := Lib.hid hb1
 clear hv hlt hlt0 hA hB hC hZa hZb
 go_enter Tryz.func12, Tryz.ntmps12
 go_wp2
 go_region_held3 (fun W => Below W1.heap.size W1 W) (first | exact keep0 | exact keep1 _ keep0 | exact chain ‹_› ‹_› | exact keepA _ _ ‹_› | exact chain (chain ‹_› ‹_›) ‹_› | assumption) (first | (go_at_call 26; first | ((with_reducible refine (cA.out _).mono ?_); rintro e2 w9 ⟨rfl, hb2⟩) | ((with_reducible refine (cB.out _).mono ?_); rintro e2 w9 ⟨rfl, hb2⟩)) | (go_at_call 19; (with_reducible refine (cJ.out _).mono ?_); rintro e3 w10 ⟨S, hS, rfl, hb3⟩))
 have hBW : Below W1.heap.size W1 w10 := by assumption
 have hb := Lib.hid (hb1.out.trans (hBW.mono hb1.out.size))
 have cP1 := Lib.hid (fun W => cP.out S W hS)
 clear hS hBW cP cA cB cJ r0 r1 keep0 keep1 keepA
 go_wp2_with fail
 refine (cP1.out _).mono ?_
 rintro e w11 ⟨g, cap, rfl, c1, c2, c3, hb11⟩
 have hfin := Lib.hid (chain hb.out hb11)
 clear hb hb11 cP1
 go_wp2
 go_ret
 exact ⟨rfl, hfin.out⟩
end S14
end Go.Proofs.YtiodkllckcpinaaGreatDoor
