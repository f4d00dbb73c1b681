/- The walk of the law ScanTorn; a piece with one sighting. -/
import Derived.Test.YtiodkllckcpinaaGreatDoorS14Awake
set_option linter.unusedVariables false
set_option linter.unusedSimpArgs false
set_option maxRecDepth 100000
namespace Go.Proofs.YtiodkllckcpinaaGreatDoor
namespace S14
open Go.RowKit Mem F13

theorem piece_single (c : ByteArray) (w : World) (hc : c.size ≤ 1000000) {f : Fr} {R : Int → Int → Int → Prop} (h : ∀ l, Scan c 0 l → ∃ d u n, l = [⟨0, f, d, u, n⟩] ∧ R d u n) :
  Calls Tryz.prog 17 #[.string c] w fun e w' => ∃ g cap d u n, R d u n ∧ e = .returned (.slice (some ⟨g, 0, none⟩) 1 cap) ∧ g < w'.heap.size ∧ Cells14 w' g (.int .i64 0) (.int .i64 0) (.int .i64 f.kind) (.int .i64 f.reel) (.int .i64 f.sess) (.int .i64 f.idx) (.int .i64 f.len) (.int .i64 f.data) (.int .i64 f.spare) (.int .u32 (f.arch.toNat : Int)) (.string f.pay) (.int .i64 d) (.int .i64 u) (.int .i64 n) ∧ Below w.heap.size w w' := by
 refine (piece_own c w hc).mono ?_
 rintro e w' ⟨l, v, hl, rfl, hr, hb⟩
 obtain ⟨d, u, n, rfl, hR⟩ := h l hl
 obtain ⟨hn, A, cap, rfl, _, _, _, h5⟩ := own_at hr
 obtain ⟨g, rfl, _, hg, a⟩ := h5 0 (by show 0 < 1; omega)
 exact ⟨g, cap, d, u, n, hR, rfl, hg, ⟨a.c0, a.c1, a.c2, a.c3, a.c4, a.c5, a.c6, a.c7, a.c8, a.c9, a.ca, a.cb, a.cc, a.cd⟩, hb⟩
theorem enc_list {W : ByteArray} (hs : W.size = 52) : (M12.mkB ++ bodyC W).size = 852 ∧ (M12.mkB ++ bodyC W).data.toList = M12.mk ++ (bodyC W).data.toList := by
 refine ⟨by rw [ByteArray.size_append, bodyC_size hs]; rfl, by rw [app_list]; rfl⟩
theorem readN_take {l : List UInt8} (h : ∀ x ∈ l, x = 48 ∨ x = 49) (k : Nat) : readN (l.take k) = (l.take k).length := readN_all fun x hx => h x (List.mem_of_mem_take hx)
theorem torn_one {f : Fr} {W : ByteArray} {n E : Nat} (hv : Valid f) (hW : Word f W) (hn : n ≤ 90) (hE : E = 852 - n) {l : List Sg} (hl : Scan ((M12.mkB ++ bodyC W).extract 0 E) 0 l) : ∃ d u m, l = [⟨0, f, d, u, m⟩] ∧ u = (n : Int) := by
 have hs := hW.size hv
 have hb := body_len hs
 have h : ((M12.mkB ++ bodyC W).extract 0 E).data.toList = M12.mk ++ (bodyC W).data.toList.take (836 - n) := by
  rw [F13.ext_list, (enc_list hs).2, List.drop_zero, List.take_append, List.take_of_length_le (show M12.mk.length ≤ E by rw [M12.mk_len]; omega), M12.mk_len]
  congr 2
  omega
 have hlen : ((bodyC W).data.toList.take (836 - n)).length = 836 - n := by rw [List.length_take]; omega
 obtain ⟨d, u, m, rfl, hD⟩ := one_sighting (f := f) M12.mk_len (by omega) h (by rw [ds_mark]; omega) (by rw [readN_take (body_bits W), hlen]; omega) (fun F d u e k hD => by
  obtain ⟨h1, _, h3⟩ := torn_dec hv hW hn hD
  exact ⟨h1, h3⟩) hl
 exact ⟨d, u, m, rfl, (torn_dec hv hW hn hD).2.1⟩
set_option maxHeartbeats 8000000 in
theorem walk_torn (f : Fr) (m : Nat) (w : World) (hf : FitB f) (hm : m ≤ 255) : Calls Tryz.prog 8 #[f.val, .int .u8 (m : Int)] w fun e w' => e = .returned (.bool true) ∧ Below w.heap.size w w' := by
 have cA := Lib.hid (fun W => awake_any W)
 have cE := fun W => encode_own f W (fitOf hf)
 have hbox : Below w.heap.size w (w.alloc (.cells f.cells 44)) := (Below.refl _ _).alloc (Nat.le_refl _) _
 have hvB : VAt (w.alloc (.cells f.cells 44)) w.heap.size f.cells.toList := vat_alloc w _ f.cells.toList
 have hsB : w.heap.size < (w.alloc (.cells f.cells 44)).heap.size := by simp
 by_cases h0 : ckE f = 0
 ·have hv := (valid_iff f).1 h0
  have henc : ∀ S, EncQ f S → ∃ W, Word f W ∧ W.size = 52 ∧ S = M12.mkB ++ bodyC W := fun S h => by
   obtain ⟨W, h1, h2⟩ := h.1 h0
   exact ⟨W, h1, h1.size hv, h2⟩
  obtain ⟨n, hn⟩ : ∃ n : Nat, n = m % 91 := ⟨_, rfl⟩
  obtain ⟨E, hE⟩ : ∃ E : Nat, E = 852 - n := ⟨_, rfl⟩
  have n1 : (m : Int) % 91 = (n : Int) := by omega
  have n90 : n ≤ 90 := by omega
  have hone := fun (W : ByteArray) (hW : Word f W) (l : List Sg) => torn_one (l := l) hv hW n90 hE
  have e1 : (852 : Int) - (n : Int) = (E : Int) := by omega
  have e2 : (0 : Int) ≤ (E : Int) := by omega
  have e3 : (E : Int) ≤ 852 := by omega
  have e4 : E ≤ 852 := by omega
  have n2 : (n : Int) ≤ 90 := by omega
  have m8 : (m : Int) ≤ 255 := by omega
  unfold EncP at cE
  rw [h0] at cE
  replace cE := Lib.hid cE
  replace henc := Lib.hid henc
  replace hone := Lib.hid hone
  obtain ⟨WB, hWB⟩ : ∃ W, w.alloc (.cells f.cells 44) = W := ⟨_, rfl⟩
  rw [hWB] at hbox hvB hsB
  obtain ⟨Q, hQ⟩ : ∃ E, EncQ f = E := ⟨_, rfl⟩
  obtain ⟨Wd, hWd⟩ : ∃ E, Word f = E := ⟨_, rfl⟩
  rw [hQ] at cE henc
  rw [hWd] at henc hone
  have cPs := fun (c : ByteArray) (hc : c.size ≤ 1000000) (W : World) (h : ∀ l, Scan c 0 l → ∃ d u k, l = [⟨0, f, d, u, k⟩] ∧ u = (n : Int)) => piece_single c W hc (f := f) (R := fun d u k => u = (n : Int)) h
  replace cPs := Lib.hid cPs
  obtain ⟨kind, reel, sess, idx, len, data, spare, arch, pay⟩ := f
  unfold Fr.val at cE ⊢
  unfold Fr.cells at cE hvB hWB ⊢
  dsimp only at cE hvB hWB ⊢
  have rule := fun (W : World) (h : Below WB.heap.size WB W) => cells9 (hvB.below h hsB)
  replace rule := Lib.hid rule
  replace hbox := Lib.hid hbox
  obtain ⟨a0, a1, a2, a3, a4, a5, a6, a7, a8, _, _, _, _, _, _, _, _, _⟩ := rule.out WB (Below.refl _ _)
  clear hv hQ hWd hvB hsB h0 hf hn hE n90 hm
  go_enter Tryz.func8, Tryz.ntmps8
  go_wp2_with fail
  refine (cE.out _).mono ?_
  rintro e w1 ⟨S, hS, rfl, hb1⟩
  obtain ⟨W, hW, hWs, rfl⟩ := henc.out S hS
  have hSs := (enc_list hWs).1
  have hone2 := hone.out W hW
  obtain ⟨S, hSe⟩ : ∃ S, M12.mkB ++ bodyC W = S := ⟨_, rfl⟩
  rw [hSe] at hSs hone2 ⊢
  have s1 : (S.size : Int) = 852 := by omega
  have s2 : (E : Int) ≤ (S.size : Int) := by omega
  have s3 : E ≤ S.size := by omega
  have cP := fun W' => cPs.out (S.extract 0 E) (by rw [ByteArray.size_extract]; omega) W' hone2
  obtain ⟨T, hT⟩ : ∃ T, S.extract 0 E = T := ⟨_, rfl⟩
  rw [hT] at cP
  replace cP := Lib.hid cP
  have hB1 := Lib.hid hb1
  clear hS hW hWs hSe hone2 hone cPs cE henc hWB a0 a1 a2 a3 a4 a5 a6 a7 a8 hb1
  go_wp2_with fail
  refine (cP.out _).mono ?_
  rintro e w2 ⟨g, capg, d, u, k, rfl, rfl, hgl, hc14, hb2⟩
  have hB2 := chain hB1.out hb2
  have y0 := fun (W : World) (h : Below w2.heap.size w2 W) => (h.cell (p := ⟨g, 0, none⟩) hgl).trans hc14.c0
  have y1 := fun (W : World) (h : Below w2.heap.size w2 W) => (h.cell (p := ⟨g, 1, none⟩) hgl).trans hc14.c1
  have y2 := fun (W : World) (h : Below w2.heap.size w2 W) => (h.cell (p := ⟨g, 2, none⟩) hgl).trans hc14.c2
  have y3 := fun (W : World) (h : Below w2.heap.size w2 W) => (h.cell (p := ⟨g, 3, none⟩) hgl).trans hc14.c3
  have y4 := fun (W : World) (h : Below w2.heap.size w2 W) => (h.cell (p := ⟨g, 4, none⟩) hgl).trans hc14.c4
  have y5 := fun (W : World) (h : Below w2.heap.size w2 W) => (h.cell (p := ⟨g, 5, none⟩) hgl).trans hc14.c5
  have y6 := fun (W : World) (h : Below w2.heap.size w2 W) => (h.cell (p := ⟨g, 6, none⟩) hgl).trans hc14.c6
  have y7 := fun (W : World) (h : Below w2.heap.size w2 W) => (h.cell (p := ⟨g, 7, none⟩) hgl).trans hc14.c7
  have y8 := fun (W : World) (h : Below w2.heap.size w2 W) => (h.cell (p := ⟨g, 8, none⟩) hgl).trans hc14.c8
  have y9 := fun (W : World) (h : Below w2.heap.size w2 W) => (h.cell (p := ⟨g, 9, none⟩) hgl).trans hc14.c9
  have y10 := fun (W : World) (h : Below w2.heap.size w2 W) => (h.cell (p := ⟨g, 10, none⟩) hgl).trans hc14.ca
  have y11 := fun (W : World) (h : Below w2.heap.size w2 W) => (h.cell (p := ⟨g, 11, none⟩) hgl).trans hc14.cb
  have y12 := fun (W : World) (h : Below w2.heap.size w2 W) => (h.cell (p := ⟨g, 12, none⟩) hgl).trans hc14.cc
  have y13 := fun (W : World) (h : Below w2.heap.size w2 W) => (h.cell (p := ⟨g, 13, none⟩) hgl).trans hc14.cd
  have b0 := fun (W : World) (h : Below w2.heap.size w2 W) => (rule.out W (chain hB2 h)).c0
  have b1 := fun (W : World) (h : Below w2.heap.size w2 W) => (rule.out W (chain hB2 h)).c1
  have b2 := fun (W : World) (h : Below w2.heap.size w2 W) => (rule.out W (chain hB2 h)).c2
  have b3 := fun (W : World) (h : Below w2.heap.size w2 W) => (rule.out W (chain hB2 h)).c3
  have b4 := fun (W : World) (h : Below w2.heap.size w2 W) => (rule.out W (chain hB2 h)).c4
  have b5 := fun (W : World) (h : Below w2.heap.size w2 W) => (rule.out W (chain hB2 h)).c5
  have b6 := fun (W : World) (h : Below w2.heap.size w2 W) => (rule.out W (chain hB2 h)).c6
  have b7 := fun (W : World) (h : Below w2.heap.size w2 W) => (rule.out W (chain hB2 h)).c7
  have b8 := fun (W : World) (h : Below w2.heap.size w2 W) => (rule.out W (chain hB2 h)).c8
  have keep0 := Below.refl w2.heap.size w2
  have keep1 : ∀ W, Below w2.heap.size w2 W → Below w2.heap.size w2 (World.drew W) := fun W h => chainN h 1
  have hB2h := Lib.hid hB2
  clear cP hB1 hb2 hT hgl hc14 hB2
  go_wp2
  go_region_held3 (fun W => Below w2.heap.size w2 W) (first | exact keep0 | exact keep1 _ keep0 | exact chain ‹_› ‹_› | assumption) (first | (go_at_call 12; (with_reducible refine (cA.out _).mono ?_); rintro e3 w10 ⟨rfl, hb3⟩))
  have hBW : Below w2.heap.size w2 w10 := by assumption
  have hfin := Lib.hid (chain hbox.out (chain hB2h.out hBW))
  clear hBW hB2h y0 y1 y2 y3 y4 y5 y6 y7 y8 y9 y10 y11 y12 y13 b0 b1 b2 b3 b4 b5 b6 b7 b8 keep0 keep1
  go_wp2
  go_ret
  exact ⟨rfl, hfin.out⟩
 ·unfold EncP at cE
  obtain ⟨k, hk⟩ : ∃ k, ckE f = k := ⟨_, rfl⟩
  rw [hk] at cE h0
  have d1 : (k != 0) = true := bne_iff_ne.2 h0
  obtain ⟨Q, hQ⟩ : ∃ E, EncQ f = E := ⟨_, rfl⟩
  rw [hQ] at cE
  replace cE := Lib.hid cE
  obtain ⟨kind, reel, sess, idx, len, data, spare, arch, pay⟩ := f
  unfold Fr.val Fr.cells at *
  dsimp only at *
  clear hf hk h0 hQ hvB hsB hm
  go_enter Tryz.func8, Tryz.ntmps8
  go_wp2_with fail
  refine (cE.out _).mono ?_
  rintro e w1 ⟨S, hS, rfl, hb1⟩
  go_wp2_with fail
  refine (cA.out _).mono ?_
  rintro e w2 ⟨rfl, hb2⟩
  go_wp2
  go_ret
  exact ⟨rfl, chain hbox (chain hb1 hb2)⟩
end S14
end Go.Proofs.YtiodkllckcpinaaGreatDoor
