/- The contract of the landed block of layer 15. -/
import Derived.Test.YtcfoclmkhippoaaE15Own2
namespace Go.Proofs.Ytcfoclmkhippoaa.E15
set_option maxRecDepth 100000
open Go.RowKit Mem S14
open Go.Proofs.Ytcfoclmkhippoaa.G5 Go.Proofs.Ytcfoclmkhippoaa.G7
open Go.Proofs.Ytcfoclmkhippoaa.G6 (IsSl rs rs_len rs_get rs_set rs_one rs_snoc make_zeros zeros_at own_zeros info_byte u8s conv_sl)
set_option linter.unusedVariables false
set_option linter.unusedSimpArgs false

set_option maxHeartbeats 8000000 in
theorem block_own {A : Option Addr} {c n m : Nat} {hs : List Sh} {w : World} (x : R) (h : IsRaw w A n c (raws hs)) (hn : hs.length = n) (h0 : 0 < n) (hnd : (hs.map Prod.fst).Nodup) (hl : n ≤ 100) (hm : ∀ s ∈ hs, s.2.length = m) (hmm : m ≤ 1000000) :
    Calls Try.prog 45 #[.slice A n c, .int .i64 (x.toNat : Int)] w fun e w' => e = .returned (.string (str (blk (hs.map Prod.fst) (hs.map Prod.snd) m x))) ∧ Below w.heap.size w w' := by
  have hlm : (hs.map Prod.fst).length = n := by rw [List.length_map, hn]
  obtain ⟨L, hL⟩ : ∃ L : Nat → R, (fun i => lag (hs.map Prod.fst) (col (hs.map Prod.snd) i) x n) = L := ⟨_, rfl⟩
  have hLi : ∀ i, lag (hs.map Prod.fst) (col (hs.map Prod.snd) i) x n = L i := fun i => by rw [← hL]
  have hblk : blk (hs.map Prod.fst) (hs.map Prod.snd) m x = (List.range m).map L := by
    unfold blk
    rw [hlm]
    exact List.map_congr_left fun i _ => hLi i
  rw [hblk]
  have cI := interp_own x h hn hnd hl
  have hz : ∀ w1 : World, VAt (w1.alloc (.cells (madeCells #[.int .u8 0] m) 5)) w1.heap.size (fil m (fun i => bv (L i)) (.int .u8 0) 0) := fun w1 => by
    have hz := zeros_at w1 m hmm
    rw [fil_zero]
    rwa [show rs (List.replicate m 0#8) = List.replicate m (.int .u8 0) by unfold rs; rw [List.map_replicate]; rfl] at hz
  have hcl : ∀ (b1 b2 : Nat) (w1 : World), ClosQ hs x A n c b1 b2 w w1 → ∀ i, i < m → ∀ W, Below w1.heap.size w1 W → Calls Try.prog 61 #[.int .i64 (i : Int), .pointer (some ⟨b1, 0, none⟩), .pointer (some ⟨b2, 0, none⟩)] W fun e w' => e = .returned (bv (L i)) ∧ W = w' := fun b1 b2 w1 q i hi W hb => by
    obtain ⟨wl, g, q1, q2, q3, q4⟩ := q.row
    have q5 := q.bas
    rw [← hLi]
    have k1 : W.cell? ⟨b1, 0, none⟩ = some (.slice (some ⟨g, 0, none⟩) n n) := (hb.cell (p := ⟨b1, 0, none⟩) (World.block_lt_of_cell? _ _ q1)).trans q1
    have k2 : W.cell? ⟨b2, 0, none⟩ = some (.slice A n c) := (hb.cell (p := ⟨b2, 0, none⟩) (World.block_lt_of_cell? _ _ q5)).trans q5
    have hg : g < w1.heap.size := World.block_lt_of_cell? _ _ (q2 0 (by rw [rs_len]; omega)).1
    refine clos_own k1 (G6.IsSl.of_at (q2.below hb hg) q3 (by omega) (Nat.lt_of_lt_of_le hg hb.size)) q3 q4 k2 (h.below (q.below.trans (hb.mono q.below.size))) hn hl (fun s hs' => by rw [hm s hs']; exact hi) (fun s hs' => by rw [hm s hs']; exact hmm)
  obtain ⟨b, o, rfl, hb, -, hc⟩ := h.sh (k := 0) (by omega)
  have hread : ∀ w1 : World, Below w.heap.size w w1 → w1.cell? ⟨b, o + 1, none⟩ = some (.string (str ((hs.map Prod.snd).getD 0 []))) := fun w1 k => by
    rw [Nat.zero_mul, Nat.add_zero] at hc
    exact (k.cell (p := ⟨b, o + 1, none⟩) hb).trans hc
  have hsz : ((hs.map Prod.snd).getD 0 []).length = m := by
    rw [getD_map' _ _ _ (by omega)]
    exact hm _ (List.getElem_mem _)
  obtain ⟨s, hs'⟩ : ∃ s, str ((hs.map Prod.snd).getD 0 []) = s := ⟨_, rfl⟩
  have hss : s.size = m := by rw [← hs', size_str, hsz]
  rw [hs'] at hread
  obtain ⟨S, hS⟩ : ∃ S, str ((List.range m).map L) = S := ⟨_, rfl⟩
  have hconv : ∀ W g, VAt W g (fil m (fun i => bv (L i)) (.int .u8 0) m) → (convert 67 9 (.slice (some ⟨g, 0, none⟩) m m)).run Try.prog W = .ok (.string S) W := fun W g hv => by
    rw [fil_all, ← show rs ((List.range m).map L) = (List.range m).map (fun i => bv (L i)) by unfold rs; rw [List.map_map]; rfl] at hv
    have hsl : IsSl W (some ⟨g, 0, none⟩) m ((List.range m).map L) := ⟨by simp, (by omega), (fun h => by cases h), rd_at hv⟩
    have := conv_sl (P := Try.prog) (n := m) (dst := 9) Try.underlying67 Try.underlying5 Try.underlying9 hsl (by simp)
    rw [← hS]
    exact this
  have hmk := fun w1 : World => make_zeros w1 m hmm
  rw [hS]
  replace cI := Lib.hid cI
  replace hz := Lib.hid hz
  replace hcl := Lib.hid hcl
  replace hread := Lib.hid hread
  replace hconv := Lib.hid hconv
  replace hmk := Lib.hid hmk
  clear hL hLi hblk hlm hS hs' hsz hc h hm hn hnd
  go_enter Try.func45, Try.ntmps45
  go_wp2_with fail
  refine (cI.out).mono ?_
  rintro e w1 ⟨b1, b2, rfl, hq⟩
  have hb1 := Lib.hid hq.below
  have hcW := Lib.hid (hcl.out b1 b2 w1 hq)
  have r0 := hread.out w1 hb1.out
  have mk1 := hmk.out w1
  have z1 := hz.out w1
  have l1 : w1.heap.size < (w1.alloc (.cells (madeCells #[.int .u8 0] m) 5)).heap.size := by simp
  have bb : Below w1.heap.size w1 (w1.alloc (.cells (madeCells #[.int .u8 0] m) 5)) := (Below.refl _ _).alloc (Nat.le_refl _) _
  replace z1 := Lib.hid z1
  replace bb := Lib.hid bb
  replace l1 := Lib.hid l1
  clear hq hcl hread hmk cI hz
  go_wp2
  go_loopw [19] (fun iv wr => ∃ (k : Nat), iv = .int .i64 (k : Int) ∧ k ≤ m ∧ Hid (VAt wr w1.heap.size (fil m (fun i => bv (L i)) (.int .u8 0) k)) ∧ Hid (Below w1.heap.size w1 wr) ∧ Hid (w1.heap.size < wr.heap.size)) (fun iv _ => m - (intOf iv).toNat)
  case atStart => exact ⟨0, rfl, Nat.zero_le _, z1, bb, l1⟩
  case round =>
    clear z1 bb l1 mk1 r0
    obtain ⟨k, rfl, hk, hv, hbr, hlr⟩ := hrel
    by_cases hlt : k < m
    · have dk : decide ((k : Int) < (m : Int)) = true := decide_eq_true (by omega)
      have k0 : (0 : Int) ≤ (k : Int) := by omega
      have k1 : (k : Int) < (m : Int) := by omega
      have cK := Lib.hid (hcW.out k hlt wr hbr.out)
      have hv0 := (hv.out k (by rw [fil_len]; exact hlt))
      obtain ⟨u, hu⟩ : ∃ u, (fil m (fun i => bv (L i)) (Value.int .u8 0) k)[k]'(by rw [fil_len]; exact hlt) = u := ⟨_, rfl⟩
      rw [hu] at hv0
      obtain ⟨g1, g2⟩ := hv0
      have r0 : Hid (VAt (wr.setCell ⟨w1.heap.size, k, none⟩ (bv (L k))) w1.heap.size (fil m (fun i => bv (L i)) (.int .u8 0) (k + 1))) := Lib.hid (by
        rw [← fil_set (fun i => bv (L i)) (.int .u8 0) hlt]
        exact hv.out.set (by rw [fil_len]; exact hlt) _)
      have r1 : Hid (Below w1.heap.size w1 (wr.setCell ⟨w1.heap.size, k, none⟩ (bv (L k)))) := Lib.hid (hbr.out.setCell (p := ⟨w1.heap.size, k, none⟩) (Nat.le_refl _) _)
      have r2 : Hid (w1.heap.size < (wr.setCell ⟨w1.heap.size, k, none⟩ (bv (L k))).heap.size) := Lib.hid (by simpa using hlr.out)
      clear hu hv hbr hlr hconv
      go_wp2_with fail
      refine (cK.out).mono ?_
      rintro e w5 ⟨rfl, rfl⟩
      go_wp2
      go_roundw
      case rel => exact ⟨k + 1, by go_num, by omega, r0, r1, r2⟩
      case measure => simp [intOf]; omega
    · obtain rfl : k = m := by omega
      have dk : decide ((k : Int) < (k : Int)) = false := decide_eq_false (by omega)
      have cv := hconv.out wr _ hv.out
      have hfin := Lib.hid (hb1.out.trans (hbr.out.mono hb1.out.size))
      clear hconv hv hbr hlr hcW hb1
      go_wp2
      go_ret
      exact ⟨rfl, hfin.out⟩
end Go.Proofs.Ytcfoclmkhippoaa.E15
