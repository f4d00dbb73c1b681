/- The contracts of the landed sharesOf and blocks of layer 15. -/
import Derived.Test.YtcfoclmkhippoaaE15Own3
import Derived.Test.YtcfoclmkhippoaaE15Mk
import Derived.Test.YtcfoclmkhippoaaE15Con
namespace Go.Proofs.Ytcfoclmkhippoaa.E15
set_option maxRecDepth 100000
open Go.RowKit Mem S14
open Go.Proofs.Ytcfoclmkhippoaa.G5 Go.Proofs.Ytcfoclmkhippoaa.G7
open Go.Proofs.Ytcfoclmkhippoaa.G6 (IsSl rs rs_len rs_get rs_set rs_one rs_snoc make_zeros zeros_at own_zeros info_byte u8s conv_sl)
set_option linter.unusedVariables false
set_option linter.unusedSimpArgs false

set_option maxHeartbeats 4000000 in
theorem shof_own {A : Option Addr} {c n : Nat} {D : List (List R)} {w : World} (h : IsBs w A n c D) (hl : n ≤ 100) :
    Calls Try.prog 52 #[.slice A n c] w fun e w' => e = .returned (.slice (some ⟨w.heap.size, 0, none⟩) n n) ∧ IsRaw w' (some ⟨w.heap.size, 0, none⟩) n n (raws (shD D)) ∧ Below w.heap.size w w' := by
  have hlen := h.len
  rw [shD_raws (by omega), hlen]
  obtain ⟨W, hmk, hv0, hb0, hs0⟩ := make_shares w n (by omega)
  rw [← fil_zero n (fun (i : Nat) => ((i : Int), D.getD i [])) (0, [])] at hv0
  have hget := fun (k : Nat) (hk : k < D.length) => h.get hk
  have hend : ∀ W, VAt W w.heap.size (rw_ (fil n (fun (i : Nat) => ((i : Int), D.getD i [])) (0, []) n)) → IsRaw W (some ⟨w.heap.size, 0, none⟩) n n ((List.range n).map fun (i : Nat) => ((i : Int), D.getD i [])) := fun W hv => by
    rw [fil_all] at hv
    exact IsRaw.of_at hv (by simp) (Nat.le_refl _) (by unfold maxLen; omega)
  replace hget := Lib.hid hget
  replace hlen := Lib.hid hlen
  replace hend := Lib.hid hend
  replace hv0 := Lib.hid hv0
  replace hb0 := Lib.hid hb0
  replace hs0 := Lib.hid hs0
  clear h
  go_enter Try.func52, Try.ntmps52
  go_wp2
  go_loopw [10] (fun iv wr => ∃ (k : Nat), iv = .int .i64 (k : Int) ∧ k ≤ n ∧ Hid (VAt wr w.heap.size (rw_ (fil n (fun (i : Nat) => ((i : Int), D.getD i [])) (0, []) k))) ∧ Hid (Below w.heap.size w wr) ∧ Hid (w.heap.size < wr.heap.size)) (fun iv _ => n - (intOf iv).toNat)
  case atStart => exact ⟨0, rfl, Nat.zero_le _, hv0, hb0, hs0⟩
  case round =>
    clear hv0 hb0 hs0 hmk
    obtain ⟨k, rfl, hk, hv, hb, hs⟩ := hrel
    by_cases hlt : k < n
    · have dk : decide ((k : Int) < (n : Int)) = true := decide_eq_true (by omega)
      have k0 : (0 : Int) ≤ (k : Int) := by omega
      have k1 : (k : Int) < (n : Int) := by omega
      have hkl : k < D.length := by have := hlen.out; omega
      obtain ⟨b, o, rfl, hbl, hc⟩ := hget.out k hkl
      have hc := (hb.out.cell (p := ⟨b, o + k, none⟩) hbl).trans hc
      have e1 : D.getD k [] = D[k] := by simp [List.getD_eq_getElem?_getD, hkl]
      have hset := rw_set (fil n (fun (i : Nat) => ((i : Int), D.getD i [])) (0, []) k) k (k : Int) (D.getD k []) (by rw [fil_len]; exact hlt)
      have hfs := fil_set (fun (i : Nat) => ((i : Int), D.getD i [])) ((0, []) : Rw) hlt
      rw [hfs] at hset
      have hL : (rw_ (fil n (fun (i : Nat) => ((i : Int), D.getD i [])) (0, []) k)).length = n * 2 := by rw [rw_len, fil_len]
      have v0 := hv.out (k * 2) (by omega)
      have v1 := hv.out (k * 2 + 1) (by omega)
      obtain ⟨u0, hu0⟩ : ∃ u, (rw_ (fil n (fun (i : Nat) => ((i : Int), D.getD i [])) (0, []) k))[k * 2]'(by omega) = u := ⟨_, rfl⟩
      obtain ⟨u1, hu1⟩ : ∃ u, (rw_ (fil n (fun (i : Nat) => ((i : Int), D.getD i [])) (0, []) k))[k * 2 + 1]'(by omega) = u := ⟨_, rfl⟩
      rw [hu0] at v0
      rw [hu1] at v1
      obtain ⟨v0, f0⟩ := v0
      obtain ⟨v1, f1⟩ := v1
      obtain ⟨S, hS⟩ : ∃ S, str D[k] = S := ⟨_, rfl⟩
      rw [hS] at hc
      rw [e1, hS] at hset
      have r0 : Hid (VAt ((wr.setCell ⟨w.heap.size, k * 2, none⟩ (.int .i64 (k : Int))).setCell ⟨w.heap.size, k * 2 + 1, none⟩ (.string S)) w.heap.size (rw_ (fil n (fun (i : Nat) => ((i : Int), D.getD i [])) (0, []) (k + 1)))) := Lib.hid (by
        rw [← hset]
        exact (hv.out.set (by omega) _).set (by rw [List.length_set]; omega) _)
      have r1 : Hid (Below w.heap.size w ((wr.setCell ⟨w.heap.size, k * 2, none⟩ (.int .i64 (k : Int))).setCell ⟨w.heap.size, k * 2 + 1, none⟩ (.string S))) := Lib.hid ((hb.out.setCell (p := ⟨w.heap.size, k * 2, none⟩) (Nat.le_refl _) _).setCell (p := ⟨w.heap.size, k * 2 + 1, none⟩) (Nat.le_refl _) _)
      have r2 : Hid (w.heap.size < ((wr.setCell ⟨w.heap.size, k * 2, none⟩ (.int .i64 (k : Int))).setCell ⟨w.heap.size, k * 2 + 1, none⟩ (.string S)).heap.size) := Lib.hid (by simpa using hs.out)
      clear hv hb hs hset hfs hL hu0 hu1 hS e1 hget hend hbl
      go_wp2
      go_roundw
      case rel => exact ⟨k + 1, by go_num, by omega, r0, r1, r2⟩
      case measure => simp [intOf]; omega
    · obtain rfl : k = n := by omega
      have dk : decide ((k : Int) < (k : Int)) = false := decide_eq_false (by omega)
      have hfin := Lib.hid (hend.out _ hv.out)
      clear hget hend hv hs
      go_wp2
      go_ret
      exact ⟨rfl, hfin.out, hb.out⟩
set_option maxHeartbeats 4000000 in
theorem blocks_own {A : Option Addr} {c n m F N : Nat} {hs : List Sh} {w : World} (h : IsRaw w A n c (raws hs)) (hn : hs.length = n) (h0 : 0 < n) (hnd : (hs.map Prod.fst).Nodup) (hl : n ≤ 100) (hm : ∀ s ∈ hs, s.2.length = m) (hmm : m ≤ 1000000) (hF : F + N ≤ 256) :
    Calls Try.prog 30 #[.slice A n c, .int .i64 (F : Int), .int .i64 (N : Int)] w fun e w' => e = .returned (.slice (some ⟨w.heap.size, 0, none⟩) N N) ∧ IsBs w' (some ⟨w.heap.size, 0, none⟩) N N ((List.range N).map fun i => blk (hs.map Prod.fst) (hs.map Prod.snd) m (pt (F + i))) ∧ Below w.heap.size w w' := by
  obtain ⟨W, hmk, hv0, hb0, hs0⟩ := make_strs w N (by omega)
  obtain ⟨B, hB⟩ : ∃ B : Nat → List R, (fun i => blk (hs.map Prod.fst) (hs.map Prod.snd) m (pt (F + i))) = B := ⟨_, rfl⟩
  rw [hB]
  have hBi : ∀ i, blk (hs.map Prod.fst) (hs.map Prod.snd) m (pt (F + i)) = B i := fun i => by rw [← hB]
  rw [← fil_zero N B []] at hv0
  have cB : ∀ i, i < N → ∀ W, Below w.heap.size w W → Calls Try.prog 45 #[.slice A n c, .int .i64 ((F + i : Nat) : Int)] W fun e w' => e = .returned (.string (str (B i))) ∧ Below W.heap.size W w' := fun i hi W hb => by
    have := block_own (pt (F + i)) (h.below hb) hn h0 hnd hl hm hmm
    rw [pt_val (by omega), hBi] at this
    exact this
  have hend : ∀ W, VAt W w.heap.size (bs (fil N B [] N)) → IsBs W (some ⟨w.heap.size, 0, none⟩) N N ((List.range N).map B) := fun W hv => by
    rw [fil_all] at hv
    exact IsBs.of_at hv (by simp) (Nat.le_refl _) (by unfold maxLen; omega)
  replace cB := Lib.hid cB
  replace hend := Lib.hid hend
  replace hv0 := Lib.hid hv0
  replace hb0 := Lib.hid hb0
  replace hs0 := Lib.hid hs0
  clear h hB hBi hnd hm hn
  go_enter Try.func30, Try.ntmps30
  go_wp2
  go_loopw [13] (fun iv wr => ∃ (k : Nat), iv = .int .i64 (k : Int) ∧ k ≤ N ∧ Hid (VAt wr w.heap.size (bs (fil N B [] k))) ∧ Hid (Below w.heap.size w wr) ∧ Hid (w.heap.size < wr.heap.size)) (fun iv _ => N - (intOf iv).toNat)
  case atStart => exact ⟨0, rfl, Nat.zero_le _, hv0, hb0, hs0⟩
  case round =>
    clear hv0 hb0 hs0 hmk
    obtain ⟨k, rfl, hk, hv, hb, hs'⟩ := hrel
    by_cases hlt : k < N
    · have dk : decide ((k : Int) < (N : Int)) = true := decide_eq_true (by omega)
      have k0 : (0 : Int) ≤ (k : Int) := by omega
      have k1 : (k : Int) < (N : Int) := by omega
      have cK := cB.out k hlt wr hb.out
      obtain ⟨I, hI⟩ : ∃ I, F + k = I := ⟨_, rfl⟩
      rw [hI] at cK
      have eI : (F : Int) + (k : Int) = (I : Int) := by omega
      have hI2 : I ≤ 256 := by omega
      replace cK := Lib.hid cK
      obtain ⟨S, hS⟩ : ∃ S, str (B k) = S := ⟨_, rfl⟩
      rw [hS] at cK
      clear hI
      go_wp2_with fail
      refine (cK.out).mono ?_
      rintro e w5 ⟨rfl, hb5⟩
      have hL : (bs (fil N B [] k)).length = N := by rw [bs_len, fil_len]
      have hv5 := hv.out.below hb5 hs'.out
      have v0 := hv5 k (by omega)
      obtain ⟨u0, hu0⟩ : ∃ u, (bs (fil N B [] k))[k]'(by omega) = u := ⟨_, rfl⟩
      rw [hu0] at v0
      obtain ⟨v0, f0⟩ := v0
      have r0 : Hid (VAt (w5.setCell ⟨w.heap.size, k, none⟩ (.string S)) w.heap.size (bs (fil N B [] (k + 1)))) := Lib.hid (by
        rw [← fil_set B [] hlt, ← bs_set, hS]
        exact hv5.set (by omega) _)
      have r1 : Hid (Below w.heap.size w (w5.setCell ⟨w.heap.size, k, none⟩ (.string S))) := Lib.hid ((hb.out.trans (hb5.mono hb.out.size)).setCell (p := ⟨w.heap.size, k, none⟩) (Nat.le_refl _) _)
      have r2 : Hid (w.heap.size < (w5.setCell ⟨w.heap.size, k, none⟩ (.string S)).heap.size) := Lib.hid (by have := hb5.size; have := hs'.out; simp; omega)
      clear hv hb hs' hL hu0 hS hend hv5 hb5 cK cB
      go_wp2
      go_roundw
      case rel => exact ⟨k + 1, by go_num, by omega, r0, r1, r2⟩
      case measure => simp [intOf]; omega
    · obtain rfl : k = N := by omega
      have dk : decide ((k : Int) < (k : Int)) = false := decide_eq_false (by omega)
      have hfin := Lib.hid (hend.out _ hv.out)
      clear cB hend hv hs'
      go_wp2
      go_ret
      exact ⟨rfl, hfin.out, hb.out⟩
end Go.Proofs.Ytcfoclmkhippoaa.E15
