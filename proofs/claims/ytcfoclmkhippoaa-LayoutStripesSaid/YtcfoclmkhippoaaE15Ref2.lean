/- The contract of the reference's At of layer 15. -/
import Derived.Test.YtcfoclmkhippoaaE15Ref1
import Derived.Test.YtcfoclmkhippoaaE15Kg
namespace Go.Proofs.Ytcfoclmkhippoaa.E15
set_option maxRecDepth 100000
open Go.RowKit Mem S14
open Go.Proofs.Ytcfoclmkhippoaa.G5 Go.Proofs.Ytcfoclmkhippoaa.G7
open Go.Proofs.Ytcfoclmkhippoaa.G6 (IsSl rs rs_len rs_get rs_set rs_one rs_snoc make_zeros zeros_at own_zeros info_byte u8s conv_sl)
set_option linter.unusedVariables false
set_option linter.unusedSimpArgs false

/-- A row in which the first j entries are new. -/
def mix (m : Nat) (f g : Nat → R) (j : Nat) : List R := (List.range m).map fun i => if i < j then f i else g i
theorem mix_len (m : Nat) (f g : Nat → R) (j : Nat) : (mix m f g j).length = m := by simp [mix]
theorem mix_zero (m : Nat) (f g : Nat → R) : mix m f g 0 = (List.range m).map g := by simp [mix]
theorem mix_all (m : Nat) (f g : Nat → R) : mix m f g m = (List.range m).map f := by
  refine List.map_congr_left fun i hi => ?_
  rw [if_pos (List.mem_range.1 hi)]
theorem mix_get {m : Nat} (f g : Nat → R) {j : Nat} (hj : j < m) : (mix m f g j).getD j 0 = g j := by
  simp [mix, List.getD_eq_getElem?_getD, hj]
theorem mix_set {m : Nat} (f g : Nat → R) {j : Nat} (hj : j < m) : (mix m f g j).set j (f j) = mix m f g (j + 1) := by
  refine List.ext_getElem (by simp [mix]) fun i h1 h2 => ?_
  rw [List.getElem_set]
  by_cases e : j = i
  · subst e
    simp [mix]
  · rw [if_neg e]
    simp only [mix, List.getElem_map, List.getElem_range]
    by_cases h : i < j
    · rw [if_pos h, if_pos (by omega)]
    · rw [if_neg h, if_neg (by omega)]
theorem IsSl.far {w W : World} {A : Option Addr} {c : Nat} {l : List R} (h : IsSl w A c l) (hb : Below w.heap.size w W) : IsSl W A c l := h.below hb
set_option maxHeartbeats 8000000 in
theorem at_any {A B : Option Addr} {c c2 n m : Nat} {xl : List R} {bl : List (List R)} {w : World} (x : R) (h : IsSl w A c xl) (hn : xl.length = n) (h2 : IsBs w B n c2 bl) (h0 : 0 < n) (hl : n ≤ 1000) (hnd : xl.Nodup) (hm : ∀ b ∈ bl, b.length = m) (hmm : m ≤ 1000000) :
    Calls Try.prog 40 #[.slice A n c, .slice B n c2, bv x] w fun e w' => e = .returned (.string (str (blk xl bl m x))) ∧ Below w.heap.size w w' := by
  have hbn := h2.len
  obtain ⟨L, hL⟩ : ∃ L : Nat → Nat → R, (fun i k => lag xl (col bl i) x k) = L := ⟨_, rfl⟩
  have hLi : ∀ i k, lag xl (col bl i) x k = L i k := fun i k => by rw [← hL]
  have hblk : blk xl bl m x = (List.range m).map fun i => L i n := by
    unfold blk
    rw [hn]
    exact List.map_congr_left fun i _ => hLi i n
  have hL0 : ∀ i, L i 0 = 0 := fun i => by rw [← hLi]; rfl
  have hLs : ∀ i k, L i (k + 1) = L i k ^^^ tms (wgt xl k x n) ((bl.getD k []).getD i 0) := fun i k => by
    rw [← hLi, ← hLi]
    show _ ^^^ tms (wgt xl k x xl.length) ((col bl i).getD k 0) = _
    rw [hn, col_get]
  rw [hblk]
  have hgb := fun (k : Nat) (hk : k < n) => h2.get (k := k) (by omega)
  have hbe : ∀ k (hk : k < n), bl.getD k [] = bl[k]'(by omega) := fun k hk => by simp [List.getD_eq_getElem?_getD, show k < bl.length by omega]
  have hbl : ∀ k (hk : k < n), (bl.getD k []).length = m := fun k hk => by rw [hbe k hk]; exact hm _ (List.getElem_mem _)
  have cW := fun (k : Nat) (hk : k < n) (W : World) (hb : Below w.heap.size w W) => weight_any (K := k) x (h.below hb) hn hl hk hnd
  have hmk := make_zeros w m hmm
  have hz := zeros_at w m hmm
  rw [show List.replicate m (0#8) = (List.range m).map fun i => L i 0 by
    rw [show (fun i => L i 0) = fun _ => (0 : R) from funext hL0]
    simp [List.map_const']] at hz
  have hb0 : Below w.heap.size w (w.alloc (.cells (madeCells #[.int .u8 0] m) 5)) := (Below.refl _ _).alloc (Nat.le_refl _) _
  have hs0 : w.heap.size < (w.alloc (.cells (madeCells #[.int .u8 0] m) 5)).heap.size := by simp
  obtain ⟨b, o, rfl, hbb, g0⟩ := hgb 0 h0
  rw [← hbe 0 h0, Nat.add_zero] at g0
  have hsz0 : (str (bl.getD 0 [])).size = m := by rw [size_str, hbl 0 h0]
  obtain ⟨S0, hS0⟩ : ∃ S, str (bl.getD 0 []) = S := ⟨_, rfl⟩
  rw [hS0] at g0 hsz0
  obtain ⟨RS, hRS⟩ : ∃ S, str ((List.range m).map fun i => L i n) = S := ⟨_, rfl⟩
  have hconv : ∀ W g, VAt W g (rs ((List.range m).map fun i => L i n)) → (convert 67 9 (.slice (some ⟨g, 0, none⟩) m m)).run Try.prog W = .ok (.string RS) W := fun W g hv => by
    have hsl : IsSl W (some ⟨g, 0, none⟩) m ((List.range m).map fun i => L i n) := ⟨by simp, (by omega), (fun h => by cases h), rd_at hv⟩
    have := conv_sl (P := Try.prog) (n := m) (dst := 9) Try.underlying67 Try.underlying5 Try.underlying9 hsl (by simp)
    rw [← hRS]
    exact this
  rw [hRS]
  have n0 : ((n : Int) == 0) = false := beq_eq_false_iff_ne.2 (by omega)
  have n1 : (0 : Int) < (n : Int) := by omega
  replace hLs := Lib.hid hLs
  replace hgb := Lib.hid hgb
  replace hbe := Lib.hid hbe
  replace hbl := Lib.hid hbl
  replace cW := Lib.hid cW
  replace hz := Lib.hid hz
  replace hb0 := Lib.hid hb0
  replace hs0 := Lib.hid hs0
  replace hconv := Lib.hid hconv
  clear hL hLi hblk hL0 h h2 hnd hm hn hS0 hRS
  go_enter Try.func40, Try.ntmps40
  go_wp2
  go_loopw [8] (fun iv wr => ∃ (k : Nat), iv = .int .i64 (k : Int) ∧ k ≤ n ∧ Hid (VAt wr w.heap.size (rs ((List.range m).map fun i => L i k))) ∧ Hid (Below w.heap.size w wr) ∧ Hid (w.heap.size < wr.heap.size)) (fun iv _ => n - (intOf iv).toNat)
  case atStart => exact ⟨0, rfl, Nat.zero_le _, hz, hb0, hs0⟩
  case round =>
    clear hz hb0 hs0 hmk g0
    obtain ⟨k, rfl, hk, hv, hb, hs⟩ := hrel
    by_cases hlt : k < n
    · have dk : decide ((k : Int) < (n : Int)) = true := decide_eq_true (by omega)
      have k0 : (0 : Int) ≤ (k : Int) := by omega
      have k1 : (k : Int) < (n : Int) := by omega
      have cK := cW.out k hlt wr hb.out
      obtain ⟨b1, o1, e1, hb1, gk⟩ := hgb.out k hlt
      cases e1
      rw [← hbe.out k hlt] at gk
      have hlk := hbl.out k hlt
      have hLk := fun i => hLs.out i k
      obtain ⟨Wk, hWk⟩ : ∃ W, wgt xl k x n = W := ⟨_, rfl⟩
      simp only [hWk] at hLk cK
      obtain ⟨Bk, hBk⟩ : ∃ B, bl.getD k [] = B := ⟨_, rfl⟩
      rw [hBk] at gk hlk
      simp only [hBk] at hLk
      obtain ⟨S, hS⟩ : ∃ S, str Bk = S := ⟨_, rfl⟩
      have hel : el S = Bk := by rw [← hS, el_str]
      have hsz : S.size = m := by rw [← hS, size_str, hlk]
      rw [hS] at gk
      have hLk := Lib.hid hLk
      have hel := Lib.hid hel
      replace cK := Lib.hid cK
      have hmx : Hid (VAt wr w.heap.size (rs (mix m (fun i => L i (k + 1)) (fun i => L i k) 0))) := Lib.hid (by rw [mix_zero]; exact hv.out)
      clear hWk hBk hS hv hgb hbe hbl hLs hlk hconv
      go_wp2_with fail
      refine (cK.out).mono ?_
      rintro e w1 ⟨rfl, q1, rfl⟩
      have hmx : Hid (VAt (wr.drewN q1) w.heap.size (rs (mix m (fun i => L i (k + 1)) (fun i => L i k) 0))) := Lib.hid (hmx.out.drewN q1)
      have hb2 : Hid (Below w.heap.size w (wr.drewN q1)) := Lib.hid (chainB hb.out q1)
      have hs2 : Hid (w.heap.size < (wr.drewN q1).heap.size) := hs
      obtain ⟨w1, hw1⟩ : ∃ W, wr.drewN q1 = W := ⟨_, rfl⟩
      rw [hw1] at hmx hb2 hs2 ⊢
      clear hw1 hb hs cK
      go_wp2
      go_loopw [10] (fun jv wi => ∃ (j : Nat), jv = .int .i64 (j : Int) ∧ j ≤ m ∧ Hid (VAt wi w.heap.size (rs (mix m (fun i => L i (k + 1)) (fun i => L i k) j))) ∧ Hid (Below w.heap.size w wi) ∧ Hid (w.heap.size < wi.heap.size)) (fun jv _ => m - (intOf jv).toNat)
      case atStart => exact ⟨0, rfl, Nat.zero_le _, hmx, hb2, hs2⟩
      case round =>
        clear hmx hb2 hs2
        obtain ⟨j, rfl, hj, hv, hb, hs⟩ := hrel
        by_cases hjt : j < m
        · have dj : decide ((j : Int) < (m : Int)) = true := decide_eq_true (by omega)
          have j0 : (0 : Int) ≤ (j : Int) := by omega
          have j1 : (j : Int) < (m : Int) := by omega
          have hgetz := G6.VAt.readR hv.out (k := j) (by rw [mix_len]; exact hjt)
          rw [mix_get _ _ hjt] at hgetz
          have hset := G6.VAt.setR hv.out (k := j) (by rw [mix_len]; exact hjt) (L j (k + 1))
          rw [mix_set (fun i => L i (k + 1)) (fun i => L i k) hjt] at hset
          have hLj := hLk.out j
          have hby := byte_val S j (by omega) (Bk.getD j 0) (by rw [hel.out])
          have g1 := (hb.out.cell (p := ⟨b, o + k, none⟩) hb1).trans gk
          obtain ⟨Y, hY⟩ : ∃ Y, Bk.getD j 0 = Y := ⟨_, rfl⟩
          rw [hY] at hLj hby
          obtain ⟨Z, hZ⟩ : ∃ Z, L j k = Z := ⟨_, rfl⟩
          rw [hZ] at hLj hgetz
          obtain ⟨z1, z2⟩ := hgetz
          have cT := fun W => (rtimes_any Wk Y W).mono fun _ _ ⟨a, b⟩ => And.intro a b.symm
          obtain ⟨T, hT⟩ : ∃ T, tms Wk Y = T := ⟨_, rfl⟩
          rw [hT] at hLj
          simp only [hT] at cT
          have hx := bxr Z T
          rw [← hLj] at hx
          obtain ⟨U, hU⟩ : ∃ U, L j (k + 1) = U := ⟨_, rfl⟩
          rw [hU] at hx hset
          replace cT := Lib.hid cT
          have r0 : Hid (VAt (wr.setCell ⟨w.heap.size, j, none⟩ (bv U)).drew w.heap.size (rs (mix m (fun i => L i (k + 1)) (fun i => L i k) (j + 1)))) := Lib.hid hset.drew
          have r1 : Hid (Below w.heap.size w (wr.setCell ⟨w.heap.size, j, none⟩ (bv U)).drew) := Lib.hid (chainB (hb.out.setCell (p := ⟨w.heap.size, j, none⟩) (Nat.le_refl _) _) 1)
          have r2 : Hid (w.heap.size < (wr.setCell ⟨w.heap.size, j, none⟩ (bv U)).drew.heap.size) := Lib.hid (by simpa using hs.out)
          clear hv hb hs hset hLj hY hZ hT hU hLk hel
          go_wp2_with fail
          refine wp_region_still_tail 16 (by kernel_rfl) (by kernel_rfl) ?_
          simp only [List.take_succ_cons, List.take_zero, List.drop_succ_cons, List.drop_zero]
          repeat still_step
          still_call (cT.out _)
          repeat still_step
          refine wpStill_nil ?_
          change wpList _ _ _ _ _ wr.drew
          go_wp2
          go_roundw
          case rel => exact ⟨j + 1, by go_num, by omega, r0, r1, r2⟩
          case measure => simp [intOf]; omega
        · obtain rfl : j = m := by omega
          have dj : decide ((j : Int) < (j : Int)) = false := decide_eq_false (by omega)
          have hv2 : Hid (VAt wr w.heap.size (rs ((List.range j).map fun i => L i (k + 1)))) := Lib.hid (by rw [← mix_all j _ (fun i => L i k)]; exact hv.out)
          clear hv hLk hel gk
          go_wp2
          go_roundw
          case rel => exact ⟨k + 1, by go_num, by omega, hv2, hb, hs⟩
          case measure => simp [intOf]; omega
    · obtain rfl : k = n := by omega
      have dk : decide ((k : Int) < (k : Int)) = false := decide_eq_false (by omega)
      have cv := hconv.out wr _ hv.out
      have hfin := hb
      clear hconv hv hb hs cW hgb hbe hbl hLs
      go_wp2
      go_ret
      exact ⟨rfl, hfin.out⟩
end Go.Proofs.Ytcfoclmkhippoaa.E15
