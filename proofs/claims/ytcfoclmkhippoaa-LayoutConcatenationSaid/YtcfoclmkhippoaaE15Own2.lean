/- The contracts of the landed interpolation of layer 15 and of the closure that it hands back. -/
import Derived.Test.YtcfoclmkhippoaaE15Own1
import Derived.Test.YtcfoclmkhippoaaE15Kg
import Derived.Deep.RegionHeld3
namespace Go.Proofs.Ytcfoclmkhippoaa.E15
set_option maxRecDepth 100000
open Go.RowKit Mem S14
open Go.Proofs.Ytcfoclmkhippoaa.G5 Go.Proofs.Ytcfoclmkhippoaa.G7
open Go.Proofs.Ytcfoclmkhippoaa.G6 (IsSl rs rs_len rs_get rs_set rs_one rs_snoc make_zeros zeros_at own_zeros info_byte u8s conv_sl)
set_option linter.unusedVariables false
set_option linter.unusedSimpArgs false

set_option maxHeartbeats 4000000 in
/-- The closure's value at an offset. -/
theorem clos_own {A1 A2 : Option Addr} {c1 c2 n b1 b2 off : Nat} {hs : List Sh} {wl : List R} {x : R} {w : World} (h1 : w.cell? ⟨b1, 0, none⟩ = some (.slice A1 n c1)) (r1 : IsSl w A1 c1 wl) (hwl : wl.length = n) (hw : ∀ k, k < n → wl.getD k 0 = wgt (hs.map Prod.fst) k x n)
    (h2 : w.cell? ⟨b2, 0, none⟩ = some (.slice A2 n c2)) (r2 : IsRaw w A2 n c2 (raws hs)) (hn : hs.length = n) (hl : n ≤ 100) (hoff : ∀ s ∈ hs, off < s.2.length) (hol : ∀ s ∈ hs, s.2.length ≤ 1000000) :
    Calls Try.prog 61 #[.int .i64 (off : Int), .pointer (some ⟨b1, 0, none⟩), .pointer (some ⟨b2, 0, none⟩)] w fun e w' => e = .returned (bv (lag (hs.map Prod.fst) (col (hs.map Prod.snd) off) x n)) ∧ w = w' := by
  have hget := fun (k : Nat) (hk : k < n) => r2.sh (k := k) (by omega)
  have hgw := fun (k : Nat) (hk : k < n) => r1.read k (by omega)
  have hstep : ∀ k, k < n → lag (hs.map Prod.fst) (col (hs.map Prod.snd) off) x (k + 1) = lag (hs.map Prod.fst) (col (hs.map Prod.snd) off) x k ^^^ tms (wl.getD k 0) (((hs.map Prod.snd).getD k []).getD off 0) := fun k hk => by
    show _ ^^^ tms (wgt (hs.map Prod.fst) k x (hs.map Prod.fst).length) ((col (hs.map Prod.snd) off).getD k 0) = _
    rw [List.length_map, hn, hw k hk, col_get]
  have hofs : ∀ k, k < n → off < ((hs.map Prod.snd).getD k []).length ∧ ((hs.map Prod.snd).getD k []).length ≤ 1000000 := fun k hk => by
    rw [getD_map' _ _ _ (by omega)]
    exact ⟨hoff _ (List.getElem_mem _), hol _ (List.getElem_mem _)⟩
  obtain ⟨L, hL⟩ : ∃ L, lag (hs.map Prod.fst) (col (hs.map Prod.snd) off) x = L := ⟨_, rfl⟩
  have hL0 : L 0 = 0 := by rw [← hL]; rfl
  rw [hL] at hstep ⊢
  replace hget := Lib.hid hget
  replace hgw := Lib.hid hgw
  replace hstep := Lib.hid hstep
  replace hofs := Lib.hid hofs
  replace hL0 := Lib.hid hL0
  clear hL hw r1 r2 hoff hol hwl hn
  go_enter Try.func61, Try.ntmps61
  go_wp2
  go_loop [5, 10] (fun sv iv => ∃ (k : Nat) (S : R), iv = .int .i64 (k : Int) ∧ k ≤ n ∧ sv = bv S ∧ Hid (S = L k)) (fun _ iv => n - (intOf iv).toNat)
  case atStart => exact ⟨0, 0, rfl, Nat.zero_le _, rfl, Lib.hid hL0.out.symm⟩
  case round =>
    obtain ⟨k, S, rfl, hk, rfl, hS⟩ := hrel
    by_cases hlt : k < n
    · have dk : decide ((k : Int) < (n : Int)) = true := decide_eq_true (by omega)
      have k0 : (0 : Int) ≤ (k : Int) := by omega
      have k1 : (k : Int) < (n : Int) := by omega
      obtain ⟨a1, o1, rfl, _, g1⟩ := hgw.out k hlt
      obtain ⟨a2, o2, rfl, _, -, g2⟩ := hget.out k hlt
      obtain ⟨f1, f2⟩ := hofs.out k hlt
      have hst := hstep.out k hlt
      obtain ⟨C, hC⟩ : ∃ C, wl.getD k 0 = C := ⟨_, rfl⟩
      rw [hC] at g1 hst
      obtain ⟨bl, hbl⟩ : ∃ bl, (hs.map Prod.snd).getD k [] = bl := ⟨_, rfl⟩
      rw [hbl] at g2 hst f1 f2
      obtain ⟨Y, hY⟩ : ∃ Y, bl.getD off 0 = Y := ⟨_, rfl⟩
      obtain ⟨s, hs'⟩ : ∃ s, str bl = s := ⟨_, rfl⟩
      have hel : el s = bl := by rw [← hs', el_str]
      have hsz : s.size = bl.length := by rw [← hs', size_str]
      rw [hs'] at g2
      rw [← hsz] at f1 f2
      have hby := byte_val s off f1 Y (by rw [hel]; exact hY)
      rw [hY, ← hS.out] at hst
      have cM := mul_own C Y w
      obtain ⟨T, hT⟩ : ∃ T, tms C Y = T := ⟨_, rfl⟩
      rw [hT] at hst cM
      have cA := add_own S T w
      obtain ⟨U, hU⟩ : ∃ U, S ^^^ T = U := ⟨_, rfl⟩
      rw [hU] at hst cA
      have i0 : (0 : Int) ≤ (off : Int) := by omega
      have i1' : (off : Int) < (s.size : Int) := by omega
      replace hst := Lib.hid hst.symm
      replace cM := Lib.hid cM
      replace cA := Lib.hid cA
      clear hC hbl hY hs' hel hsz hT hU hgw hget hofs hstep
      go_wp2_with fail
      refine (cM.out).mono ?_
      rintro e w1 ⟨rfl, rfl⟩
      go_wp2_with fail
      refine (cA.out).mono ?_
      rintro e w1 ⟨rfl, rfl⟩
      go_wp2
      go_round
      case rel => exact ⟨k + 1, U, by go_num, by omega, rfl, hst⟩
      case measure => simp [intOf]; omega
    · obtain rfl : k = n := by omega
      have dk : decide ((k : Int) < (k : Int)) = false := decide_eq_false (by omega)
      have hfin := hS
      clear hgw hget hofs hstep
      go_wp2
      go_ret
      exact ⟨by rw [hfin.out]; rfl, rfl⟩
/-- What the function that hands back the closure is told. -/
structure ClosQ (hs : List Sh) (x : R) (A : Option Addr) (n c b1 b2 : Nat) (w w' : World) : Prop where
  below : Below w.heap.size w w'
  lo1 : w.heap.size ≤ b1
  lo2 : w.heap.size ≤ b2
  row : ∃ wl g, w'.cell? ⟨b1, 0, none⟩ = some (.slice (some ⟨g, 0, none⟩) n n) ∧ VAt w' g (rs wl) ∧ wl.length = n ∧ ∀ k, k < n → wl.getD k 0 = wgt (hs.map Prod.fst) k x n
  bas : w'.cell? ⟨b2, 0, none⟩ = some (.slice A n c)
set_option maxHeartbeats 8000000 in
theorem interp_own {A : Option Addr} {c n : Nat} {hs : List Sh} {w : World} (x : R) (h : IsRaw w A n c (raws hs)) (hn : hs.length = n) (hnd : (hs.map Prod.fst).Nodup) (hl : n ≤ 100) :
    Calls Try.prog 56 #[.slice A n c, .int .i64 (x.toNat : Int)] w fun e w' => ∃ b1 b2, e = .returned (.func (.func 61) #[] #[.pointer (some ⟨b1, 0, none⟩), .pointer (some ⟨b2, 0, none⟩)]) ∧ ClosQ hs x A n c b1 b2 w w' := by
  have hgoal : ∀ b1 b2 w', ClosQ hs x A n c b1 b2 w w' → ∃ b1' b2', Ending.returned (.func (.func 61) #[] #[.pointer (some ⟨b1, 0, none⟩), .pointer (some ⟨b2, 0, none⟩)]) = .returned (.func (.func 61) #[] #[.pointer (some ⟨b1', 0, none⟩), .pointer (some ⟨b2', 0, none⟩)]) ∧ ClosQ hs x A n c b1' b2' w w' := fun b1 b2 w' h => ⟨b1, b2, rfl, h⟩
  have hmk := make_zeros (w.alloc (.cells #[.slice A n c] 44)) n (by omega)
  have hz := zeros_at (w.alloc (.cells #[.slice A n c] 44)) n (by omega)
  have hlm : (hs.map Prod.fst).length = n := by rw [List.length_map, hn]
  have hcf := fun (k : Nat) (hk : k < n) (W : World) (h' : IsRaw W A n c (raws hs)) => coef_own (K := k) x (hn ▸ h') (by omega) hnd (by omega)
  rw [hlm] at hcf
  simp only [hn] at hcf
  obtain ⟨F, hF⟩ : ∃ F : Nat → R, (fun k => wgt (hs.map Prod.fst) k x n) = F := ⟨_, rfl⟩
  have hFk : ∀ k, F k = wgt (hs.map Prod.fst) k x n := fun k => by rw [← hF]
  have hcf2 : ∀ k, k < n → ∀ W, IsRaw W A n c (raws hs) → Calls Try.prog 60 #[.slice A n c, .int .i64 (k : Int), .int .i64 (x.toNat : Int)] W fun e w' => e = .returned (bv (F k)) ∧ Below W.heap.size W w' := fun k hk W h' => by
    rw [hFk]
    exact hcf k hk W h'
  have hend : ∀ w', Below w.heap.size w w' → VAt w' (w.heap.size + 1) (fil n (fun k => bv (F k)) (.int .u8 0) n) → w'.cell? ⟨w.heap.size + 1 + 1, 0, none⟩ = some (.slice (some ⟨w.heap.size + 1, 0, none⟩) n n) → w'.cell? ⟨w.heap.size, 0, none⟩ = some (.slice A n c) → ClosQ hs x A n c (w.heap.size + 1 + 1) w.heap.size w w' := fun w' hb hv h1 h2 => by
    refine ⟨hb, by omega, Nat.le_refl _, ⟨(List.range n).map F, w.heap.size + 1, h1, ?_, by simp, fun k hk => ?_⟩, h2⟩
    · rw [fil_all] at hv
      unfold rs
      rw [List.map_map]
      exact hv
    · rw [← hFk]
      simp [List.getD_eq_getElem?_getD, hk]
  have q0 : VAt (((w.alloc (.cells #[.slice A n c] 44)).alloc (.cells (madeCells #[.int .u8 0] n) 5)).alloc (.cells #[.slice (some ⟨w.heap.size + 1, 0, none⟩) n n] 67)) (w.heap.size + 1) (fil n (fun k => bv (F k)) (.int .u8 0) 0) := by
    rw [fil_zero]
    rw [show rs (List.replicate n 0#8) = List.replicate n (.int .u8 0) by unfold rs; rw [List.map_replicate]; rfl] at hz
    have := hz.below ((Below.refl _ _).alloc (Nat.le_refl _) (.cells #[.slice (some ⟨w.heap.size + 1, 0, none⟩) n n] 67)) (by simp)
    simpa using this
  have q1 : Below w.heap.size w (((w.alloc (.cells #[.slice A n c] 44)).alloc (.cells (madeCells #[.int .u8 0] n) 5)).alloc (.cells #[.slice (some ⟨w.heap.size + 1, 0, none⟩) n n] 67)) :=
    (((Below.refl _ _).alloc (Nat.le_refl _) _).alloc (by simp) _).alloc (by simp; omega) _
  have q2 : (((w.alloc (.cells #[.slice A n c] 44)).alloc (.cells (madeCells #[.int .u8 0] n) 5)).alloc (.cells #[.slice (some ⟨w.heap.size + 1, 0, none⟩) n n] 67)).cell? ⟨w.heap.size + 1 + 1, 0, none⟩ = some (.slice (some ⟨w.heap.size + 1, 0, none⟩) n n) := by
    have := World.cell?_alloc_new ((w.alloc (.cells #[.slice A n c] 44)).alloc (.cells (madeCells #[.int .u8 0] n) 5)) #[.slice (some ⟨w.heap.size + 1, 0, none⟩) n n] 67 0
    simpa using this
  have q3 : (((w.alloc (.cells #[.slice A n c] 44)).alloc (.cells (madeCells #[.int .u8 0] n) 5)).alloc (.cells #[.slice (some ⟨w.heap.size + 1, 0, none⟩) n n] 67)).cell? ⟨w.heap.size, 0, none⟩ = some (.slice A n c) := by
    have h0 : (w.alloc (.cells #[.slice A n c] 44)).cell? ⟨w.heap.size, 0, none⟩ = some (.slice A n c) := by rw [World.cell?_alloc_new]; rfl
    have k := ((Below.refl (w.heap.size + 1) (w.alloc (.cells #[.slice A n c] 44))).alloc (by simp) (.cells (madeCells #[.int .u8 0] n) 5)).alloc (by simp) (.cells #[.slice (some ⟨w.heap.size + 1, 0, none⟩) n n] 67)
    exact (k.cell (p := ⟨w.heap.size, 0, none⟩) (Nat.lt_succ_self _)).trans h0
  have q4 : w.heap.size + 1 + 1 < (((w.alloc (.cells #[.slice A n c] 44)).alloc (.cells (madeCells #[.int .u8 0] n) 5)).alloc (.cells #[.slice (some ⟨w.heap.size + 1, 0, none⟩) n n] 67)).heap.size := by simp
  replace q0 := Lib.hid q0
  replace q1 := Lib.hid q1
  replace q4 := Lib.hid q4
  have hgl := Lib.hid (fun w' h1 h2 h3 h4 => hgoal _ _ w' (hend w' h1 h2 h3 h4))
  replace hcf2 := Lib.hid hcf2
  replace h := Lib.hid h
  clear hgoal hend hz hcf hF hFk hlm hnd hn
  go_enter Try.func56, Try.ntmps56
  go_wp2
  go_loopw [12] (fun iv wr => ∃ (k : Nat), iv = .int .i64 (k : Int) ∧ k ≤ n ∧ Hid (VAt wr (w.heap.size + 1) (fil n (fun k => bv (F k)) (.int .u8 0) k)) ∧ Hid (Below w.heap.size w wr) ∧ wr.cell? ⟨w.heap.size + 1 + 1, 0, none⟩ = some (.slice (some ⟨w.heap.size + 1, 0, none⟩) n n) ∧ wr.cell? ⟨w.heap.size, 0, none⟩ = some (.slice A n c) ∧ Hid (w.heap.size + 1 + 1 < wr.heap.size)) (fun iv _ => n - (intOf iv).toNat)
  case atStart => exact ⟨0, rfl, Nat.zero_le _, q0, q1, q2, q3, q4⟩
  case round =>
    clear q0 q1 q2 q3 q4 hmk
    obtain ⟨k, rfl, hk, hv, hb, c1, c2, hsz⟩ := hrel
    by_cases hlt : k < n
    · have dk : decide ((k : Int) < (n : Int)) = true := decide_eq_true (by omega)
      have k0 : (0 : Int) ≤ (k : Int) := by omega
      have k1 : (k : Int) < (n : Int) := by omega
      have keep0 : Kg wr (w.heap.size + 1) n wr := Kg.start (by have := hsz.out; omega) hv.out (fil_len _ _ _ _)
      have keepD : ∀ W, Kg wr (w.heap.size + 1) n W → Kg wr (w.heap.size + 1) n (World.drew W) := fun W h => h.drew
      have keepC : ∀ W W', Kg wr (w.heap.size + 1) n W → Below W.heap.size W W' → Kg wr (w.heap.size + 1) n W' := fun W W' h k => h.call k
      have keepS : ∀ W, Kg wr (w.heap.size + 1) n W → Kg wr (w.heap.size + 1) n (W.setCell ⟨w.heap.size + 1, k, none⟩ (bv (F k))) := fun W h => h.set hlt _
      have e1 : ∀ W, Kg wr (w.heap.size + 1) n W → W.cell? ⟨w.heap.size + 1 + 1, 0, none⟩ = some (.slice (some ⟨w.heap.size + 1, 0, none⟩) n n) := fun W h => (h.oth ⟨w.heap.size + 1 + 1, 0, none⟩ hsz.out (by show w.heap.size + 1 + 1 ≠ _; omega)).trans c1
      have e2 : ∀ W, Kg wr (w.heap.size + 1) n W → W.cell? ⟨w.heap.size, 0, none⟩ = some (.slice A n c) := fun W h => (h.oth ⟨w.heap.size, 0, none⟩ (by have := hsz.out; show w.heap.size < _; omega) (by show w.heap.size ≠ _; omega)).trans c2
      have g1 : ∀ W, Kg wr (w.heap.size + 1) n W → W.cell? ⟨w.heap.size + 1, k, none⟩ = some (valOr W (w.heap.size + 1) k) := fun W h => (h.has hlt).1
      have g2 : ∀ W, Kg wr (w.heap.size + 1) n W → W.frozen? ⟨w.heap.size + 1, k, none⟩ = false := fun W h => (h.has hlt).2
      have cC := Lib.hid (fun W (hW : Kg wr (w.heap.size + 1) n W) => hcf2.out k hlt W (h.out.kg hW hb.out (by omega)))
      go_wp2_with fail
      go_region_held3 (fun W => Kg wr (w.heap.size + 1) n W) (first | exact keep0 | exact keepD _ (by assumption) | exact keepC _ _ (by assumption) (by assumption) | exact keepS _ (by assumption) | assumption) (first | (go_at_call 60; (with_reducible refine (cC.out _ (by assumption)).mono ?_); rintro e w5 ⟨rfl, hb5⟩))
      have hbw : Below wr.heap.size wr w5 := chain (chainN (Below.refl _ wr) 1) hb5
      have hs := hsz.out
      have r0 : Hid (VAt (w5.setCell ⟨w.heap.size + 1, k, none⟩ (bv (F k))) (w.heap.size + 1) (fil n (fun k => bv (F k)) (.int .u8 0) (k + 1))) := Lib.hid (by
        rw [← fil_set (fun k => bv (F k)) (.int .u8 0) hlt]
        exact (hv.out.below hbw (by omega)).set (by rw [fil_len]; exact hlt) _)
      have r1 : Hid (Below w.heap.size w (w5.setCell ⟨w.heap.size + 1, k, none⟩ (bv (F k)))) := Lib.hid ((hb.out.trans (hbw.mono hb.out.size)).setCell (p := ⟨w.heap.size + 1, k, none⟩) (by show w.heap.size ≤ w.heap.size + 1; omega) _)
      have r2 : (w5.setCell ⟨w.heap.size + 1, k, none⟩ (bv (F k))).cell? ⟨w.heap.size + 1 + 1, 0, none⟩ = some (.slice (some ⟨w.heap.size + 1, 0, none⟩) n n) := by
        rw [World.cell?_setCell_other _ _ _ _ (fun e => by injection e with e; omega), hbw.cell (p := ⟨w.heap.size + 1 + 1, 0, none⟩) hs]
        exact c1
      have r3 : (w5.setCell ⟨w.heap.size + 1, k, none⟩ (bv (F k))).cell? ⟨w.heap.size, 0, none⟩ = some (.slice A n c) := by
        rw [World.cell?_setCell_other _ _ _ _ (fun e => by injection e with e; omega), hbw.cell (p := ⟨w.heap.size, 0, none⟩) (by show w.heap.size < _; omega)]
        exact c2
      have r4 : Hid (w.heap.size + 1 + 1 < (w5.setCell ⟨w.heap.size + 1, k, none⟩ (bv (F k))).heap.size) := Lib.hid (by
        have := hbw.size
        simp
        omega)
      clear keep0 keepD keepC keepS e1 e2 g1 g2 cC hbw hb5 hs c1 c2 hv hb hsz
      go_wp2
      go_roundw
      case rel => exact ⟨k + 1, by go_num, by omega, r0, r1, r2, r3, r4⟩
      case measure => simp [intOf]; omega
    · obtain rfl : k = n := by omega
      have dk : decide ((k : Int) < (k : Int)) = false := decide_eq_false (by omega)
      have hfin := Lib.hid (hgl.out wr hb.out hv.out c1 c2)
      clear hgl hcf2 h hv hb hsz
      go_wp2
      go_ret
      exact hfin.out
end Go.Proofs.Ytcfoclmkhippoaa.E15
