/- The contracts of the landed filledUp and dataBlocks of layer 16. -/
import Derived.Test.YtcfoclmkhippoaaL16Ss
import Derived.Test.YtcfoclmkhippoaaShelf
namespace Go.Proofs.Ytcfoclmkhippoaa.L16
set_option maxRecDepth 100000
open Go.RowKit Mem
open Go.Proofs.Ytcfoclmkhippoaa.G5 Go.Proofs.Ytcfoclmkhippoaa.G7 Go.Proofs.Ytcfoclmkhippoaa.E15
set_option linter.unusedVariables false
set_option linter.unusedSimpArgs false

set_option maxHeartbeats 4000000 in
theorem filled_own (c : ByteArray) (w : World) (hs : c.size ≤ 28) : Calls Try.prog 51 #[.string c] w fun e w' => e = .returned (.string (str (el c ++ List.replicate (28 - c.size) 0))) ∧ Below w.heap.size w w' := by
  obtain ⟨m, hm⟩ : ∃ m, 28 - c.size = m := ⟨_, rfl⟩
  rw [hm]
  have cR := fun W => Try.strings_Repeat ⟨#[0]⟩ m W (by omega) (by show 1 * m ≤ _; omega)
  rw [str_zeros] at cR
  have hpad : c ++ str (List.replicate m 0) = str (el c ++ List.replicate m 0) := by rw [← str_app, str_el]
  have hrs : (str (List.replicate m 0)).size = m := by rw [size_str, List.length_replicate]
  obtain ⟨R, hR⟩ : ∃ R : ByteArray, str (List.replicate m 0) = R := ⟨_, rfl⟩
  rw [hR] at cR hpad hrs
  obtain ⟨D, hD⟩ : ∃ D, str (el c ++ List.replicate m 0) = D := ⟨_, rfl⟩
  rw [hD] at hpad ⊢
  replace cR := Lib.hid cR
  have m1 : (28 : Int) - (c.size : Int) = (m : Int) := by omega
  have s1 : (c.size : Int) ≤ 28 := by omega
  have s2 : (R.size : Int) ≤ 28 := by omega
  have s3 : ¬ 9223372036854775807 < c.size + R.size := by omega
  clear hR hD hrs hm hs
  go_enter Try.func51, Try.ntmps51
  go_wp2_with fail
  refine (cR.out _).mono ?_
  rintro e w2 ⟨rfl, hb⟩
  go_wp2
  go_ret
  exact ⟨rfl, hb⟩
theorem el_ext (s : ByteArray) {a b : Nat} (h : b ≤ s.size) : el (s.extract a b) = ((el s).take b).drop a := by
  unfold el
  rw [ByteArray.data_extract, Array.toList_extract]
  simp [List.extract, List.drop_take]
set_option maxHeartbeats 8000000 in
/-- The data blocks of the first stripe. -/
theorem datas_own (n : Nat) (S : Int) (c : ByteArray) (w : World) (h1 : 1 ≤ n) (h8 : n ≤ 8) (hc : c.size ≤ 1000000) :
    Calls Try.prog 38 #[.agg #[.int .i64 (n : Int), .int .i64 S], .string c] w fun e w' => ∃ v, e = .returned v ∧ w'.ownsRow w.heap.size 9 1 v n (bs (dat n (el c) 0)) ∧ Below w.heap.size w w' := by
  obtain ⟨B, hB⟩ : ∃ B : Nat → List R, (fun k => bk (el c) (28 * k) 28) = B := ⟨_, rfl⟩
  have hBi : ∀ k, bk (el c) (28 * k) 28 = B k := fun k => by rw [← hB]
  have hdat : dat n (el c) 0 = (List.range n).map B := by
    unfold dat
    rw [← hB]
    simp
  rw [hdat]
  obtain ⟨Wb, hWb⟩ : ∃ Wb, w.alloc (.cells #[.int .i64 (n : Int), .int .i64 S] 23) = Wb := ⟨_, rfl⟩
  have hb0 : Below w.heap.size w Wb := by rw [← hWb]; exact boxed _ _
  have hs0 : Wb.heap.size = w.heap.size + 1 := by rw [← hWb]; simp
  have hc0 := Cells2.of (show VAt Wb w.heap.size [.int .i64 (n : Int), .int .i64 S] by rw [← hWb]; exact vat_alloc w _ _)
  obtain ⟨W, hmk, hr0, hbm⟩ := make_own Wb n (by omega)
  rw [← fil_zero n B []] at hr0
  obtain ⟨G, hG⟩ : ∃ G, Wb.heap.size = G := ⟨_, rfl⟩
  rw [hG] at hmk hr0 hbm
  have hGw : w.heap.size ≤ G := by omega
  have q0 := Lib.hid (own_mono hr0 hGw)
  have q1 := Lib.hid (hb0.trans (hbm.mono hGw))
  have cF : ∀ k (a b : Nat), a = min (k * 28) c.size → b = min (a + 28) c.size → ∀ W, Calls Try.prog 51 #[.string (c.extract a b)] W fun e w' => e = .returned (.string (str (B k))) ∧ Below W.heap.size W w' := fun k a b ha hb W => by
    have hz : (c.extract a b).size = b - a := by rw [ByteArray.size_extract]; omega
    have := filled_own (c.extract a b) W (by omega)
    rw [hz, el_ext _ (by omega), bk_pad (el c) k a b (by rw [el_len]; exact ha) (by rw [el_len]; exact hb), hBi] at this
    exact this
  have hend : ∀ (W : World) (v : Value), W.ownsRow w.heap.size 9 1 v n (bs (fil n B [] n)) → W.ownsRow w.heap.size 9 1 v n (bs ((List.range n).map B)) := fun W v h => by rwa [fil_all] at h
  have a0 := hc0.c0
  have hsn : (c.size : Int) ≤ 1000000 := by omega
  replace cF := Lib.hid cF
  replace hend := Lib.hid hend
  replace hmk := hmk
  have hGh := Lib.hid hGw
  clear hBi hdat hb0 hc0 hr0 hbm hB hs0
  have n1 : (1 : Int) ≤ (n : Int) := by omega
  have n8 : (n : Int) ≤ 8 := by omega
  clear hGw
  go_enter Try.func38, Try.ntmps38
  go_wp2
  go_loopw [14] (fun iv wr => ∃ (k : Nat), iv = .int .i64 (k : Int) ∧ k ≤ n ∧ Hid (wr.ownsRow w.heap.size 9 1 (.slice (some ⟨G, 0, none⟩) n n) n (bs (fil n B [] k))) ∧ Hid (Below w.heap.size w wr)) (fun iv _ => n - (intOf iv).toNat)
  case atStart => exact ⟨0, rfl, Nat.zero_le _, q0, q1⟩
  case round =>
    clear q0 q1 hmk a0
    obtain ⟨k, rfl, hk, hr, hb⟩ := hrel
    by_cases hlt : k < n
    · have dk : decide ((k : Int) < (n : Int)) = true := decide_eq_true (by omega)
      have k0 : (0 : Int) ≤ (k : Int) := by omega
      have k1 : (k : Int) < (n : Int) := by omega
      obtain ⟨q, hq⟩ : ∃ q, k * 28 = q := ⟨_, rfl⟩
      obtain ⟨a, ha⟩ : ∃ a, min q c.size = a := ⟨_, rfl⟩
      obtain ⟨p, hp⟩ : ∃ p, a + 28 = p := ⟨_, rfl⟩
      obtain ⟨b, hb'⟩ : ∃ b, min p c.size = b := ⟨_, rfl⟩
      have cK := Lib.hid (cF.out k a b (by rw [hq]; exact ha.symm) (by rw [hp]; exact hb'.symm))
      have e1 : (k : Int) * 28 = (q : Int) := by omega
      have e2 : min (q : Int) (c.size : Int) = (a : Int) := by omega
      have e4 : (a : Int) + 28 = (p : Int) := by omega
      have e5 : min (p : Int) (c.size : Int) = (b : Int) := by omega
      have hab : a ≤ b := by omega
      have hbc : b ≤ c.size := by omega
      have hab2 : (a : Int) ≤ (b : Int) := by omega
      have hbc2 : (b : Int) ≤ (c.size : Int) := by omega
      have ha0 : (0 : Int) ≤ (a : Int) := by omega
      have q224 : (q : Int) ≤ 224 := by omega
      have p224 : (p : Int) ≤ 1000028 := by omega
      obtain ⟨S', hS⟩ : ∃ S, str (B k) = S := ⟨_, rfl⟩
      rw [hS] at cK
      have hset := Lib.hid (show bs (fil n B [] (k + 1)) = (bs (fil n B [] k)).set k (.string S') by rw [← fil_set B [] hlt, ← bs_set, hS])
      clear hq ha hp hb' hS
      go_wp2_with fail
      refine (cK.out _).mono ?_
      rintro e w5 ⟨rfl, hb5⟩
      have hr5 := own_below hr.out (hb5)
      have hL : (bs (fil n B [] k)).length = n := by rw [bs_len, fil_len]
      have v0 := hr5.cellAt k (by omega)
      have f0 := hr5.frozenAt k
      rw [List.getElem?_eq_getElem (by omega)] at v0
      obtain ⟨u0, hu0⟩ : ∃ u, (bs (fil n B [] k))[k]'(by omega) = u := ⟨_, rfl⟩
      rw [hu0] at v0
      have r0 := (hr5.stored k (.string S')).1
      rw [← hset.out] at r0
      replace r0 := Lib.hid r0
      have hGl : w.heap.size ≤ G := (hr5.lt G rfl).1
      have r1 : Hid (Below w.heap.size w (w5.setCell ⟨G, k, none⟩ (.string S'))) := Lib.hid ((hb.out.trans (hb5.mono hb.out.size)).setCell (p := ⟨G, k, none⟩) hGl _)
      clear hr hb hL hu0 hr5 hb5 cK hset hGl
      go_wp2
      go_roundw
      case rel => exact ⟨k + 1, by go_num, by omega, r0, r1⟩
      case measure => simp [intOf]; omega
    · obtain rfl : k = n := by omega
      have dk : decide ((k : Int) < (k : Int)) = false := decide_eq_false (by omega)
      have hfin := Lib.hid (hend.out _ _ hr.out)
      clear cF hend hr
      go_wp2
      go_ret
      exact ⟨_, rfl, hfin.out, hb.out⟩
end Go.Proofs.Ytcfoclmkhippoaa.L16
