/- The contracts of the reference's header and Marshal of layer 13. -/
import Derived.Test.YtgpdfkallgjocaaGreatDoorF13Ref1
import Derived.Test.YtgpdfkallgjocaaGreatDoorM13AB
import Derived.Deep.RegionHeld3
namespace Go.Proofs.YtgpdfkallgjocaaGreatDoor.F13
set_option maxRecDepth 100000
open Go.RowKit Mem
set_option linter.unusedVariables false
set_option linter.unusedSimpArgs false

structure HdFacts (f : Fr) (s1 s2 i1 i2 ly : Int) : Prop where
  q1 : f.sess.tdiv 256 = s1
  q1' : f.sess / 256 = s1
  q2 : f.sess.tmod 256 = s2
  q2' : f.sess % 256 = s2
  q3 : f.idx.tdiv 256 = i1
  q3' : f.idx / 256 = i1
  q4 : f.idx.tmod 256 = i2
  q4' : f.idx % 256 = i2
  q5 : 16 * f.data + f.spare = ly
  b0 : 0 ≤ f.kind ∧ f.kind ≤ 255
  b1 : 0 ≤ f.reel ∧ f.reel ≤ 255
  b2 : 0 ≤ s1 ∧ s1 ≤ 255
  b3 : 0 ≤ s2 ∧ s2 ≤ 255
  b4 : 0 ≤ i1 ∧ i1 ≤ 255
  b5 : 0 ≤ i2 ∧ i2 ≤ 255
  b6 : 0 ≤ f.len ∧ f.len ≤ 255
  b7 : 0 ≤ ly ∧ ly ≤ 255
  cells : ∀ v : List Value, v = bys (K3.byL f.arch) → [.int .u8 f.kind, .int .u8 f.reel, .int .u8 s1, .int .u8 s2, .int .u8 i1, .int .u8 i2, .int .u8 f.len, .int .u8 ly] ++ v = bys (hdL f)
theorem hdFacts {f : Fr} (h : Valid f) : ∃ s1 s2 i1 i2 ly, HdFacts f s1 s2 i1 i2 ly := by
  have h1 := h.kind
  have h2 := h.data
  have h3 := h.spare
  have h4 := h.reel
  have h5 := h.sess
  have h6 := h.idx
  have h7 := h.len
  refine ⟨f.sess / 256, f.sess % 256, f.idx / 256, f.idx % 256, 16 * f.data + f.spare, ?_⟩
  refine ⟨Int.tdiv_eq_ediv_of_nonneg (by omega), rfl, Int.tmod_eq_emod_of_nonneg (by omega), rfl, Int.tdiv_eq_ediv_of_nonneg (by omega), rfl, Int.tmod_eq_emod_of_nonneg (by omega), rfl, rfl, by omega, by omega, by omega, by omega, by omega, by omega, by omega, by omega, ?_⟩
  rintro v rfl
  unfold hdL
  rw [bys_append]
  congr 1
  unfold bys
  simp only [List.map_cons, List.map_nil]
  rw [u8_val (by omega) (by omega), u8_val (by omega) (by omega), u8_val (by omega) (by omega), u8_val (by omega) (by omega), u8_val (by omega) (by omega), u8_val (by omega) (by omega), u8_val (by omega) (by omega), u8_val (by omega) (by omega)]
set_option maxHeartbeats 4000000 in
theorem rheader_any (f : Fr) (w : World) (h : Valid f) :
    Calls Tryz.prog 30 #[f.val] w fun e w' => e = .returned (.string ⟨(hdL f).toArray⟩) ∧ Below w.heap.size w w' := by
  obtain ⟨s1, s2, i1, i2, ly, hF⟩ := hdFacts h
  have hc := hF.cells _ (K3.byL_cells f.arch)
  obtain ⟨l, hl⟩ : ∃ l, hdL f = l := ⟨_, rfl⟩
  have hll : l.length = 12 := by rw [← hl]; rfl
  rw [hl] at hc ⊢
  obtain ⟨q1, q1', q2, q2', q3, q3', q4, q4', q5, b0, b1, b2, b3, b4, b5, b6, b7, _⟩ := hF
  obtain ⟨kind, reel, sess, idx, len, data, spare, arch, pay⟩ := f
  have hx := arch.isLt
  have hd := h.data
  have hsp := h.spare
  have hse := h.sess
  have hid := h.idx
  dsimp only at *
  obtain ⟨X, hX⟩ : ∃ X, arch.toNat = X := ⟨_, rfl⟩
  rw [hX] at hx hc
  have hconv := K3.conv_made (P := Tryz.prog) (w.alloc (.cells (Fr.mk kind reel sess idx len data spare arch pay).cells 26)) (src := 37) (dst := 9) (e := 5) (n := 12) (l := l) hll Tryz.underlying37 Tryz.underlying5 Tryz.underlying9 (show (#[.int .u8 kind, .int .u8 reel, .int .u8 s1, .int .u8 s2, .int .u8 i1, .int .u8 i2, .int .u8 len, .int .u8 ly, .int .u8 ((X : Int) / 16777216), .int .u8 ((X : Int) / 65536 % 256), .int .u8 ((X : Int) / 256 % 256), .int .u8 ((X : Int) % 256)] : Array Value).toList = bys l from hc)
  unfold Fr.val
  unfold Fr.cells at hconv ⊢
  dsimp only at hconv ⊢
  rw [hX] at hconv ⊢
  simp only [World.size_alloc] at hconv
  have hx1 : (X : Int) < 4294967296 := by omega
  have hx0 : (0 : Int) ≤ (X : Int) := by omega
  clear hc hl hll h hX
  go_enter Tryz.func30, Tryz.ntmps30
  go_wp2
  go_ret
  exact ⟨rfl, two_made w _ _⟩
theorem rsum1 (s : ByteArray) (w : World) (hs : s.size ≤ 1000000) :
    Calls Tryz.prog 32 #[.slice (some ⟨w.heap.size, 0, none⟩) 1 1] (w.alloc (.cells #[.string s] 9)) fun e w' => e = .returned (.int .u32 ((K3.sumL s.data.toList).toNat : Int)) ∧ Below w.heap.size w w' := by
  have h := K3.rsum_any (some ⟨w.heap.size, 0, none⟩) 1 [s.data.toList] _ (by simpa using hs) (by simp) (by simp) (by decide) (rd_one w 9 s)
  rw [show K3.joinL [s.data.toList] = s.data.toList by simp [K3.joinL]] at h
  exact h.mono fun e w' ⟨a, b⟩ => ⟨a, b ▸ (Below.refl _ _).alloc (Nat.le_refl _) _⟩
theorem rsum1d (s : ByteArray) (w : World) (hs : s.size ≤ 1000000) :
    Calls Tryz.prog 32 #[.slice (some ⟨w.heap.size, 0, none⟩) 1 1] (w.alloc (.cells #[.string s] 9)).drew fun e w' => e = .returned (.int .u32 ((K3.sumL s.data.toList).toNat : Int)) ∧ Below w.heap.size w w' := by
  have h := K3.rsum_any (some ⟨w.heap.size, 0, none⟩) 1 [s.data.toList] (w.alloc (.cells #[.string s] 9)).drew (by simpa using hs) (by simp) (by simp) (by decide) (rd_one w 9 s).drew
  rw [show K3.joinL [s.data.toList] = s.data.toList by simp [K3.joinL]] at h
  exact h.mono fun e w' ⟨a, b⟩ => ⟨a, b ▸ ((Below.refl _ _).alloc (Nat.le_refl _) _).drew⟩
set_option maxHeartbeats 4000000 in
theorem rmarshal_any (f : Fr) (w : World) (hp : f.pay.size ≤ 1000000) :
    Calls Tryz.prog 13 #[f.val] w fun e w' => e = .returned (.tuple #[.string (mS f), .int .i64 (ckE f)]) ∧ Below w.heap.size w w' := by
  have cC := Lib.hid (fun W => rcheck_any f W (by omega))
  have hb0 : Below w.heap.size w (w.alloc (.cells f.cells 26)) := (Below.refl _ _).alloc (Nat.le_refl _) _
  by_cases h0 : ckE f = 0
  · rw [mS_ok h0]
    rw [h0] at cC ⊢
    have hv := (valid_iff f).1 h0
    have cH := fun W => rheader_any f W hv
    obtain ⟨hd, hhd⟩ : ∃ hd, (⟨(hdL f).toArray⟩ : ByteArray) = hd := ⟨_, rfl⟩
    rw [hhd] at cH
    replace cH := Lib.hid cH
    have hds : hd.size = 12 := by rw [← hhd]; rfl
    have hbl : (hd ++ f.pay).data.toList = bodyL f := by rw [app_list, ← hhd]; rfl
    have hbs : (hd ++ f.pay).size = 40 := by rw [← bodyL_len hv, ← hbl]; simp
    have cS := fun W => rsum1 (hd ++ f.pay) W (by omega)
    have cB := fun W => K3.rbytes_any (K3.sumL (bodyL f)) W
    rw [hbl] at cS
    have hms : (hd ++ f.pay) ++ (⟨(K3.byL (K3.sumL (bodyL f))).toArray⟩ : ByteArray) = ⟨(msgL f).toArray⟩ := str_eq (by rw [app_list, hbl]; rfl)
    have hcs : (⟨(K3.byL (K3.sumL (bodyL f))).toArray⟩ : ByteArray).size = 4 := rfl
    obtain ⟨Q, hQ⟩ : ∃ Q, (⟨(K3.byL (K3.sumL (bodyL f))).toArray⟩ : ByteArray) = Q := ⟨_, rfl⟩
    obtain ⟨M, hM⟩ : ∃ M, (⟨(msgL f).toArray⟩ : ByteArray) = M := ⟨_, rfl⟩
    obtain ⟨K, hK⟩ : ∃ K, K3.sumL (bodyL f) = K := ⟨_, rfl⟩
    rw [hK] at cS cB hQ hms hcs
    rw [hQ] at cB hms hcs
    rw [hM] at hms ⊢
    replace cS := Lib.hid cS
    replace cB := Lib.hid cB
    obtain ⟨B, hB⟩ : ∃ B, hd ++ f.pay = B := ⟨_, rfl⟩
    rw [hB] at cS hms hbs
    have hsp := hv.size
    have s1 : (hd.size : Int) ≤ 12 := by omega
    have s2 : (f.pay.size : Int) ≤ 28 := by omega
    have s3 : (B.size : Int) ≤ 40 := by omega
    have s5 : ¬ 9223372036854775807 < hd.size + f.pay.size := by omega
    have s6 : ¬ 9223372036854775807 < B.size + Q.size := by omega
    have s4 : (Q.size : Int) ≤ 4 := by omega
    clear hQ hM hK hbl hds hbs hcs h0 hhd hp hv hsp
    have hbox := fun (i : Nat) (v : Value) (h : f.cells[i]? = some v) => (show (w.alloc (.cells f.cells 26)).cell? ⟨w.heap.size, i, none⟩ = some v by rw [World.cell?_alloc_new]; exact h)
    have hsz0 : w.heap.size < (w.alloc (.cells f.cells 26)).heap.size := by simp
    obtain ⟨kind, reel, sess, idx, len, data, spare, arch, pay⟩ := f
    unfold Fr.val at *
    dsimp only at *
    unfold Fr.cells at *
    dsimp only at *
    go_enter Tryz.func13, Tryz.ntmps13
    go_wp2_with fail
    refine (cC.out _).mono ?_
    rintro e w1 ⟨rfl, hb1⟩
    have cell := fun (i : Nat) (v : Value) h (W : World) (k : Below w1.heap.size w1 W) => (k.cell (p := ⟨w.heap.size, i, none⟩) (Nat.lt_of_lt_of_le hsz0 hb1.size)).trans ((hb1.cell (p := ⟨w.heap.size, i, none⟩) hsz0).trans (hbox i v h))
    have l0 := cell 0 _ rfl
    have l1 := cell 1 _ rfl
    have l2 := cell 2 _ rfl
    have l3 := cell 3 _ rfl
    have l4 := cell 4 _ rfl
    have l5 := cell 5 _ rfl
    have l6 := cell 6 _ rfl
    have l7 := cell 7 _ rfl
    have l8 := cell 8 _ rfl
    have hbw := chain hb0 hb1
    have keep0 := Below.refl w1.heap.size w1
    have keep1 : ∀ W, Below w1.heap.size w1 W → Below w1.heap.size w1 (World.drew W) := fun W h => chainN h 1
    clear cell hbox hsz0 hb1 hb0
    go_wp2_with fail
    go_region_held3 (fun W => Below w1.heap.size w1 W) (first | exact keep0 | exact keep1 _ keep0 | exact chain ‹_› ‹_› | assumption) (first | (go_at_call 30; (with_reducible refine (cH.out _).mono ?_); rintro e w9 ⟨rfl, hb9⟩))
    go_wp2_with fail
    refine (cS.out _).mono ?_
    rintro e w2 ⟨rfl, hb2⟩
    go_wp2_with fail
    refine (cB.out _).mono ?_
    rintro e w3 ⟨rfl, hb3⟩
    go_wp2
    go_ret2
    exact ⟨rfl, chain hbw (chain (by assumption) (chain hb2 hb3))⟩
  · rw [mS_no h0]
    obtain ⟨k, hk⟩ : ∃ k, ckE f = k := ⟨_, rfl⟩
    rw [hk] at cC h0 ⊢
    have d1 : (k != 0) = true := bne_iff_ne.2 h0
    obtain ⟨kind, reel, sess, idx, len, data, spare, arch, pay⟩ := f
    unfold Fr.val Fr.cells at *
    dsimp only at *
    clear hk h0 hp
    go_enter Tryz.func13, Tryz.ntmps13
    go_wp2_with fail
    refine (cC.out _).mono ?_
    rintro e w1 ⟨rfl, hB⟩
    go_wp2
    go_ret2
    exact ⟨rfl, chain hb0 hB⟩
end Go.Proofs.YtgpdfkallgjocaaGreatDoor.F13
