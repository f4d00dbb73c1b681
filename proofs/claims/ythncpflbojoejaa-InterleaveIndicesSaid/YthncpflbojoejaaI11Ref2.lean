/- The contracts of the reference's Interleave and Deinterleave of layer 11. -/
import Derived.Test.YthncpflbojoejaaI11Ref1
import Derived.Test.YthncpflbojoejaaI11Mk
namespace Go.Proofs.Ythncpflbojoejaa.I11
open Go.RowKit Mem
set_option linter.unusedVariables false
set_option linter.unusedSimpArgs false

/-- The bytes picked so far, in the order of the list. -/
def pk (c : ByteArray) (l : List Nat) (k : Nat) : List UInt8 := (l.take k).map fun i => c.data.toList.getD i 0
theorem pk_step {c : ByteArray} {l : List Nat} {k I : Nat} (hk : k < l.length) (hI : l.getD k 0 = I) (h : I < c.size) : pk c l (k + 1) = pk c l k ++ [c[I]] := by
  unfold pk
  have e : l[k] = I := by rw [← hI, List.getD_eq_getElem?_getD, List.getElem?_eq_getElem hk]; rfl
  rw [List.take_succ_eq_append_getElem hk, List.map_append, e]
  congr 1
  show [c.data.toList.getD I 0] = _
  rw [getD_of (by simpa using h)]
  rfl
theorem nat_at {w : World} {A : Option Addr} {l : List Nat} (h : Rd w A (nats l)) {k : Nat} (hk : k < l.length) : ∃ b o, A = some ⟨b, o, none⟩ ∧ b < w.heap.size ∧ w.cell? ⟨b, o + k, none⟩ = some (.int .i64 (l.getD k 0 : Nat)) := by
  obtain ⟨b, o, e, hb, hc⟩ := h k (by rw [nats_len]; exact hk)
  refine ⟨b, o, e, hb, hc.trans ?_⟩
  have := nats_get l k hk
  rw [List.getElem?_eq_getElem (by rw [nats_len]; exact hk)] at this
  rw [this, List.getD_eq_getElem?_getD, List.getElem?_eq_getElem hk]
  rfl
set_option maxRecDepth 100000 in
set_option maxHeartbeats 4000000 in
theorem rinter_core (c : ByteArray) (r : Nat) (w : World) (hr : 1 ≤ r) (hc : c.size ≤ 1000) (hr2 : r ≤ 9223372036854775807) :
    Calls Try.prog 13 #[.string c, .int .i64 (r : Int)] w fun e w' => e = .returned (.tuple #[.string ⟨(il r c.data.toList).toArray⟩, .int .i64 0]) ∧ Below w.heap.size w w' := by
  obtain ⟨i0, hi, hz0, hz1, hz2⟩ := info_parts info_byteI
  obtain ⟨n, hn⟩ : ∃ n, c.size = n := ⟨_, rfl⟩
  have cO := rorder_any n r w hr (by omega) hr2
  have hln : c.data.toList.length = n := by rw [← hn]; simp
  have d1 : decide ((r : Int) < 1) = false := decide_eq_false (by omega)
  have hpick := fun l (h : Ord n r l n) => pick hr c.data.toList l (by rw [hln]; exact h)
  have hnh := Lib.hid hn
  have hn3 : n ≤ 1000 := by omega
  obtain ⟨O, hO⟩ : ∃ O : ByteArray, ⟨(il r c.data.toList).toArray⟩ = O := ⟨_, rfl⟩
  rw [hO]
  unfold Ordd at cO
  replace hpick := Lib.hid hpick
  replace cO := Lib.hid cO
  replace hO := Lib.hid hO
  clear hln
  go_enter Try.func13, Try.ntmps13
  go_wp2_with fail
  refine cO.out.mono ?_
  rintro e w1 ⟨v, l, rfl, ho, hown, hB⟩
  obtain ⟨A, cp, rfl, hcp1, hcp2⟩ := own_slice hown
  have hrd := Lib.hid (Rd.of_own hown)
  have hll := ho.out.len
  have hget := Lib.hid ho.out.get
  have hfin : pk c l n = il r c.data.toList := by
    rw [← hpick.out l ho.out]
    unfold pk
    rw [List.take_of_length_le (by omega)]
  have hf2 : (⟨(pk c l n).toArray⟩ : ByteArray) = O := by rw [hfin]; exact hO.out
  replace hf2 := Lib.hid hf2
  replace hll := Lib.hid hll
  clear hown ho cO hfin
  go_wp2
  go_loopw [7, 8] (fun v x wr => ∃ k : Nat, k ≤ n ∧ x = .int .i64 (k : Int) ∧ wr.ownsRow w1.heap.size 5 1 v k (bys (pk c l k)) ∧ Below w1.heap.size w1 wr) (fun _ x _ => n - (intOf x).toNat)
  case atStart => exact ⟨0, Nat.zero_le _, rfl, empty_at rfl (Nat.le_refl _), (Below.refl _ _).alloc (Nat.le_refl _) _⟩
  case round =>
    obtain ⟨k, hk, rfl, hown, hb⟩ := hrel
    by_cases hlt : k < n
    · obtain ⟨b, o, rfl, hbl, hcl⟩ := nat_at (hrd.out.below hb) (k := k) (by rw [hll.out]; exact hlt)
      have hI := (hget.out k hlt).1
      have hst := fun I h1 h2 => pk_step (c := c) (l := l) (k := k) (I := I) (by rw [hll.out]; exact hlt) h1 h2
      obtain ⟨I, hIe⟩ : ∃ I, l.getD k 0 = I := ⟨_, rfl⟩
      rw [hIe] at hI hcl
      have hIc : I < c.size := by rw [hnh.out]; exact hI
      have hs2 := Lib.hid (hst I hIe hIc)
      have hsn := Lib.hid (bys_snoc (pk c l k) c[I])
      have d2 : decide ((k : Int) < (n : Int)) = true := decide_eq_true (by omega)
      have d2' : decide (k < n) = true := decide_eq_true (by omega)
      have k0 : (0 : Int) ≤ (k : Int) := by omega
      have k1 : (k : Int) < (n : Int) := by omega
      have I0 : (0 : Int) ≤ (I : Int) := by omega
      have I1 : (I : Int) < (n : Int) := by omega
      clear hst hIe
      go_wp2_with (at_builtin; refine wpList_append_own _ rfl _ _ 34 rfl w1.heap.size 5 i0 (.int .u8 0) 1 1 Try.underlying34 hi hz0 hz1 hz2 rfl (by decide) _ _ _ rfl (hown.alloc _) ⟨wr.heap.size, 0, none⟩ 1 1 [.int .u8 ((c[I]).toNat : Int)] rfl rfl (one_new _ _ _) (one_cell _ _) ?d3 ?d4 ?d5 ?_)
      case d3 => unfold maxLen; omega
      case d4 => omega
      case d5 => have := hb.size; simp; omega
      intro v' w2 hown2 hgr _
      rw [← hsn.out, ← hs2.out] at hown2
      have hb2 := (hb.alloc hb.size _).grown hgr (by have := hb.size; simp; omega) (fun j hj => (hown.lt j hj).1)
      clear hown hgr hb
      go_wp2
      go_roundw
      case rel => exact ⟨k + 1, by omega, by go_num, by simpa using hown2, hb2⟩
      case measure => simp [intOf]; omega
    · obtain rfl : k = n := by omega
      have d2 : decide ((k : Int) < (k : Int)) = false := decide_eq_false (by omega)
      have d2' : decide (k < k) = false := decide_eq_false (by omega)
      have hcv := conv_own (P := Try.prog) Try.underlying34 Try.underlying5 Try.underlying9 hown
      rw [hf2.out] at hcv
      obtain ⟨A2, c2, rfl, _, _⟩ := own_slice hown
      clear hown
      go_wp2
      go_ret2
      exact ⟨rfl, chain hB hb⟩
set_option maxRecDepth 100000 in
set_option maxHeartbeats 4000000 in
theorem rdeinter_core (c : ByteArray) (r : Nat) (w : World) (hr : 1 ≤ r) (hc : c.size ≤ 1000) (hr2 : r ≤ 9223372036854775807) :
    Calls Try.prog 15 #[.string c, .int .i64 (r : Int)] w fun e w' => e = .returned (.tuple #[.string ⟨(dl r c.data.toList).toArray⟩, .int .i64 0]) ∧ Below w.heap.size w w' := by
  obtain ⟨n, hn⟩ : ∃ n, c.size = n := ⟨_, rfl⟩
  have cO := rorder_any n r w hr (by omega) hr2
  have hln : c.data.toList.length = n := by rw [← hn]; simp
  have d1 : decide ((r : Int) < 1) = false := decide_eq_false (by omega)
  have hlay := fun l (h : Ord n r l n) => lay hr c.data.toList l (by rw [hln]; exact h)
  have hmk0 := fun W => make_bytesI W n (by omega)
  have hlnh := Lib.hid hln
  have hnh := Lib.hid hn
  have hn3 : n ≤ 1000 := by omega
  obtain ⟨O, hO⟩ : ∃ O : ByteArray, ⟨(dl r c.data.toList).toArray⟩ = O := ⟨_, rfl⟩
  rw [hO]
  unfold Ordd at cO
  rw [hln] at hlay
  replace hlay := Lib.hid hlay
  replace hmk0 := Lib.hid hmk0
  replace cO := Lib.hid cO
  replace hO := Lib.hid hO
  clear hln
  go_enter Try.func15, Try.ntmps15
  go_wp2_with fail
  refine cO.out.mono ?_
  rintro e w1 ⟨v, l, rfl, ho, hown, hB⟩
  obtain ⟨A, cp, rfl, hcp1, hcp2⟩ := own_slice hown
  have hrd := Lib.hid (Rd.of_own hown)
  have hll := Lib.hid ho.out.len
  have hget := Lib.hid ho.out.get
  obtain ⟨l0, hl0, hmk⟩ := hmk0.out w1
  have hB0 : BAt (w1.alloc (.cells l0.toArray 5)) w1.heap.size (mv id (fun k => l.getD k 0) c.data.toList n 0) := by
    rw [hl0]
    exact made_at w1 _ _
  have hb0 : Below w1.heap.size w1 (w1.alloc (.cells l0.toArray 5)) := (Below.refl _ w1).alloc (Nat.le_refl _) _
  have hs0 : w1.heap.size < (w1.alloc (.cells l0.toArray 5)).heap.size := by simp
  obtain ⟨W0, hW0⟩ : ∃ W0, w1.alloc (.cells l0.toArray 5) = W0 := ⟨_, rfl⟩
  obtain ⟨G, hG⟩ : ∃ G, w1.heap.size = G := ⟨_, rfl⟩
  rw [hW0, hG] at hmk hB0 hb0 hs0
  have hfin := hlay.out l ho.out
  have hf2 : (⟨(mv id (fun k => l.getD k 0) c.data.toList n n).toArray⟩ : ByteArray) = O := by rw [hfin]; exact hO.out
  have hstep : ∀ k, k < n → ∃ I, l.getD k 0 = I ∧ I < n ∧ Hid (∀ (hf : k < c.size) W g, BAt W g (mv id (fun k => l.getD k 0) c.data.toList n k) → BAt (W.setCell ⟨g, I, none⟩ (.int .u8 ((c[k]).toNat : Int))) g (mv id (fun k => l.getD k 0) c.data.toList n (k + 1))) ∧ Hid (∀ W g, BAt W g (mv id (fun k => l.getD k 0) c.data.toList n k) → ∃ b : UInt8, W.cell? ⟨g, I, none⟩ = some (.int .u8 (b.toNat : Int)) ∧ W.frozen? ⟨g, I, none⟩ = false) := by
    intro k hk
    have hlt := (hget.out k hk).1
    refine ⟨_, rfl, hlt, Lib.hid ?_, Lib.hid ?_⟩
    · intro hf W g h
      have h2 := BAt.set h (k := l.getD k 0) (by rw [mv_len]; exact hlt) (c[k])
      have e : mv id (fun k => l.getD k 0) c.data.toList n (k + 1) = (mv id (fun k => l.getD k 0) c.data.toList n k).set (l.getD k 0) (c[k]) := by
        simp only [mv]
        rw [show c.data.toList.getD (id k) 0 = c[k] from getD_of (by rw [hlnh.out]; exact hk)]
      rw [e]
      exact h2
    · intro W g h
      have hx : l.getD k 0 < (mv id (fun k => l.getD k 0) c.data.toList n k).length := by rw [mv_len]; exact hlt
      exact ⟨_, h _ hx⟩
  have hlen := mv_len id (fun k => l.getD k 0) c.data.toList n n
  obtain ⟨M, hM⟩ : ∃ M : Nat → List UInt8, mv id (fun k => l.getD k 0) c.data.toList n = M := ⟨_, rfl⟩
  rw [hM] at hstep hB0 hf2 hlen
  replace hstep := Lib.hid hstep
  replace hB0 := Lib.hid hB0
  replace hs0 := Lib.hid hs0
  replace hlen := Lib.hid hlen
  replace hf2 := Lib.hid hf2
  have hGh := Lib.hid hG
  clear hown ho cO hfin hM hW0 hl0 hlay hmk0 hget
  go_wp2
  go_loopw [8] (fun x wr => ∃ k : Nat, k ≤ n ∧ x = .int .i64 (k : Int) ∧ Hid (BAt wr G (M k)) ∧ Hid (G < wr.heap.size) ∧ Below G w1 wr) (fun x _ => n - (intOf x).toNat)
  case atStart => exact ⟨0, Nat.zero_le _, rfl, hB0, hs0, hb0⟩
  case round =>
    clear hB0 hs0 hb0 hmk
    obtain ⟨k, hk, rfl, hg, hsz, hb⟩ := hrel
    by_cases hlt : k < n
    · have hrd2 := hrd.out.below (show Below w1.heap.size w1 wr by rw [hGh.out]; exact hb)
      obtain ⟨b, o, rfl, hbl, hcl⟩ := nat_at hrd2 (k := k) (by rw [hll.out]; exact hlt)
      obtain ⟨I, hI, hIn, hset, hcell⟩ := hstep.out k hlt
      rw [hI] at hcl
      obtain ⟨b0, hn1, hf1⟩ := hcell.out wr G hg.out
      have hkc : k < c.size := by rw [hnh.out]; exact hlt
      have hg2 := Lib.hid (hset.out hkc wr G hg.out)
      have hb3 := hb.setCell (p := ⟨G, I, none⟩) (Nat.le_refl G) (.int .u8 ((c[k]).toNat : Int))
      have hs3 : Hid (G < (wr.setCell ⟨G, I, none⟩ (.int .u8 ((c[k]).toNat : Int))).heap.size) := Lib.hid (by simpa using hsz.out)
      have d2 : decide ((k : Int) < (n : Int)) = true := decide_eq_true (by omega)
      have d2' : decide (k < n) = true := decide_eq_true (by omega)
      have k0 : (0 : Int) ≤ (k : Int) := by omega
      have k1 : (k : Int) < (n : Int) := by omega
      have I0 : (0 : Int) ≤ (I : Int) := by omega
      have I1 : (I : Int) < (n : Int) := by omega
      clear hI hset hcell hrd2 hg hsz hb
      go_wp2_with fail
      go_region
      all_goals
        have hg4 : Hid (BAt (wr.setCell ⟨G, I, none⟩ (.int .u8 ((c[k]).toNat : Int))).drew G (M (k + 1))) := Lib.hid hg2.out.drew
        have hs4 : Hid (G < (wr.setCell ⟨G, I, none⟩ (.int .u8 ((c[k]).toNat : Int))).drew.heap.size) := Lib.hid hs3.out
        go_wp2
        go_roundw
        case rel => exact ⟨k + 1, by omega, by go_num, hg4, hs4, hb3.drew⟩
        case measure => simp [intOf]; omega
    · obtain rfl : k = n := by omega
      have d2 : decide ((k : Int) < (k : Int)) = false := decide_eq_false (by omega)
      have d2' : decide (k < k) = false := decide_eq_false (by omega)
      have hcv := hg.out.conv (P := Try.prog) (cap := k) (n := k) hlen.out Try.underlying34 Try.underlying5 Try.underlying9
      rw [hf2.out] at hcv
      clear hg
      go_wp2
      go_ret2
      exact ⟨rfl, chain hB (by rw [hGh.out]; exact hb)⟩
theorem rarg_any (c : ByteArray) (r : Int) (w : World) (h : r < 1) : Calls Try.prog 13 #[.string c, .int .i64 r] w fun e w' => e = .returned (.tuple #[.string ⟨#[]⟩, .int .i64 1]) ∧ Below w.heap.size w w' := by
  have d1 : decide (r < 1) = true := decide_eq_true h
  go_enter Try.func13, Try.ntmps13
  go_wp2
  go_ret2
  exact ⟨rfl, Below.refl _ _⟩
theorem rdarg_any (c : ByteArray) (r : Int) (w : World) (h : r < 1) : Calls Try.prog 15 #[.string c, .int .i64 r] w fun e w' => e = .returned (.tuple #[.string ⟨#[]⟩, .int .i64 1]) ∧ Below w.heap.size w w' := by
  have d1 : decide (r < 1) = true := decide_eq_true h
  go_enter Try.func15, Try.ntmps15
  go_wp2
  go_ret2
  exact ⟨rfl, Below.refl _ _⟩
theorem rinter_any (c : ByteArray) (r : Int) (w : World) (hc : c.size ≤ 1000) (r2 : r ≤ 9223372036854775807) : Calls Try.prog 13 #[.string c, .int .i64 r] w (Iled c r w) := by
  unfold Iled
  by_cases h : r < 1
  · obtain ⟨g1, g2, _⟩ := p_arg (c := c) h
    rw [g1, g2]
    exact rarg_any c r w h
  · obtain ⟨R, rfl⟩ : ∃ I : Nat, r = I := ⟨r.toNat, by omega⟩
    rw [p_ok (by omega), iS_at (by omega)]
    exact rinter_core c R w (by omega) hc (by omega)
theorem rdeinter_any (c : ByteArray) (r : Int) (w : World) (hc : c.size ≤ 1000) (r2 : r ≤ 9223372036854775807) : Calls Try.prog 15 #[.string c, .int .i64 r] w (Dled c r w) := by
  unfold Dled
  by_cases h : r < 1
  · obtain ⟨g1, _, g2⟩ := p_arg (c := c) h
    rw [g1, g2]
    exact rdarg_any c r w h
  · obtain ⟨R, rfl⟩ : ∃ I : Nat, r = I := ⟨r.toNat, by omega⟩
    rw [p_ok (by omega), dS_at (by omega)]
    exact rdeinter_core c R w (by omega) hc (by omega)
end Go.Proofs.Ythncpflbojoejaa.I11
