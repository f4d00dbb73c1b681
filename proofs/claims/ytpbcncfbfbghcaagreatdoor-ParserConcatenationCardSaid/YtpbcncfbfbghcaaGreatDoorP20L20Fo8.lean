/- The landed formatter: functions; the finished text (layer 20). -/
import Derived.Test.YtpbcncfbfbghcaaGreatDoorP20S
import Derived.Lib.UnsafeStr
import Derived.RegionTactic
namespace Go.Proofs.YtpbcncfbfbghcaaGreatDoor.L20
set_option maxRecDepth 100000
open Go.RowKit Mem L19
open M17 (Laid Laid.below)
set_option linter.unusedVariables false
set_option linter.unusedSimpArgs false

set_option maxHeartbeats 2000000 in
/-- The text of a builder that holds a byte. -/
theorem tx_string {T : TypeId} {x : List Value} {B b : Nat} {l : Str} {w : World} (h : Tx T x B b l w) (h0 : l ≠ []) :
    Calls Tryz.prog 46 #[.pointer (some ⟨b, 0, none⟩)] w fun e w' => e = .returned (.string ⟨l.toArray⟩) ∧ Below B w w' := by
  obtain ⟨p, hAt⟩ : ∃ p, TxAt T x B b p l w := by
    rcases h with h | h
    · exact ⟨_, h⟩
    · exact ⟨_, h⟩
  obtain ⟨hB, v, hbk, hown, hne⟩ := hAt
  have hl0 : l.length ≠ 0 := by simpa using h0
  obtain ⟨g, cap, cur, fz, rfl, hbg, hg, hnc, hcm, hcs⟩ : ∃ g cap cur fz, v = .slice (some ⟨g, 0, none⟩) l.length cap ∧ B ≤ g ∧ w.heap[g]? = some (.cells cur 5 fz) ∧ l.length ≤ cap ∧ cap ≤ maxLen ∧ cur.size = cap * 1 := by
    rcases hown.2 with ⟨_, hz⟩ | ⟨g, cap, cur, hv, hb, hg, h1, h2, h3, _⟩
    · exact absurd hz hl0
    · exact ⟨g, cap, cur, _, hv, hb, hg, h1, h2, h3⟩
  have c1 : w.drew.cell? ⟨b, 1, none⟩ = some (.slice (some ⟨g, 0, none⟩) l.length cap) := by
    have : w.drew.heap[b]? = some (.cells (p :: .slice (some ⟨g, 0, none⟩) l.length cap :: x).toArray T (0, 0)) := hbk
    rw [Lib.cell_of_heap this]; rfl
  have hSD : (Builtin.unsafeSliceData_ #[79] 116 #[.slice (some ⟨g, 0, none⟩) l.length cap]).run Tryz.prog w.drew = .ok (.pointer (some ⟨g, 0, none⟩)) w.drew :=
    Lib.run_unsafeSliceData_row _ _ _ _ _ _ (by omega)
  have hUS : (Builtin.unsafeString_ #[116, 3] 9 #[.pointer (some ⟨g, 0, none⟩), .int .i64 l.length]).run Tryz.prog w.drew = .ok (.string ⟨l.toArray⟩) (w.drew.freeze ⟨g, 0, none⟩ l.length) := by
    refine Lib.run_unsafeString_row w.drew 116 3 9 5 Tryz.underlying116 (by kernel_rfl) g cur.size (by have hg' : w.drew.heap[g]? = some (.cells cur 5 fz) := hg; simp [World.shape?, hg']) l h0 (by omega) (by unfold maxLen at hcm; omega) ?_
    intro j y hy
    exact hown.cells (g := g) rfl j (.int .u8 y.toNat) (by simp [Lib.byteCells, hy])
  have hb := Lib.hid (Lib.below_freeze (Below.drew (Below.refl B w)) (p := ⟨g, 0, none⟩) hbg l.length)
  clear hown hne hbk h hg
  go_enter Tryz.func46, Tryz.ntmps46
  go_wp2
  go_region
  all_goals (go_wp2; go_ret; exact ⟨rfl, hb.out⟩)
set_option maxHeartbeats 2000000 in
/-- .. of one that was never written to. -/
theorem tx_string_nil {T : TypeId} {x : List Value} {B b : Nat} {p : Value} {w : World} (hbk : w.heap[b]? = some (.cells (p :: .slice none 0 0 :: x).toArray T (0, 0))) :
    Calls Tryz.prog 46 #[.pointer (some ⟨b, 0, none⟩)] w fun e w' => e = .returned (.string ⟨#[]⟩) ∧ Below B w w' := by
  have hUS := fun (W : World) (q : Option Addr) => Lib.run_unsafeString_none (P := Tryz.prog) W 116 3 9 q
  have c1 : w.drew.cell? ⟨b, 1, none⟩ = some (.slice none 0 0) := by
    have : w.drew.heap[b]? = some (.cells (p :: .slice none 0 0 :: x).toArray T (0, 0)) := hbk
    rw [Lib.cell_of_heap this]; rfl
  have hSD : (Builtin.unsafeSliceData_ #[79] 116 #[.slice none 0 0]).run Tryz.prog w.drew = .ok (.pointer none) w.drew := rfl
  have hb := Lib.hid (Below.drew (Below.refl B w))
  clear hbk
  go_enter Tryz.func46, Tryz.ntmps46
  go_wp2
  go_region
  all_goals (go_wp2; go_ret; exact ⟨rfl, hb.out⟩)
/-- A box that holds a function. -/
theorem fx_box {W : World} {g : Nat} {c0 c1 c2 c3 : Value} (h : Blk 44 W g [c0, c1, c2, c3]) : (W.cell? ⟨g, 0, none⟩ = some c0 ∧ W.cell? ⟨g, 1, none⟩ = some c1 ∧ W.cell? ⟨g, 2, none⟩ = some c2 ∧ W.cell? ⟨g, 3, none⟩ = some c3) ∧
    W.frozen? ⟨g, 0, none⟩ = false ∧ W.frozen? ⟨g, 1, none⟩ = false ∧ W.frozen? ⟨g, 2, none⟩ = false ∧ W.frozen? ⟨g, 3, none⟩ = false := ⟨⟨h.cell 0, h.cell 1, h.cell 2, h.cell 3⟩, h.frz 0, h.frz 1, h.frz 2, h.frz 3⟩
theorem ind2_one : ind2 1 = [32, 32] := rfl
theorem ind2_zero : ind2 0 = [] := rfl
theorem five_bytes (a b c d e : ByteArray) : (a ++ b ++ c ++ d ++ e).data.toList = a.data.toList ++ b.data.toList ++ c.data.toList ++ d.data.toList ++ e.data.toList := by
  rw [two_bytes, four_bytes]
set_option maxHeartbeats 16000000 in
theorem wfunction_any {f : Go.Proofs.YtpbcncfbfbghcaaGreatDoor.L20.Fn} (hw : Wff f) {B b : Nat} {t : Str} {w : World} {P L E : Option Addr} {cp cl cb : Nat} {N : ByteArray} {lp ll lb : Nat} (hN : strV f.name = .string N) (h1 : f.params.length = lp) (h2 : f.locals.length = ll) (h3 : f.body.length = lb)
    (hT : TxW 0 B b t w) (hP : StrsF w (fun k => k < B) f.params P cp) (hLo : StrsF w (fun k => k < B) f.locals L cl) (hE : Sts w (fun k => k < B) f.body E cb) (hlen : t.length + (ffnT f).length ≤ 1000000000) (hp9 : lp ≤ 1000000 ∧ ll ≤ 1000000) (hB : Bas B w) :
    Calls Tryz.prog 45 #[.pointer (some ⟨b, 0, none⟩), .agg #[.string N, .slice P lp cp, .slice L ll cl, .slice E lb cb]] w fun e w' => e = .returned (.tuple #[]) ∧ TxW 0 B b (t ++ ffnT f) w' ∧ Wr B b w w' := by
  obtain ⟨v1, v2, v3, v4, v5⟩ := hw
  obtain ⟨W0, g0, hW0, hg0, hb0, hl0⟩ := box_mk w [.string N, .slice P lp cp, .slice L ll cl, .slice E lb cb] 44
  have hle0 := hB.le
  have hbb := hT.base
  have hgb : g0 ≠ b := by omega
  have hB0 := hB.below (hl0.mono hle0)
  have hT0 := hT.below hl0
  have hw0 : Wr B b w W0 := Wr.of_below hl0 hle0
  obtain ⟨⟨z0, z1, z2, z3⟩, _⟩ := fx_box hb0
  have hNl : N.data.toList = f.name := strV_list hN
  have hN1 : N.size ≤ 24 := by rw [str_len hNl]; exact name_len v1
  have hlt := Lib.hid hlen
  have hff : ffnT f = kFunc ++ [32] ++ f.name ++ [40] ++ jc f.params ++ [41, 32, 123, 10] ++ fvT 1 f.locals ++ fstl 1 f.body ++ [125, 10] := rfl
  unfold ffnT at hlen
  have hjp : (jc f.params).length ≤ 1000000000 := by simp only [List.length_append, List.length_cons, List.length_nil] at hlen; omega
  have hP0 := Lib.hid (hP.keep hw0.kept)
  have hL0 := Lib.hid (hLo.keep hw0.kept)
  have hE0 := Lib.hid (hE.keep hw0.kept)
  have cI := Lib.hid (fun (W : World) (h : Below W0.heap.size W0 W) => commas_any (hP0.out.keep (Kept.of_below h)) h1 hjp (by omega))
  have cL := Lib.hid (fun (W : World) (Y : ByteArray) (h : Below W0.heap.size W0 W) (hY : Y.data.toList = jc f.params) => line_any (hT0.below h) (hB0.below (h.mono hB0.le)).le (⟨#[102, 117, 110, 99, 32]⟩ ++ N ++ ⟨#[40]⟩ ++ Y ++ ⟨#[41, 32, 123]⟩) (x := kFunc ++ [32] ++ f.name ++ [40] ++ jc f.params ++ [41, 32, 123]) (by rw [five_bytes, hNl, hY]; rfl) (by omega) (by simp only [List.length_append, List.length_cons, List.length_nil] at hlen ⊢; omega))
  obtain ⟨t1, ht1⟩ : ∃ t1, t ++ (ind2 0 ++ (kFunc ++ [32] ++ f.name ++ [40] ++ jc f.params ++ [41, 32, 123]) ++ [10]) = t1 := ⟨_, rfl⟩
  rw [ht1] at cL
  have hlt0 := hb0.lt
  have kb : ∀ W, Below W0.heap.size W0 W → W.cell? ⟨g0, 0, none⟩ = some (.string N) ∧ W.cell? ⟨g0, 1, none⟩ = some (.slice P lp cp) := fun W h => ⟨(h.cell (p := ⟨g0, 0, none⟩) hlt0).trans z0, (h.cell (p := ⟨g0, 1, none⟩) hlt0).trans z1⟩
  have kw : ∀ W W', Below W0.heap.size W0 W → Wr B b W W' → W'.cell? ⟨g0, 0, none⟩ = some (.string N) ∧ W'.cell? ⟨g0, 1, none⟩ = some (.slice P lp cp) := fun W W' h h' => by
    have := h'.blk (hb0.below h) hgb (by decide)
    exact ⟨this.cell 0, this.cell 1⟩
  have hWx : ∀ W W', Below W0.heap.size W0 W → Wr B b W W' → Wr B b W0 W' := fun W W' h h' => (Wr.of_below h hB0.le).trans h'
  have keep0 := Below.refl W0.heap.size W0
  have keep1 : ∀ W, Below W0.heap.size W0 W → Below W0.heap.size W0 (World.drew W) := fun W h => h.drew
  replace hWx := Lib.hid hWx
  have s1 : ¬ 9223372036854775807 < 5 + N.size := by omega
  have s2 : ¬ 9223372036854775807 < 5 + N.size + 1 := by omega
  replace hb0 := Lib.hid hb0
  replace hw0 := Lib.hid hw0
  replace hB0 := Lib.hid hB0
  clear hT hP hLo hE hB hT0 hl0
  go_enter Tryz.func45, Tryz.ntmps45
  go_wp2_with fail
  go_region_held3 (fun W => W.cell? ⟨g0, 0, none⟩ = some (.string N) ∧ W.cell? ⟨g0, 1, none⟩ = some (.slice P lp cp)) (first | exact kb _ keep0 | exact kb _ (keep1 _ keep0) | exact kw _ _ ‹_› ‹_› | exact kw _ _ (chain (keep1 _ keep0) ‹_›) ‹_› | exact kw _ _ (chain keep0 ‹_›) ‹_› | exact kb _ (chain (keep1 _ keep0) ‹_›) | exact kb _ (chain keep0 ‹_›)) (first | (go_at_call 43; (with_reducible refine (cI.out _ (by first | exact keep0 | exact keep1 _ keep0)).mono ?_); rintro e w9 ⟨⟨Y, hY, rfl⟩, hb9⟩; have hYz : Y.size ≤ 1000000000 := (by rw [str_len hY]; exact hjp); have s3 : ¬ 9223372036854775807 < 5 + N.size + 1 + Y.size := (by omega); have s4 : ¬ 9223372036854775807 < 5 + N.size + 1 + Y.size + 3 := (by omega)) | (go_at_call 42; (with_reducible refine (cL.out _ _ (by first | exact chain (keep1 _ keep0) ‹_› | exact chain keep0 ‹_›) ‹_›).mono ?_); rintro e w2 ⟨rfl, hT2, hW2'⟩))
  all_goals (
    have hW2 := Lib.hid (show Wr B b W0 w2 by first | exact hWx.out _ _ (chain (keep1 _ keep0) ‹_›) ‹_› | exact hWx.out _ _ (chain keep0 ‹_›) ‹_›)
    replace hT2 := Lib.hid hT2
    clear kb kw keep0 keep1 cI cL hWx hW2' hY hb9)
  all_goals (
    have hw2 := hw0.out.trans hW2.out
    have hB2 := hB0.out.below hW2.out.below
    have hb2 := hW2.out.blk hb0.out hgb (by decide)
    obtain ⟨⟨u0, u1, u2, u3⟩, _⟩ := fx_box hb2
    have hL2 := hL0.out.keep hW2.out.kept
    have hE2 := hE0.out.keep hW2.out.kept
    have hT2 := hT2.out
    have hlen1 : t1.length + ((fvT 1 f.locals).length + (fstl 1 f.body).length + 2) ≤ 1000000000 := by rw [← ht1]; simp only [List.length_append, List.length_cons, List.length_nil, ind2_zero] at hlen ⊢; omega
    have hfin : t1 ++ fvT 1 f.locals ++ fstl 1 f.body ++ (ind2 0 ++ [125] ++ [10]) = t ++ ffnT f := by rw [hff, ← ht1, ind2_zero]; simp
    replace hfin := Lib.hid hfin
    clear hlen ht1 hjp hff hL0 hE0 hW2 hw0 hB0 hb0 hP0 hlt
    by_cases hl : f.locals = []
    · rw [hl] at h2 hfin hlen1
      obtain rfl : 0 = ll := h2
      rw [show fvT 1 [] = [] from rfl] at hfin hlen1
      rw [List.append_nil] at hfin
      have c3 := Lib.hid (block_step (fun s _ => ws_all s) v4 h3 hT2 hE2 (by omega) (by show _ + (fstl 1 f.body).length ≤ _; simp only [List.length_nil] at hlen1; omega) hB2)
      simp only [Nat.zero_add] at c3
      clear hT2 hE2 hL2 hb2
      go_wp2_with fail
      refine (c3.out).mono ?_
      rintro e w3 ⟨rfl, hT3, hW3⟩
      have hw3 := hw2.trans hW3
      have c4 := Lib.hid (line_any hT3 (hB2.below hW3.below).le ⟨#[125]⟩ (x := [125]) rfl (by omega) (by rw [List.length_append]; simp only [List.length_cons, List.length_nil] at hlen1 ⊢; omega))
      rw [hfin.out] at c4
      clear hT3 hW3 c3
      go_wp2_with fail
      refine (c4.out).mono ?_
      rintro e w4 ⟨rfl, hT4, hW4⟩
      have hw4 := hw3.trans hW4
      go_wp2
      first | go_ret | go_ret2 | go_end0 | skip
      exact ⟨rfl, hT4, hw4⟩
    · have hll : 0 < ll := by rw [← h2]; exact List.length_pos_iff.2 hl
      have dll : decide ((0 : Int) < (ll : Int)) = true := decide_eq_true (by omega)
      have hfv : fvT 1 f.locals = [32, 32] ++ kVar ++ [32] ++ jc f.locals ++ [59, 10] := by unfold fvT; rw [if_neg (by rw [List.isEmpty_iff]; exact hl)]; rfl
      rw [hfv] at hfin hlen1
      have hjl : (jc f.locals).length ≤ 1000000000 := by simp only [List.length_append, List.length_cons, List.length_nil] at hlen1; omega
      have c3 := Lib.hid (commas_any hL2 h2 hjl (by omega))
      have hT2 := Lib.hid hT2
      have hE2 := Lib.hid hE2
      have hb2 := Lib.hid hb2
      clear hL2
      go_wp2_with fail
      refine (c3.out).mono ?_
      rintro e w3 ⟨⟨Z, hZ, rfl⟩, hb3⟩
      have hZz : Z.size ≤ 1000000000 := by rw [str_len hZ]; exact hjl
      have hB3 := hB2.below (hb3.mono hB2.le)
      have hw3 := hw2.trans (Wr.of_below hb3 hB2.le)
      have hb4 := hb2.out.below hb3
      have hE3 := Lib.hid (hE2.out.keep (Wr.of_below (b := b) hb3 hB2.le).kept)
      have c4 := Lib.hid (line_any (hT2.out.below hb3) hB3.le (⟨#[32, 32, 118, 97, 114, 32]⟩ ++ Z ++ ⟨#[59]⟩) (x := [32, 32] ++ kVar ++ [32] ++ jc f.locals ++ [59]) (by rw [three_bytes, hZ]; rfl) (by omega) (by simp only [List.length_append, List.length_cons, List.length_nil] at hlen1 ⊢; omega))
      rw [show t1 ++ (ind2 0 ++ ([32, 32] ++ kVar ++ [32] ++ jc f.locals ++ [59]) ++ [10]) = t1 ++ ([32, 32] ++ kVar ++ [32] ++ jc f.locals ++ [59, 10]) by rw [ind2_zero]; simp] at c4
      clear hT2 hE2 hb2 hb3 hZ c3
      go_wp2_with fail
      refine (c4.out).mono ?_
      rintro e w4 ⟨rfl, hT4, hW4⟩
      have hw4 := hw3.trans hW4
      have hB4 := hB3.below hW4.below
      obtain ⟨⟨y0, y1, y2, y3⟩, _⟩ := fx_box (hW4.blk hb4 hgb (by decide))
      have c5 := Lib.hid (block_step (fun s _ => ws_all s) v4 h3 hT4 (hE3.out.keep hW4.kept) (by omega) (by show _ + (fstl 1 f.body).length ≤ _; simp only [List.length_append, List.length_cons, List.length_nil] at hlen1 ⊢; omega) hB4)
      simp only [Nat.zero_add] at c5
      clear hT4 hE3 hW4 c4 hb4
      go_wp2_with fail
      refine (c5.out).mono ?_
      rintro e w5 ⟨rfl, hT5, hW5⟩
      have hw5 := hw4.trans hW5
      have c6 := Lib.hid (line_any hT5 (hB4.below hW5.below).le ⟨#[125]⟩ (x := [125]) rfl (by omega) (by simp only [List.length_append, List.length_cons, List.length_nil] at hlen1 ⊢; omega))
      rw [hfin.out] at c6
      clear hT5 hW5 c5
      go_wp2_with fail
      refine (c6.out).mono ?_
      rintro e w6 ⟨rfl, hT6, hW6⟩
      have hw6 := hw5.trans hW6
      go_wp2
      first | go_ret | go_ret2 | go_end0 | skip
      exact ⟨rfl, hT6, hw6⟩)
end Go.Proofs.YtpbcncfbfbghcaaGreatDoor.L20
