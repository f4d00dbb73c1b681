/- The contract of the landed Format (layer 20). -/
import Derived.Test.YtpbcncfbfbghcaaGreatDoorP20L20Fo8
import Derived.Test.YtpbcncfbfbghcaaGreatDoorP20M
namespace Go.Proofs.YtpbcncfbfbghcaaGreatDoor.L20
set_option maxRecDepth 100000
open Go.RowKit Mem L19
open M17 (Laid Laid.below)
set_option linter.unusedVariables false
set_option linter.unusedSimpArgs false

theorem jc_count : ∀ l : List Str, l.length ≤ (jc l).length + 1
  | [] => by simp
  | [a] => by simp
  | a :: b :: r => by
    have := jc_count (b :: r)
    rw [jc]
    simp only [List.length_append, List.length_cons, List.length_nil] at this ⊢
    omega
/-- A writer that was never written to. -/
def Fr (b : Nat) (t : Str) (w : World) : Prop := t = [] → ∃ p, w.heap[b]? = some (.cells (p :: .slice none 0 0 :: [.int .i64 ((0 : Nat) : Int)]).toArray 83 (0, 0))
theorem Fr.some {b : Nat} {t : Str} {w : World} (h : t ≠ []) : Fr b t w := fun e => absurd e h
theorem farr_ne (a : Str × Nat) : farrT a ≠ [] := by unfold farrT; simp
theorem ffn_ne (f : Go.Proofs.YtpbcncfbfbghcaaGreatDoor.L20.Fn) : ffnT f ≠ [] := by unfold ffnT; simp
theorem arr_take {l : List (Str × Nat)} {k : Nat} {a : Str × Nat} (h : l[k]? = some a) : (l.take (k + 1)).flatMap farrT = (l.take k).flatMap farrT ++ farrT a := by
  rw [List.take_add_one, h, List.flatMap_append]; simp
theorem fns_take {l : List Go.Proofs.YtpbcncfbfbghcaaGreatDoor.L20.Fn} {k : Nat} {a : Go.Proofs.YtpbcncfbfbghcaaGreatDoor.L20.Fn} (h : l[k]? = some a) : (l.take (k + 1)).flatMap ffnT = (l.take k).flatMap ffnT ++ ffnT a := by
  rw [List.take_add_one, h, List.flatMap_append]; simp
theorem arr_take_le (l : List (Str × Nat)) (k : Nat) : ((l.take k).flatMap farrT).length ≤ (l.flatMap farrT).length := by
  have h : l.flatMap farrT = (l.take k).flatMap farrT ++ (l.drop k).flatMap farrT := by rw [← List.flatMap_append, List.take_append_drop]
  rw [h, List.length_append]; omega
theorem fns_take_le (l : List Go.Proofs.YtpbcncfbfbghcaaGreatDoor.L20.Fn) (k : Nat) : ((l.take k).flatMap ffnT).length ≤ (l.flatMap ffnT).length := by
  have h : l.flatMap ffnT = (l.take k).flatMap ffnT ++ (l.drop k).flatMap ffnT := by rw [← List.flatMap_append, List.take_append_drop]
  rw [h, List.length_append]; omega
theorem arr_store (w : World) (c0 c1 : Value) : ∃ W g W', w.alloc (.cells #[.string ⟨#[]⟩, .int .i64 0] 72) = W ∧ w.heap.size = g ∧ (W.setCell ⟨g, 0, none⟩ c0).setCell ⟨g, 1, none⟩ c1 = W' ∧
    Blk 72 W g [.string ⟨#[]⟩, .int .i64 0] ∧ Blk 72 W' g [c0, c1] ∧ Below w.heap.size w W' := by
  obtain ⟨W, g, hW, hg, hb, hl⟩ := box_mk w [.string ⟨#[]⟩, .int .i64 0] 72
  have hlg : w.heap.size ≤ g := Nat.le_of_eq hg
  exact ⟨W, g, _, hW, hg, rfl, hb, (hb.set 0 _).set 1 _, (hl.setCell (p := ⟨g, 0, none⟩) hlg _).setCell (p := ⟨g, 1, none⟩) hlg _⟩
theorem fn_store (w : World) (c0 c1 c2 c3 : Value) : ∃ W g W', w.alloc (.cells #[.string ⟨#[]⟩, .slice none 0 0, .slice none 0 0, .slice none 0 0] 44) = W ∧ w.heap.size = g ∧ (((W.setCell ⟨g, 0, none⟩ c0).setCell ⟨g, 1, none⟩ c1).setCell ⟨g, 2, none⟩ c2).setCell ⟨g, 3, none⟩ c3 = W' ∧
    Blk 44 W g [.string ⟨#[]⟩, .slice none 0 0, .slice none 0 0, .slice none 0 0] ∧ Blk 44 W' g [c0, c1, c2, c3] ∧ Below w.heap.size w W' := by
  obtain ⟨W, g, hW, hg, hb, hl⟩ := box_mk w [.string ⟨#[]⟩, .slice none 0 0, .slice none 0 0, .slice none 0 0] 44
  have hlg : w.heap.size ≤ g := Nat.le_of_eq hg
  exact ⟨W, g, _, hW, hg, rfl, hb, (((hb.set 0 _).set 1 _).set 2 _).set 3 _, (((hl.setCell (p := ⟨g, 0, none⟩) hlg _).setCell (p := ⟨g, 1, none⟩) hlg _).setCell (p := ⟨g, 2, none⟩) hlg _).setCell (p := ⟨g, 3, none⟩) hlg _⟩
theorem fn_let (f : Go.Proofs.YtpbcncfbfbghcaaGreatDoor.L20.Fn) (P L B : Option Addr) (cp cl cb : Nat) : ∃ (N : ByteArray) (lp ll lb : Nat), strV f.name = .string N ∧ f.params.length = lp ∧ f.locals.length = ll ∧ f.body.length = lb ∧ fCells f P L B cp cl cb = [.string N, .slice P lp cp, .slice L ll cl, .slice B lb cb] := ⟨_, _, _, _, rfl, rfl, rfl, rfl, rfl⟩
theorem fn_counts {f : Go.Proofs.YtpbcncfbfbghcaaGreatDoor.L20.Fn} {m : Nat} (h : (ffnT f).length ≤ m) : f.params.length ≤ m + 1 ∧ f.locals.length ≤ m + 1 := by
  have h1 := jc_count f.params
  have h2 := jc_count f.locals
  unfold ffnT at h
  simp only [List.length_append, List.length_cons, List.length_nil] at h
  refine ⟨by omega, ?_⟩
  by_cases hl : f.locals = []
  · rw [hl]; simp
  · have : (fvT 1 f.locals).length = (ind2 1 ++ kVar ++ [32] ++ jc f.locals ++ [59, 10]).length := by unfold fvT; rw [if_neg (by rw [List.isEmpty_iff]; exact hl)]
    simp only [List.length_append, List.length_cons, List.length_nil] at this
    omega
set_option maxHeartbeats 32000000 in
theorem Format_any {p : Prog} {F : Nat → Prop} {V A E : Option Addr} {cv ca ce : Nat} {w : World} (hp : PgM w F p V A E cv ca ce) (wp : Wfp p) {lv la lf : Nat} (h1 : p.vars.length = lv) (h2 : p.arrays.length = la) (h3 : p.funcs.length = lf) (hlen : (txt (fmt p)).length ≤ 900000) (hL : Laid w) :
    Calls Tryz.prog 16 #[.agg #[.slice V lv cv, .slice A la ca, .slice E lf ce]] w fun e w' => (∃ S : ByteArray, S.data.toList = txt (fmt p) ∧ e = .returned (.string S)) ∧ Below w.heap.size w w' := by
  have hbase : Bas w.heap.size w := Bas.start hL
  have hpB : PgM w (fun x => x < w.heap.size) p V A E cv ca ce := hp.mono fun b hb _ => hb
  obtain ⟨B, hBe⟩ : ∃ B, w.heap.size = B := ⟨_, rfl⟩
  obtain ⟨W0, g0, hW0, hg0, hb0, hl0⟩ := box_mk w [.slice V lv cv, .slice A la ca, .slice E lf ce] 27
  have hb1 := Blk.new W0 83 [.pointer none, .slice none 0 0, .int .i64 0]
  obtain ⟨W1, hW1⟩ : ∃ W, W0.alloc (.cells #[.pointer none, .slice none 0 0, .int .i64 0] 83) = W := ⟨_, rfl⟩
  have hl1 : Below W0.heap.size W0 W1 := by rw [← hW1]; exact boxed W0 _
  obtain ⟨b, hb⟩ : ∃ g, W0.heap.size = g := ⟨_, rfl⟩
  change Blk 83 (W0.alloc (.cells #[.pointer none, .slice none 0 0, .int .i64 0] 83)) _ _ at hb1
  rw [hW1, hb] at hb1
  rw [hBe] at hpB hbase ⊢
  have hs0 := hl0.size
  have hs0' := hb0.lt
  have hBb : B ≤ b := by omega
  have hgb : g0 ≠ b := by omega
  obtain rfl : B = g0 := hBe.symm.trans hg0
  clear hg0
  have hbl1 : Below B w W1 := by have := chain hl0 hl1; rw [hBe] at this; exact this
  have hB1 : Bas B W1 := hbase.below hbl1
  have hT1 : TxW 0 B b [] W1 := .inl ⟨hBb, .slice none 0 0, hb1, World.ownsRow_nil _ _ _ _, by simp [Value.ownBlock]⟩
  have hF1 : Fr b [] W1 := fun _ => ⟨_, hb1⟩
  have hb01 := hb0.below hl1
  obtain ⟨z0, z1, z2, _, _, _⟩ := pg_box hb01
  have hpk : ∀ W, Wr B b W1 W → PgM W (fun x => x < B) p V A E cv ca ce := fun W h => (hpB.keep ⟨hbl1.size, fun x hx _ => hbl1.block x hx⟩).keep h.kept
  obtain ⟨w1, w2, w3⟩ := wp
  rw [txt_fmt] at hlen ⊢
  have hgoal : ∀ (S : ByteArray) (W W' : World), S.data.toList = fvT 0 p.vars ++ p.arrays.flatMap farrT ++ p.funcs.flatMap ffnT → Wr B b W1 W → Below B W W' → (∃ S' : ByteArray, S'.data.toList = fvT 0 p.vars ++ p.arrays.flatMap farrT ++ p.funcs.flatMap ffnT ∧ Ending.returned (.string S) = .returned (.string S')) ∧ Below B w W' := fun S W W' h1 h2 h3 => ⟨⟨S, h1, rfl⟩, (hbl1.trans h2.below).trans h3⟩
  obtain ⟨tv, htv⟩ : ∃ t, fvT 0 p.vars = t := ⟨_, rfl⟩
  obtain ⟨ta, hta⟩ : ∃ t, p.arrays.flatMap farrT = t := ⟨_, rfl⟩
  obtain ⟨tf, htf⟩ : ∃ t, p.funcs.flatMap ffnT = t := ⟨_, rfl⟩
  rw [htv, hta, htf] at hlen hgoal ⊢
  have hlen2 : tv.length + ta.length + tf.length ≤ 900000 := by simp only [List.length_append] at hlen; omega
  have hma : la ≤ 9223372036854775807 := by have h := hpB.arrays.le; have h' := hpB.arrays.capm; unfold maxLen at h'; omega
  have hmf : lf ≤ 9223372036854775807 := by obtain ⟨css, h, _⟩ := hpB.funcs; have h' := h.capm; have h'' := h.le; unfold maxLen at h'; omega
  have hma1 : (la : Int) ≤ 9223372036854775807 := by omega
  have hmf1 : (lf : Int) ≤ 9223372036854775807 := by omega
  -- the declarations of variables
  have hcut : Calls Tryz.prog 16 #[.agg #[.slice V lv cv, .slice A la ca, .slice E lf ce]] w (fun e w' => (∃ S : ByteArray, S.data.toList = tv ++ ta ++ tf ∧ e = .returned (.string S)) ∧ Below B w w') := by
    replace hgoal := Lib.hid hgoal
    replace hpk := Lib.hid hpk
    replace hB1 := Lib.hid hB1
    replace hb01 := Lib.hid hb01
    have hF1 := Lib.hid hF1
    have hT1 := Lib.hid hT1
    have w1 := Lib.hid w1
    have w2 := Lib.hid w2
    have w3 := Lib.hid w3
    clear hp hpB hbase hlen hl0 hl1 hbl1 hb0 hb1 hL
    by_cases hv : p.vars = []
    · have htv0 : tv = [] := by rw [← htv, hv]; rfl
      rw [hv] at h1
      obtain rfl : 0 = lv := h1
      have hT : TxW 0 B b tv W1 := by rw [htv0]; exact hT1.out
      have hF : Fr b tv W1 := by rw [htv0]; exact hF1.out
      have hwc := Wr.refl B b W1
      clear htv htv0 hv
      go_enter Tryz.func16, Tryz.ntmps16
      clear hF1 hT1 w1
      go_wp2
      go_loopw [21] (fun iv wr => ∃ k : Nat, iv = .int .i64 (k : Int) ∧ k ≤ la ∧ TxW 0 B b (tv ++ (p.arrays.take k).flatMap farrT) wr ∧ Wr B b W1 wr ∧ Fr b (tv ++ (p.arrays.take k).flatMap farrT) wr) (fun iv _ => la - (intOf iv).toNat)
      case atStart => exact ⟨0, rfl, Nat.zero_le _, by simpa using hT, hwc, by simpa using hF⟩
      case round =>
        clear hT hF hwc z0 z1 z2
        obtain ⟨k, rfl, hk, hT, hwr, hF⟩ := hrel
        by_cases hlt : k < la
        · obtain ⟨y, hy⟩ : ∃ y, p.arrays[k]? = some y := ⟨_, List.getElem?_eq_getElem (by omega)⟩
          have hpr := hpk.out wr hwr
          obtain ⟨b1, o1, rfl, _, hl1, x0, x1⟩ := hpr.arrays.at hy
          have hy2 : y ∈ p.arrays := List.mem_of_getElem? hy
          obtain ⟨v1, v2⟩ := w2.out y hy2
          have hat := arr_take hy
          have hal := arr_take_le p.arrays (k + 1)
          rw [hat, hta, List.length_append] at hal
          obtain ⟨nm, sz⟩ := y
          dsimp only at x0 x1 v1 v2 hat hal
          obtain ⟨N, hN⟩ : ∃ N : ByteArray, strV nm = .string N := ⟨_, rfl⟩
          rw [hN] at x0
          have hNl : N.data.toList = nm := strV_list hN
          have hN1 : N.size ≤ 24 := by rw [str_len hNl]; exact name_len v1
          obtain ⟨W, g, W', hWa, hg, hWb, hz, hbx, hlx⟩ := arr_store wr (.string N) (.int .i64 (sz : Int))
          have zc := hz.cell 0
          have zd := hz.cell 1
          have zf := hz.frz 0
          have zg := hz.frz 1
          simp only [List.getElem?_cons_zero, List.getElem?_cons_succ] at zc zd
          have yc := hbx.cell 0
          have yd := hbx.cell 1
          simp only [List.getElem?_cons_zero, List.getElem?_cons_succ] at yc yd
          have hBr : Bas B wr := hB1.out.below hwr.below
          have hle := hBr.le
          have hbb := hT.base
          have hBx : Bas B W' := hBr.below (hlx.mono hle)
          have hWx1 : Wr B b W1 W' := hwr.trans (Wr.of_below hlx hle)
          have hTx := hT.below hlx
          have hgb2 : g ≠ b := by omega
          have dk : decide ((k : Int) < (la : Int)) = true := decide_eq_true (by omega)
          have k0 : (0 : Int) ≤ (k : Int) := by omega
          have k1 : (k : Int) < (la : Int) := by omega
          have sz0 : (0 : Int) ≤ (sz : Int) := by omega
          have cI := Lib.hid (fun (W : World) (h : Below W'.heap.size W' W) => itoa_any sz (by omega) W (hBx.laid.below h))
          obtain ⟨D, hD⟩ : ∃ D : ByteArray, ⟨(Lib.decDigits sz).toArray⟩ = D := ⟨_, rfl⟩
          have hDl : D.data.toList = dec sz := by rw [← hD]
          have hfar : (farrT (nm, sz)).length = nm.length + (dec sz).length + 10 := by unfold farrT; simp only [List.length_append, List.length_cons, List.length_nil]; omega
          rw [hD] at cI
          have hDz : D.size ≤ 900000 := by rw [str_len hDl]; omega
          have cL := Lib.hid (fun (W : World) (h : Below W'.heap.size W' W) => line_any (hTx.below h) (hBx.below (h.mono hBx.le)).le (⟨#[97, 114, 114, 97, 121, 32]⟩ ++ N ++ ⟨#[91]⟩ ++ D ++ ⟨#[93, 59]⟩) (x := kArray ++ [32] ++ nm ++ [91] ++ dec sz ++ [93, 59]) (by rw [five_bytes, hNl, hDl]; rfl) (by omega) (by simp only [List.length_append, List.length_cons, List.length_nil]; omega))
          rw [show tv ++ (p.arrays.take k).flatMap farrT ++ (ind2 0 ++ (kArray ++ [32] ++ nm ++ [91] ++ dec sz ++ [93, 59]) ++ [10]) = tv ++ (p.arrays.take (k + 1)).flatMap farrT by rw [hat, ind2_zero]; unfold farrT; simp] at cL
          have hne : tv ++ (p.arrays.take (k + 1)).flatMap farrT ≠ [] := by rw [hat]; intro e; have := (List.append_eq_nil_iff.1 (List.append_eq_nil_iff.1 e).2).2; exact farr_ne _ this
          have hlt0 := hbx.lt
          have kb : ∀ W, Below W'.heap.size W' W → W.cell? ⟨g, 0, none⟩ = some (.string N) ∧ W.cell? ⟨g, 1, none⟩ = some (.int .i64 (sz : Int)) := fun W h => ⟨(h.cell (p := ⟨g, 0, none⟩) hlt0).trans yc, (h.cell (p := ⟨g, 1, none⟩) hlt0).trans yd⟩
          have kw : ∀ W W2, Below W'.heap.size W' W → Wr B b W W2 → W2.cell? ⟨g, 0, none⟩ = some (.string N) ∧ W2.cell? ⟨g, 1, none⟩ = some (.int .i64 (sz : Int)) := fun W W2 h h' => by
            have := h'.blk (hbx.below h) hgb2 (by decide)
            exact ⟨this.cell 0, this.cell 1⟩
          have hWx : ∀ W W2, Below W'.heap.size W' W → Wr B b W W2 → Wr B b W1 W2 := fun W W2 h h' => (hWx1.trans (Wr.of_below h hBx.le)).trans h'
          have keep0 := Below.refl W'.heap.size W'
          have keep1 : ∀ W, Below W'.heap.size W' W → Below W'.heap.size W' (World.drew W) := fun W h => h.drew
          have hWx := Lib.hid hWx
          have s1 : ¬ 9223372036854775807 < 6 + N.size := by omega
          have s2 : ¬ 9223372036854775807 < 6 + N.size + 1 := by omega
          have s3 : ¬ 9223372036854775807 < 6 + N.size + 1 + D.size := by omega
          have s4 : ¬ 9223372036854775807 < 6 + N.size + 1 + D.size + 2 := by omega
          have hne := Lib.hid hne
          clear hpr hy2 v1 v2 hat hal hN hz hbx hlx hBr hBx hWx1 hTx hT hF hwr hbb hD hDl
          by_cases h0 : k = 0
          · subst h0
            simp only [Nat.zero_mul, Nat.add_zero] at x0 x1
            go_wp2_with fail
            go_region_held3 (fun W => W.cell? ⟨g, 0, none⟩ = some (.string N) ∧ W.cell? ⟨g, 1, none⟩ = some (.int .i64 (sz : Int))) (first | exact kb _ keep0 | exact kb _ (keep1 _ keep0) | exact kw _ _ ‹_› ‹_› | exact kw _ _ (chain (keep1 _ keep0) ‹_›) ‹_› | exact kw _ _ (chain keep0 ‹_›) ‹_› | exact kb _ (chain (keep1 _ keep0) ‹_›) | exact kb _ (chain keep0 ‹_›)) (first | (go_at_call 44; (with_reducible refine (cI.out _ (by first | exact keep0 | exact keep1 _ keep0)).mono ?_); rintro e w9 ⟨rfl, hb9⟩) | (go_at_call 42; (with_reducible refine (cL.out _ (by first | exact chain (keep1 _ keep0) ‹_› | exact chain keep0 ‹_›)).mono ?_); rintro e w2 ⟨rfl, hT2, hW2'⟩))
            all_goals (have hW2 := show Wr B b W1 w2 by first | exact hWx.out _ _ (chain (keep1 _ keep0) ‹_›) ‹_› | exact hWx.out _ _ (chain keep0 ‹_›) ‹_›)
            all_goals (clear kb kw keep0 keep1 cI cL hWx hW2' hb9)
            all_goals go_wp2
            all_goals go_roundw
            all_goals first | exact ⟨1, by go_num, by omega, hT2, hW2, Fr.some hne.out⟩ | (simp [intOf]; omega)
          · go_wp2_with fail
            go_region_held3 (fun W => W.cell? ⟨g, 0, none⟩ = some (.string N) ∧ W.cell? ⟨g, 1, none⟩ = some (.int .i64 (sz : Int))) (first | exact kb _ keep0 | exact kb _ (keep1 _ keep0) | exact kw _ _ ‹_› ‹_› | exact kw _ _ (chain (keep1 _ keep0) ‹_›) ‹_› | exact kw _ _ (chain keep0 ‹_›) ‹_› | exact kb _ (chain (keep1 _ keep0) ‹_›) | exact kb _ (chain keep0 ‹_›)) (first | (go_at_call 44; (with_reducible refine (cI.out _ (by first | exact keep0 | exact keep1 _ keep0)).mono ?_); rintro e w9 ⟨rfl, hb9⟩) | (go_at_call 42; (with_reducible refine (cL.out _ (by first | exact chain (keep1 _ keep0) ‹_› | exact chain keep0 ‹_›)).mono ?_); rintro e w2 ⟨rfl, hT2, hW2'⟩))
            all_goals (have hW2 := show Wr B b W1 w2 by first | exact hWx.out _ _ (chain (keep1 _ keep0) ‹_›) ‹_› | exact hWx.out _ _ (chain keep0 ‹_›) ‹_›)
            all_goals (clear kb kw keep0 keep1 cI cL hWx hW2' hb9)
            all_goals go_wp2
            all_goals go_roundw
            all_goals first | exact ⟨k + 1, by go_num, by omega, hT2, hW2, Fr.some hne.out⟩ | (simp [intOf]; omega)
        · obtain rfl : k = la := by omega
          have dk : decide ((k : Int) < (k : Int)) = false := decide_eq_false (by omega)
          rw [List.take_of_length_le (by omega), hta] at hT hF
          obtain ⟨q0, q1, q2, _, _, _⟩ := pg_box (hwr.blk hb01.out hgb (by decide))
          clear hlt w2 hb01
          go_wp2
          go_loopw [39] (fun iv wr => ∃ k : Nat, iv = .int .i64 (k : Int) ∧ k ≤ lf ∧ TxW 0 B b (tv ++ ta ++ (p.funcs.take k).flatMap ffnT) wr ∧ Wr B b W1 wr ∧ Fr b (tv ++ ta ++ (p.funcs.take k).flatMap ffnT) wr) (fun iv _ => lf - (intOf iv).toNat)
          case atStart => exact ⟨0, rfl, Nat.zero_le _, by simpa using hT, hwr, by simpa using hF⟩
          case round =>
            clear hT hF hwr q0 q1 q2
            obtain ⟨j, rfl, hj, hT, hwr, hF⟩ := hrel
            by_cases hlt : j < lf
            · obtain ⟨f, hf⟩ : ∃ y, p.funcs[j]? = some y := ⟨_, List.getElem?_eq_getElem (by omega)⟩
              have hpr := hpk.out _ hwr
              obtain ⟨b1, o1, P, L, E1, cp, cl, cb, rfl, _, hl1, hP, hLo, hE1, hcell⟩ := hpr.funcs.at hf
              obtain ⟨N, lp, ll, lb, hN, k1, k2, k3, hC⟩ := fn_let f P L E1 cp cl cb
              rw [hC] at hcell
              have x0 := hcell 0 _ rfl
              have x1 := hcell 1 _ rfl
              have x2 := hcell 2 _ rfl
              have x3 := hcell 3 _ rfl
              simp only [Nat.add_zero, ← Nat.add_assoc] at x0 x1 x2 x3
              obtain ⟨W, g, W', hWa, hg, hWb, hz, hbx, hlx⟩ := fn_store wr (.string N) (.slice P lp cp) (.slice L ll cl) (.slice E1 lb cb)
              obtain ⟨⟨z0, z1, z2, z3⟩, f0, f1, f2, f3⟩ := fx_box hz
              obtain ⟨⟨y0, y1, y2, y3⟩, _⟩ := fx_box hbx
              have hBr : Bas B wr := hB1.out.below hwr.below
              have hle := hBr.le
              have hBx : Bas B W' := hBr.below (hlx.mono hle)
              have hWx1 : Wr B b W1 W' := hwr.trans (Wr.of_below hlx hle)
              have hTx := hT.below hlx
              have hf2 : f ∈ p.funcs := List.mem_of_getElem? hf
              have hft := fns_take hf
              have hfl := fns_take_le p.funcs (j + 1)
              rw [hft, htf, List.length_append] at hfl
              obtain ⟨n1, n2⟩ := fn_counts (f := f) (m := 900000) (by omega)
              have c1 := Lib.hid (wfunction_any (w3.out f hf2) hN k1 k2 k3 hTx (hP.keep (Kept.of_below hlx)) (hLo.keep (Kept.of_below hlx)) (hE1.keep (Kept.of_below hlx)) (by simp only [List.length_append]; omega) (by omega) hBx)
              rw [List.append_assoc, ← hft] at c1
              have hne : tv ++ ta ++ (p.funcs.take (j + 1)).flatMap ffnT ≠ [] := by rw [hft]; intro e; have := (List.append_eq_nil_iff.1 (List.append_eq_nil_iff.1 e).2).2; exact ffn_ne _ this
              have dk : decide ((j : Int) < (lf : Int)) = true := decide_eq_true (by omega)
              have k0 : (0 : Int) ≤ (j : Int) := by omega
              have kj : (j : Int) < (lf : Int) := by omega
              have hWx1 := Lib.hid hWx1
              have hne := Lib.hid hne
              clear hpr hcell hC hN hP hLo hE1 hz hbx hlx hBr hBx hTx hT hF hwr hf2 hft hfl n1 n2
              by_cases h0 : j = 0
              · subst h0
                simp only [Nat.zero_mul, Nat.add_zero] at x0 x1 x2 x3
                go_wp2_with fail
                refine (c1.out).mono ?_
                rintro e w3 ⟨rfl, hT3, hW3⟩
                have hW3 := hWx1.out.trans hW3
                go_wp2
                go_roundw
                case rel => exact ⟨1, by go_num, by omega, hT3, hW3, Fr.some hne.out⟩
                case measure => simp [intOf]; omega
              · go_wp2_with fail
                refine (c1.out).mono ?_
                rintro e w3 ⟨rfl, hT3, hW3⟩
                have hW3 := hWx1.out.trans hW3
                go_wp2
                go_roundw
                case rel => exact ⟨j + 1, by go_num, by omega, hT3, hW3, Fr.some hne.out⟩
                case measure => simp [intOf]; omega
            · obtain rfl : j = lf := by omega
              have dk : decide ((j : Int) < (j : Int)) = false := decide_eq_false (by omega)
              rw [List.take_of_length_le (by omega), htf] at hT hF
              have hfin := Lib.hid (fun (S : ByteArray) (W' : World) (h : S.data.toList = tv ++ ta ++ tf) (h' : Below B wr W') => hgoal.out S wr W' h hwr h')
              clear hgoal w3 hpk hwr hB1
              by_cases hz : tv ++ ta ++ tf = []
              · obtain ⟨q, hq⟩ := hF hz
                have c9 := Lib.hid (tx_string_nil (B := B) hq)
                have hS : (⟨#[]⟩ : ByteArray).data.toList = tv ++ ta ++ tf := by rw [hz]
                have hfin2 := Lib.hid (fun W' h => hfin.out ⟨#[]⟩ W' hS h)
                clear hT hF hq hz hS hfin
                go_wp2_with fail
                refine (c9.out).mono ?_
                rintro e w9 ⟨rfl, hb9⟩
                have hf := Lib.hid (hfin2.out w9 hb9)
                clear hfin2 hb9 c9
                go_wp2
                first | go_ret | go_ret2 | skip
                exact hf.out
              · have c9 := Lib.hid (tx_string hT hz)
                have hfin2 := Lib.hid (fun W' h => hfin.out ⟨(tv ++ ta ++ tf).toArray⟩ W' rfl h)
                clear hT hF hz hfin
                obtain ⟨Z, hZ⟩ : ∃ Z : ByteArray, (⟨(tv ++ ta ++ tf).toArray⟩ : ByteArray) = Z := ⟨_, rfl⟩
                rw [hZ] at c9 hfin2
                clear hZ
                go_wp2_with fail
                refine (c9.out).mono ?_
                rintro e w9 ⟨rfl, hb9⟩
                have hf := Lib.hid (hfin2.out w9 hb9)
                clear hfin2 hb9 c9
                go_wp2
                first | go_ret | go_ret2 | skip
                exact hf.out
    · have hlv : 0 < lv := by rw [← h1]; exact List.length_pos_iff.2 hv
      have dlv : decide ((0 : Int) < (lv : Int)) = true := decide_eq_true (by omega)
      have htv1 : tv = kVar ++ [32] ++ jc p.vars ++ [59, 10] := by rw [← htv]; unfold fvT; rw [if_neg (by rw [List.isEmpty_iff]; exact hv)]; rfl
      have hjl : (jc p.vars).length ≤ 900000 := by rw [htv1] at hlen2; simp only [List.length_append, List.length_cons, List.length_nil] at hlen2; omega
      have hlv9 := jc_count p.vars
      have c1 := Lib.hid (commas_any (hpk.out W1 (Wr.refl _ _ _)).vars h1 (by omega) (by omega))
      clear htv hv
      go_enter Tryz.func16, Tryz.ntmps16
      go_wp2_with fail
      refine (c1.out).mono ?_
      rintro e w5 ⟨⟨Z, hZ, rfl⟩, hb5⟩
      have hZz : Z.size ≤ 900000 := by rw [str_len hZ]; exact hjl
      have hB5 := hB1.out.below (hb5.mono hB1.out.le)
      have c2 := Lib.hid (line_any (hT1.out.below hb5) hB5.le (⟨#[118, 97, 114, 32]⟩ ++ Z ++ ⟨#[59]⟩) (x := kVar ++ [32] ++ jc p.vars ++ [59]) (by rw [three_bytes, hZ]; rfl) (by omega) (by simp only [List.length_append, List.length_cons, List.length_nil]; omega))
      rw [show ([] : Str) ++ (ind2 0 ++ (kVar ++ [32] ++ jc p.vars ++ [59]) ++ [10]) = tv by rw [htv1, ind2_zero]; simp] at c2
      have hw5 := Wr.of_below (b := b) hb5 hB1.out.le
      clear hb5 hB5 hZ c1
      go_wp2_with fail
      refine (c2.out).mono ?_
      rintro e Wc ⟨rfl, hT, hW6⟩
      have hwc := hw5.trans hW6
      have hF : Fr b tv Wc := Fr.some (by rw [htv1]; simp)
      obtain ⟨z0, z1, z2, _, _, _⟩ := pg_box (hwc.blk hb01.out hgb (by decide))
      clear c2 hw5 hW6 hjl hlv9 htv1
      clear hF1 hT1 w1
      go_wp2
      go_loopw [21] (fun iv wr => ∃ k : Nat, iv = .int .i64 (k : Int) ∧ k ≤ la ∧ TxW 0 B b (tv ++ (p.arrays.take k).flatMap farrT) wr ∧ Wr B b W1 wr ∧ Fr b (tv ++ (p.arrays.take k).flatMap farrT) wr) (fun iv _ => la - (intOf iv).toNat)
      case atStart => exact ⟨0, rfl, Nat.zero_le _, by simpa using hT, hwc, by simpa using hF⟩
      case round =>
        clear hT hF hwc z0 z1 z2
        obtain ⟨k, rfl, hk, hT, hwr, hF⟩ := hrel
        by_cases hlt : k < la
        · obtain ⟨y, hy⟩ : ∃ y, p.arrays[k]? = some y := ⟨_, List.getElem?_eq_getElem (by omega)⟩
          have hpr := hpk.out wr hwr
          obtain ⟨b1, o1, rfl, _, hl1, x0, x1⟩ := hpr.arrays.at hy
          have hy2 : y ∈ p.arrays := List.mem_of_getElem? hy
          obtain ⟨v1, v2⟩ := w2.out y hy2
          have hat := arr_take hy
          have hal := arr_take_le p.arrays (k + 1)
          rw [hat, hta, List.length_append] at hal
          obtain ⟨nm, sz⟩ := y
          dsimp only at x0 x1 v1 v2 hat hal
          obtain ⟨N, hN⟩ : ∃ N : ByteArray, strV nm = .string N := ⟨_, rfl⟩
          rw [hN] at x0
          have hNl : N.data.toList = nm := strV_list hN
          have hN1 : N.size ≤ 24 := by rw [str_len hNl]; exact name_len v1
          obtain ⟨W, g, W', hWa, hg, hWb, hz, hbx, hlx⟩ := arr_store wr (.string N) (.int .i64 (sz : Int))
          have zc := hz.cell 0
          have zd := hz.cell 1
          have zf := hz.frz 0
          have zg := hz.frz 1
          simp only [List.getElem?_cons_zero, List.getElem?_cons_succ] at zc zd
          have yc := hbx.cell 0
          have yd := hbx.cell 1
          simp only [List.getElem?_cons_zero, List.getElem?_cons_succ] at yc yd
          have hBr : Bas B wr := hB1.out.below hwr.below
          have hle := hBr.le
          have hbb := hT.base
          have hBx : Bas B W' := hBr.below (hlx.mono hle)
          have hWx1 : Wr B b W1 W' := hwr.trans (Wr.of_below hlx hle)
          have hTx := hT.below hlx
          have hgb2 : g ≠ b := by omega
          have dk : decide ((k : Int) < (la : Int)) = true := decide_eq_true (by omega)
          have k0 : (0 : Int) ≤ (k : Int) := by omega
          have k1 : (k : Int) < (la : Int) := by omega
          have sz0 : (0 : Int) ≤ (sz : Int) := by omega
          have cI := Lib.hid (fun (W : World) (h : Below W'.heap.size W' W) => itoa_any sz (by omega) W (hBx.laid.below h))
          obtain ⟨D, hD⟩ : ∃ D : ByteArray, ⟨(Lib.decDigits sz).toArray⟩ = D := ⟨_, rfl⟩
          have hDl : D.data.toList = dec sz := by rw [← hD]
          have hfar : (farrT (nm, sz)).length = nm.length + (dec sz).length + 10 := by unfold farrT; simp only [List.length_append, List.length_cons, List.length_nil]; omega
          rw [hD] at cI
          have hDz : D.size ≤ 900000 := by rw [str_len hDl]; omega
          have cL := Lib.hid (fun (W : World) (h : Below W'.heap.size W' W) => line_any (hTx.below h) (hBx.below (h.mono hBx.le)).le (⟨#[97, 114, 114, 97, 121, 32]⟩ ++ N ++ ⟨#[91]⟩ ++ D ++ ⟨#[93, 59]⟩) (x := kArray ++ [32] ++ nm ++ [91] ++ dec sz ++ [93, 59]) (by rw [five_bytes, hNl, hDl]; rfl) (by omega) (by simp only [List.length_append, List.length_cons, List.length_nil]; omega))
          rw [show tv ++ (p.arrays.take k).flatMap farrT ++ (ind2 0 ++ (kArray ++ [32] ++ nm ++ [91] ++ dec sz ++ [93, 59]) ++ [10]) = tv ++ (p.arrays.take (k + 1)).flatMap farrT by rw [hat, ind2_zero]; unfold farrT; simp] at cL
          have hne : tv ++ (p.arrays.take (k + 1)).flatMap farrT ≠ [] := by rw [hat]; intro e; have := (List.append_eq_nil_iff.1 (List.append_eq_nil_iff.1 e).2).2; exact farr_ne _ this
          have hlt0 := hbx.lt
          have kb : ∀ W, Below W'.heap.size W' W → W.cell? ⟨g, 0, none⟩ = some (.string N) ∧ W.cell? ⟨g, 1, none⟩ = some (.int .i64 (sz : Int)) := fun W h => ⟨(h.cell (p := ⟨g, 0, none⟩) hlt0).trans yc, (h.cell (p := ⟨g, 1, none⟩) hlt0).trans yd⟩
          have kw : ∀ W W2, Below W'.heap.size W' W → Wr B b W W2 → W2.cell? ⟨g, 0, none⟩ = some (.string N) ∧ W2.cell? ⟨g, 1, none⟩ = some (.int .i64 (sz : Int)) := fun W W2 h h' => by
            have := h'.blk (hbx.below h) hgb2 (by decide)
            exact ⟨this.cell 0, this.cell 1⟩
          have hWx : ∀ W W2, Below W'.heap.size W' W → Wr B b W W2 → Wr B b W1 W2 := fun W W2 h h' => (hWx1.trans (Wr.of_below h hBx.le)).trans h'
          have keep0 := Below.refl W'.heap.size W'
          have keep1 : ∀ W, Below W'.heap.size W' W → Below W'.heap.size W' (World.drew W) := fun W h => h.drew
          have hWx := Lib.hid hWx
          have s1 : ¬ 9223372036854775807 < 6 + N.size := by omega
          have s2 : ¬ 9223372036854775807 < 6 + N.size + 1 := by omega
          have s3 : ¬ 9223372036854775807 < 6 + N.size + 1 + D.size := by omega
          have s4 : ¬ 9223372036854775807 < 6 + N.size + 1 + D.size + 2 := by omega
          have hne := Lib.hid hne
          clear hpr hy2 v1 v2 hat hal hN hz hbx hlx hBr hBx hWx1 hTx hT hF hwr hbb hD hDl
          by_cases h0 : k = 0
          · subst h0
            simp only [Nat.zero_mul, Nat.add_zero] at x0 x1
            go_wp2_with fail
            go_region_held3 (fun W => W.cell? ⟨g, 0, none⟩ = some (.string N) ∧ W.cell? ⟨g, 1, none⟩ = some (.int .i64 (sz : Int))) (first | exact kb _ keep0 | exact kb _ (keep1 _ keep0) | exact kw _ _ ‹_› ‹_› | exact kw _ _ (chain (keep1 _ keep0) ‹_›) ‹_› | exact kw _ _ (chain keep0 ‹_›) ‹_› | exact kb _ (chain (keep1 _ keep0) ‹_›) | exact kb _ (chain keep0 ‹_›)) (first | (go_at_call 44; (with_reducible refine (cI.out _ (by first | exact keep0 | exact keep1 _ keep0)).mono ?_); rintro e w9 ⟨rfl, hb9⟩) | (go_at_call 42; (with_reducible refine (cL.out _ (by first | exact chain (keep1 _ keep0) ‹_› | exact chain keep0 ‹_›)).mono ?_); rintro e w2 ⟨rfl, hT2, hW2'⟩))
            all_goals (have hW2 := show Wr B b W1 w2 by first | exact hWx.out _ _ (chain (keep1 _ keep0) ‹_›) ‹_› | exact hWx.out _ _ (chain keep0 ‹_›) ‹_›)
            all_goals (clear kb kw keep0 keep1 cI cL hWx hW2' hb9)
            all_goals go_wp2
            all_goals go_roundw
            all_goals first | exact ⟨1, by go_num, by omega, hT2, hW2, Fr.some hne.out⟩ | (simp [intOf]; omega)
          · go_wp2_with fail
            go_region_held3 (fun W => W.cell? ⟨g, 0, none⟩ = some (.string N) ∧ W.cell? ⟨g, 1, none⟩ = some (.int .i64 (sz : Int))) (first | exact kb _ keep0 | exact kb _ (keep1 _ keep0) | exact kw _ _ ‹_› ‹_› | exact kw _ _ (chain (keep1 _ keep0) ‹_›) ‹_› | exact kw _ _ (chain keep0 ‹_›) ‹_› | exact kb _ (chain (keep1 _ keep0) ‹_›) | exact kb _ (chain keep0 ‹_›)) (first | (go_at_call 44; (with_reducible refine (cI.out _ (by first | exact keep0 | exact keep1 _ keep0)).mono ?_); rintro e w9 ⟨rfl, hb9⟩) | (go_at_call 42; (with_reducible refine (cL.out _ (by first | exact chain (keep1 _ keep0) ‹_› | exact chain keep0 ‹_›)).mono ?_); rintro e w2 ⟨rfl, hT2, hW2'⟩))
            all_goals (have hW2 := show Wr B b W1 w2 by first | exact hWx.out _ _ (chain (keep1 _ keep0) ‹_›) ‹_› | exact hWx.out _ _ (chain keep0 ‹_›) ‹_›)
            all_goals (clear kb kw keep0 keep1 cI cL hWx hW2' hb9)
            all_goals go_wp2
            all_goals go_roundw
            all_goals first | exact ⟨k + 1, by go_num, by omega, hT2, hW2, Fr.some hne.out⟩ | (simp [intOf]; omega)
        · obtain rfl : k = la := by omega
          have dk : decide ((k : Int) < (k : Int)) = false := decide_eq_false (by omega)
          rw [List.take_of_length_le (by omega), hta] at hT hF
          obtain ⟨q0, q1, q2, _, _, _⟩ := pg_box (hwr.blk hb01.out hgb (by decide))
          clear hlt w2 hb01
          go_wp2
          go_loopw [39] (fun iv wr => ∃ k : Nat, iv = .int .i64 (k : Int) ∧ k ≤ lf ∧ TxW 0 B b (tv ++ ta ++ (p.funcs.take k).flatMap ffnT) wr ∧ Wr B b W1 wr ∧ Fr b (tv ++ ta ++ (p.funcs.take k).flatMap ffnT) wr) (fun iv _ => lf - (intOf iv).toNat)
          case atStart => exact ⟨0, rfl, Nat.zero_le _, by simpa using hT, hwr, by simpa using hF⟩
          case round =>
            clear hT hF hwr q0 q1 q2
            obtain ⟨j, rfl, hj, hT, hwr, hF⟩ := hrel
            by_cases hlt : j < lf
            · obtain ⟨f, hf⟩ : ∃ y, p.funcs[j]? = some y := ⟨_, List.getElem?_eq_getElem (by omega)⟩
              have hpr := hpk.out _ hwr
              obtain ⟨b1, o1, P, L, E1, cp, cl, cb, rfl, _, hl1, hP, hLo, hE1, hcell⟩ := hpr.funcs.at hf
              obtain ⟨N, lp, ll, lb, hN, k1, k2, k3, hC⟩ := fn_let f P L E1 cp cl cb
              rw [hC] at hcell
              have x0 := hcell 0 _ rfl
              have x1 := hcell 1 _ rfl
              have x2 := hcell 2 _ rfl
              have x3 := hcell 3 _ rfl
              simp only [Nat.add_zero, ← Nat.add_assoc] at x0 x1 x2 x3
              obtain ⟨W, g, W', hWa, hg, hWb, hz, hbx, hlx⟩ := fn_store wr (.string N) (.slice P lp cp) (.slice L ll cl) (.slice E1 lb cb)
              obtain ⟨⟨z0, z1, z2, z3⟩, f0, f1, f2, f3⟩ := fx_box hz
              obtain ⟨⟨y0, y1, y2, y3⟩, _⟩ := fx_box hbx
              have hBr : Bas B wr := hB1.out.below hwr.below
              have hle := hBr.le
              have hBx : Bas B W' := hBr.below (hlx.mono hle)
              have hWx1 : Wr B b W1 W' := hwr.trans (Wr.of_below hlx hle)
              have hTx := hT.below hlx
              have hf2 : f ∈ p.funcs := List.mem_of_getElem? hf
              have hft := fns_take hf
              have hfl := fns_take_le p.funcs (j + 1)
              rw [hft, htf, List.length_append] at hfl
              obtain ⟨n1, n2⟩ := fn_counts (f := f) (m := 900000) (by omega)
              have c1 := Lib.hid (wfunction_any (w3.out f hf2) hN k1 k2 k3 hTx (hP.keep (Kept.of_below hlx)) (hLo.keep (Kept.of_below hlx)) (hE1.keep (Kept.of_below hlx)) (by simp only [List.length_append]; omega) (by omega) hBx)
              rw [List.append_assoc, ← hft] at c1
              have hne : tv ++ ta ++ (p.funcs.take (j + 1)).flatMap ffnT ≠ [] := by rw [hft]; intro e; have := (List.append_eq_nil_iff.1 (List.append_eq_nil_iff.1 e).2).2; exact ffn_ne _ this
              have dk : decide ((j : Int) < (lf : Int)) = true := decide_eq_true (by omega)
              have k0 : (0 : Int) ≤ (j : Int) := by omega
              have kj : (j : Int) < (lf : Int) := by omega
              have hWx1 := Lib.hid hWx1
              have hne := Lib.hid hne
              clear hpr hcell hC hN hP hLo hE1 hz hbx hlx hBr hBx hTx hT hF hwr hf2 hft hfl n1 n2
              by_cases h0 : j = 0
              · subst h0
                simp only [Nat.zero_mul, Nat.add_zero] at x0 x1 x2 x3
                go_wp2_with fail
                refine (c1.out).mono ?_
                rintro e w3 ⟨rfl, hT3, hW3⟩
                have hW3 := hWx1.out.trans hW3
                go_wp2
                go_roundw
                case rel => exact ⟨1, by go_num, by omega, hT3, hW3, Fr.some hne.out⟩
                case measure => simp [intOf]; omega
              · go_wp2_with fail
                refine (c1.out).mono ?_
                rintro e w3 ⟨rfl, hT3, hW3⟩
                have hW3 := hWx1.out.trans hW3
                go_wp2
                go_roundw
                case rel => exact ⟨j + 1, by go_num, by omega, hT3, hW3, Fr.some hne.out⟩
                case measure => simp [intOf]; omega
            · obtain rfl : j = lf := by omega
              have dk : decide ((j : Int) < (j : Int)) = false := decide_eq_false (by omega)
              rw [List.take_of_length_le (by omega), htf] at hT hF
              have hfin := Lib.hid (fun (S : ByteArray) (W' : World) (h : S.data.toList = tv ++ ta ++ tf) (h' : Below B wr W') => hgoal.out S wr W' h hwr h')
              clear hgoal w3 hpk hwr hB1
              by_cases hz : tv ++ ta ++ tf = []
              · obtain ⟨q, hq⟩ := hF hz
                have c9 := Lib.hid (tx_string_nil (B := B) hq)
                have hS : (⟨#[]⟩ : ByteArray).data.toList = tv ++ ta ++ tf := by rw [hz]
                have hfin2 := Lib.hid (fun W' h => hfin.out ⟨#[]⟩ W' hS h)
                clear hT hF hq hz hS hfin
                go_wp2_with fail
                refine (c9.out).mono ?_
                rintro e w9 ⟨rfl, hb9⟩
                have hf := Lib.hid (hfin2.out w9 hb9)
                clear hfin2 hb9 c9
                go_wp2
                first | go_ret | go_ret2 | skip
                exact hf.out
              · have c9 := Lib.hid (tx_string hT hz)
                have hfin2 := Lib.hid (fun W' h => hfin.out ⟨(tv ++ ta ++ tf).toArray⟩ W' rfl h)
                clear hT hF hz hfin
                obtain ⟨Z, hZ⟩ : ∃ Z : ByteArray, (⟨(tv ++ ta ++ tf).toArray⟩ : ByteArray) = Z := ⟨_, rfl⟩
                rw [hZ] at c9 hfin2
                clear hZ
                go_wp2_with fail
                refine (c9.out).mono ?_
                rintro e w9 ⟨rfl, hb9⟩
                have hf := Lib.hid (hfin2.out w9 hb9)
                clear hfin2 hb9 c9
                go_wp2
                first | go_ret | go_ret2 | skip
                exact hf.out
  exact hcut
end Go.Proofs.YtpbcncfbfbghcaaGreatDoor.L20
