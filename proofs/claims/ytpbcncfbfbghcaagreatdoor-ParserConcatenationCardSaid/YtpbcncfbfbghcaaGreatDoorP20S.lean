/- The landed formatter: the writer's lines (layer 20). The landed formatter: blocks (layer 20). The landed formatter: statements (layer 20). -/
import Derived.Test.YtpbcncfbfbghcaaGreatDoorP20R
import Derived.Deep.RegionHeld3
import Derived.Test.YtpbcncfbfbghcaaGreatDoorP20O
namespace Go.Proofs.YtpbcncfbfbghcaaGreatDoor.L20
set_option maxRecDepth 100000
open Go.RowKit Mem L19
open M17 (Laid Laid.below)
set_option linter.unusedVariables false
set_option linter.unusedSimpArgs false

/-- The writer: its text, and how many braces are open. -/
abbrev TxW (d : Nat) := Tx 83 [.int .i64 (d : Int)]
theorem TxW.depth {d B b : Nat} {t : Str} {w : World} (h : TxW d B b t w) : w.cell? ⟨b, 2, none⟩ = some (.int .i64 (d : Int)) := by
  rcases h with ⟨_, v, h2, _⟩ | ⟨_, v, h2, _⟩
  · rw [Lib.cell_of_heap h2]; rfl
  · rw [Lib.cell_of_heap h2]; rfl
theorem rep_two : ∀ d, Lib.repeatL [32, 32] d = ind2 d
  | 0 => rfl
  | d + 1 => by
    rw [Lib.repeatL, rep_two d]
    unfold ind2
    rw [show 2 * (d + 1) = 2 + 2 * d by omega, ← List.replicate_append_replicate]
    rfl
set_option maxHeartbeats 8000000 in
theorem line_any {d B b : Nat} {t : Str} {w : World} (hT : TxW d B b t w) (hB : B ≤ w.heap.size) (S : ByteArray) {x : Str} (hS : S.data.toList = x) (hd : d ≤ 1000) (hlen : t.length + x.length ≤ 1000000000) :
    Calls Tryz.prog 42 #[.pointer (some ⟨b, 0, none⟩), .string S] w fun e w' => e = .returned (.tuple #[]) ∧ TxW d B b (t ++ (ind2 d ++ x ++ [10])) w' ∧ Wr B b w w' := by
  have hdp := hT.depth
  have hlb := hT.base
  have hSz : S.size = x.length := str_len hS
  have cR := Lib.hid (fun W => Tryz.strings_Repeat ⟨#[32, 32]⟩ d W (by omega) (by rw [show (ByteArray.mk #[32, 32]).size = 2 from rfl]; omega))
  obtain ⟨R, hR⟩ : ∃ R : ByteArray, ⟨(Lib.repeatL (⟨#[32, 32]⟩ : ByteArray).data.toList d).toArray⟩ = R := ⟨_, rfl⟩
  have l1 : R.data.toList = ind2 d := by rw [← hR]; exact rep_two d
  have hRz : R.size = 2 * d := by rw [str_len l1, ind2_len]
  rw [hR] at cR
  have cW := Lib.hid (fun (W : World) (h : Below w.heap.size w W) => tx_write headB1 (hT.below h) R (by omega) (Nat.le_trans hB h.size))
  rw [l1] at cW
  have keep0 := Below.refl w.heap.size w
  have keep1 : ∀ W, Below w.heap.size w W → Below w.heap.size w (World.drew W) := fun W h => h.drew
  have cel : ∀ W, Below w.heap.size w W → W.cell? ⟨b, 2, none⟩ = some (.int .i64 (d : Int)) := fun W h => (h.cell (p := ⟨b, 2, none⟩) hlb.2).trans hdp
  have celx : ∀ W t', TxW d B b t' W → W.cell? ⟨b, 2, none⟩ = some (.int .i64 (d : Int)) := fun W t' h => h.depth
  have hW0 : ∀ W, Below w.heap.size w W → Wr B b w W := fun W h => Wr.of_below h hB
  have d0 : (0 : Int) ≤ (d : Int) := by omega
  clear hR hT
  go_enter Tryz.func42, Tryz.ntmps42
  go_wp2_with fail
  go_region_held3 (fun W => W.cell? ⟨b, 2, none⟩ = some (.int .i64 (d : Int))) (first | exact hdp | exact cel _ keep0 | exact cel _ (keep1 _ keep0) | exact celx _ _ ‹_› | exact cel _ (chain (keep1 _ keep0) ‹_›) | exact cel _ (chain keep0 ‹_›)) (first | (go_at_call 23; (with_reducible refine (cR.out _).mono ?_); rintro e w9 ⟨rfl, hb9⟩) | (go_at_call 58; (with_reducible refine (cW.out _ (by first | exact chain (keep1 _ keep0) ‹_› | exact chain keep0 ‹_› | exact keep1 _ (chain (keep1 _ keep0) ‹_›))).mono ?_); rintro e w10 ⟨rfl, hT10, hW10⟩))
  have hw10 : Wr B b w w10 := by first | exact (hW0 _ (chain (keep1 _ keep0) ‹_›)).trans hW10 | exact (hW0 _ (chain keep0 ‹_›)).trans hW10 | exact (hW0 _ (keep1 _ (chain (keep1 _ keep0) ‹_›))).trans hW10
  have c2 := Lib.hid (tx_write headB1 hT10 S (by rw [List.length_append, ind2_len]; omega) (Nat.le_trans hB hw10.size))
  rw [hS] at c2
  have hw10 := Lib.hid hw10
  clear hT10 hW10 hdp cel celx keep0 keep1 cR cW hW0
  go_wp2_with fail
  refine (c2.out).mono ?_
  rintro e w11 ⟨rfl, hT11, hW11⟩
  have hw11 := Lib.hid (hw10.out.trans hW11)
  have c3 := Lib.hid (tx_write headB1 hT11 ⟨#[10]⟩ (by rw [List.length_append, List.length_append, ind2_len]; show _ + 1 ≤ _; omega) (Nat.le_trans hB hw11.out.size))
  rw [show t ++ ind2 d ++ x ++ (⟨#[10]⟩ : ByteArray).data.toList = t ++ (ind2 d ++ x ++ [10]) by simp] at c3
  clear hT11 hW11 c2 hw10
  go_wp2_with fail
  refine (c3.out).mono ?_
  rintro e w12 ⟨rfl, hT12, hW12⟩
  have hw12 := Lib.hid (hw11.out.trans hW12)
  clear c3 hw11 hW12
  go_wp2
  first | go_ret | go_ret2 | go_end0 | skip
  exact ⟨rfl, hT12, hw12.out⟩
set_option maxHeartbeats 4000000 in
theorem commas_any {w : World} {F : Nat → Prop} {l : List Str} {A : Option Addr} {cap n : Nat} (h : StrsF w F l A cap) (hn : l.length = n) (hlen : (jc l).length ≤ 1000000000) (hl9 : n ≤ 1000000000) :
    Calls Tryz.prog 43 #[.slice A n cap] w fun e w' => (∃ S : ByteArray, S.data.toList = jc l ∧ e = .returned (.string S)) ∧ Below w.heap.size w w' := by
  have hj : Lib.join l (⟨#[44, 32]⟩ : ByteArray).data.toList = jc l := join_jc l
  have c1 := join_any h hn ⟨#[44, 32]⟩ (by rw [hj]; exact hlen) hl9
  rw [hj] at c1
  replace c1 := Lib.hid c1
  clear h
  go_enter Tryz.func43, Tryz.ntmps43
  go_wp2_with fail
  refine (c1.out).mono ?_
  rintro e w1 ⟨⟨S, hS, rfl⟩, hb1⟩
  go_wp2
  first | go_ret | go_ret2 | skip
  exact ⟨⟨S, hS, rfl⟩, hb1⟩
end Go.Proofs.YtpbcncfbfbghcaaGreatDoor.L20
namespace Go.Proofs.YtpbcncfbfbghcaaGreatDoor.L20
set_option maxRecDepth 100000
open Go.RowKit Mem L19
open M17 (Laid Laid.below)
set_option linter.unusedVariables false
set_option linter.unusedSimpArgs false

theorem TxW.set {d B b : Nat} {t : Str} {w : World} (h : TxW d B b t w) (d' : Nat) : TxW d' B b t (w.setCell ⟨b, 2, none⟩ (.int .i64 (d' : Int))) := by
  have one : ∀ p, TxAt 83 [.int .i64 (d : Int)] B b p t w → TxAt 83 [.int .i64 (d' : Int)] B b p t (w.setCell ⟨b, 2, none⟩ (.int .i64 (d' : Int))) := by
    rintro p ⟨hB, v, hb, hown, hne⟩
    refine ⟨hB, v, ?_, ?_, hne⟩
    · simp [World.setCell, Array.getElem?_modify, hb]
    · exact hown.kept (row := some b) ⟨rfl, rfl, rfl, by simp [World.setCell], fun k _ hk => Below.heap_setCell _ _ _ _ (fun e => hk (by simp [e]))⟩ (Or.inr hne)
  rcases h with h | h
  · exact .inl (one _ h)
  · exact .inr (one _ h)
theorem TxW.frz {d B b : Nat} {t : Str} {w : World} (h : TxW d B b t w) : w.frozen? ⟨b, 2, none⟩ = false := by
  rcases h with ⟨_, v, h2, _⟩ | ⟨_, v, h2, _⟩
  · exact Lib.frozen_of_heap h2 2
  · exact Lib.frozen_of_heap h2 2
theorem Wr.setB {B b : Nat} (w : World) (hB : B ≤ b) (i : Nat) (v : Value) : Wr B b w (w.setCell ⟨b, i, none⟩ v) := ⟨(Below.refl B w).setCell (p := ⟨b, i, none⟩) hB v, (Lib.OthersKept.refl 5 (some b) w).setCell ⟨b, i, none⟩ rfl v⟩
/-- A box that holds a statement. -/
theorem st_box6 {W : World} {g : Nat} {c0 c1 c2 c3 c4 c5 : Value} (h : Blk 104 W g [c0, c1, c2, c3, c4, c5]) : (W.cell? ⟨g, 0, none⟩ = some c0 ∧ W.cell? ⟨g, 1, none⟩ = some c1 ∧ W.cell? ⟨g, 2, none⟩ = some c2 ∧ W.cell? ⟨g, 3, none⟩ = some c3 ∧ W.cell? ⟨g, 4, none⟩ = some c4 ∧ W.cell? ⟨g, 5, none⟩ = some c5) ∧
    W.frozen? ⟨g, 0, none⟩ = false ∧ W.frozen? ⟨g, 1, none⟩ = false ∧ W.frozen? ⟨g, 2, none⟩ = false ∧ W.frozen? ⟨g, 3, none⟩ = false ∧ W.frozen? ⟨g, 4, none⟩ = false ∧ W.frozen? ⟨g, 5, none⟩ = false := ⟨⟨h.cell 0, h.cell 1, h.cell 2, h.cell 3, h.cell 4, h.cell 5⟩, h.frz 0, h.frz 1, h.frz 2, h.frz 3, h.frz 4, h.frz 5⟩
theorem st_store (w : World) (c0 c1 c2 c3 c4 c5 : Value) : ∃ W g W', w.alloc (.cells #[.int .i64 0, .string ⟨#[]⟩, .slice none 0 0, .slice none 0 0, .slice none 0 0, .slice none 0 0] 104) = W ∧ w.heap.size = g ∧ (((((W.setCell ⟨g, 0, none⟩ c0).setCell ⟨g, 1, none⟩ c1).setCell ⟨g, 2, none⟩ c2).setCell ⟨g, 3, none⟩ c3).setCell ⟨g, 4, none⟩ c4).setCell ⟨g, 5, none⟩ c5 = W' ∧
    Blk 104 W g [.int .i64 0, .string ⟨#[]⟩, .slice none 0 0, .slice none 0 0, .slice none 0 0, .slice none 0 0] ∧ Blk 104 W' g [c0, c1, c2, c3, c4, c5] ∧ Below w.heap.size w W' := by
  obtain ⟨W, g, hW, hg, hb, hl⟩ := box_mk w [.int .i64 0, .string ⟨#[]⟩, .slice none 0 0, .slice none 0 0, .slice none 0 0, .slice none 0 0] 104
  have hlg : w.heap.size ≤ g := Nat.le_of_eq hg
  exact ⟨W, g, _, hW, hg, rfl, hb, (((((hb.set 0 _).set 1 _).set 2 _).set 3 _).set 4 _).set 5 _, (((((hl.setCell (p := ⟨g, 0, none⟩) hlg _).setCell (p := ⟨g, 1, none⟩) hlg _).setCell (p := ⟨g, 2, none⟩) hlg _).setCell (p := ⟨g, 3, none⟩) hlg _).setCell (p := ⟨g, 4, none⟩) hlg _).setCell (p := ⟨g, 5, none⟩) hlg _⟩
theorem sta_let (s : Sta) (I V T E : Option Addr) (ci cv ct ce : Nat) : ∃ (K : Int) (N : ByteArray) (li lv lt le : Nat), (s.kind : Int) = K ∧ strV s.nam = .string N ∧ s.idx.length = li ∧ s.val.length = lv ∧ s.thn.length = lt ∧ s.els.length = le ∧ sCells s I V T E ci cv ct ce = [.int .i64 K, .string N, .slice I li ci, .slice V lv cv, .slice T lt ct, .slice E le ce] := ⟨_, _, _, _, _, _, rfl, rfl, rfl, rfl, rfl, rfl, rfl⟩
/-- The contract of statement at a statement. -/
def WS (s : Sta) : Prop := ∀ (d B b : Nat) (t : Str) (w : World) (I V T E : Option Addr) (ci cv ct ce : Nat) (K : Int) (N : ByteArray) (li lv lt le : Nat), (s.kind : Int) = K → strV s.nam = .string N → s.idx.length = li → s.val.length = lv → s.thn.length = lt → s.els.length = le →
  TxW d B b t w → Exs w (fun k => k < B) s.idx I ci → Exs w (fun k => k < B) s.val V cv → Sts w (fun k => k < B) s.thn T ct → Sts w (fun k => k < B) s.els E ce → Wfs s → d + ds s ≤ 101 → t.length + (fst' d s).length ≤ 1000000000 → Bas B w →
  Calls Tryz.prog 109 #[.pointer (some ⟨b, 0, none⟩), .agg #[.int .i64 K, .string N, .slice I li ci, .slice V lv cv, .slice T lt ct, .slice E le ce]] w fun e w' => e = .returned (.tuple #[]) ∧ TxW d B b (t ++ fst' d s) w' ∧ Wr B b w w'
theorem fstl_take {l : List Sta} {k : Nat} {s : Sta} (h : l[k]? = some s) (d : Nat) : fstl d (l.take (k + 1)) = fstl d (l.take k) ++ fst' d s := by
  rw [List.take_add_one, h, fstl_app]
  show _ ++ fstl d [s] = _
  rw [fstl_cons, fstl_nil, List.append_nil]
theorem fstl_take_le (l : List Sta) (k d : Nat) : (fstl d (l.take k)).length ≤ (fstl d l).length := by
  have h : fstl d l = fstl d (l.take k) ++ fstl d (l.drop k) := by rw [← fstl_app, List.take_append_drop]
  rw [h, List.length_append]
  omega
theorem wfsl_mem : ∀ (l : List Sta), Wfsl l → ∀ s ∈ l, Wfs s
  | [], _, s, h => by cases h
  | x :: r, hw, s, h => by
    rw [Wfsl] at hw
    rcases List.mem_cons.1 h with rfl | h
    · exact hw.1
    · exact wfsl_mem r hw.2 s h
theorem dsl_mem : ∀ (l : List Sta), ∀ s ∈ l, ds s ≤ dsl l
  | [], s, h => by cases h
  | x :: r, s, h => by
    rw [dsl]
    rcases List.mem_cons.1 h with rfl | h
    · omega
    · have := dsl_mem r s h; omega
set_option maxHeartbeats 16000000 in
theorem block_step {l : List Sta} (hW : ∀ s ∈ l, WS s) (wl : Wfsl l) {d B b : Nat} {t : Str} {w : World} {A : Option Addr} {cap n : Nat} (hn : l.length = n) (hT : TxW d B b t w) (hE : Sts w (fun k => k < B) l A cap) (hd : d + 1 + dsl l ≤ 101) (hlen : t.length + (fstl (d + 1) l).length ≤ 1000000000) (hB : Bas B w) :
    Calls Tryz.prog 72 #[.pointer (some ⟨b, 0, none⟩), .slice A n cap] w fun e w' => e = .returned (.tuple #[]) ∧ TxW d B b (t ++ fstl (d + 1) l) w' ∧ Wr B b w w' := by
  have hcap := hE.le
  rw [hn] at hcap
  have hml : maxLen = 9223372036854775807 := rfl
  have hn1 : (n : Int) ≤ 9223372036854775807 := by omega
  have hbb := hT.base
  have y2 := hT.depth
  have yf := hT.frz
  have d1 : (d : Int) + 1 = ((d + 1 : Nat) : Int) := by omega
  have d3 : (d : Int) ≤ 101 := by omega
  have hT1 := hT.set (d + 1)
  have hw1 := Wr.setB (B := B) (b := b) w hbb.1 2 (.int .i64 ((d + 1 : Nat) : Int))
  obtain ⟨W1, hW1⟩ : ∃ W, w.setCell ⟨b, 2, none⟩ (.int .i64 ((d + 1 : Nat) : Int)) = W := ⟨_, rfl⟩
  rw [hW1] at hT1 hw1
  obtain ⟨dd, hdd⟩ : ∃ x, d + 1 = x := ⟨_, rfl⟩
  rw [hdd] at hT1 hlen d1 hW1 hd ⊢
  have d4 : (dd : Int) - 1 = (d : Int) := by omega
  have d5 : (dd : Int) ≤ 102 := by omega
  have d6 : (0 : Int) ≤ (dd : Int) := by omega
  have hE1 := Lib.hid (hE.keep hw1.kept)
  have hB1 := Lib.hid (hB.below hw1.below)
  have hWx := Wr.refl B b W1
  have hw1 := Lib.hid hw1
  replace hlen := Lib.hid hlen
  replace hW := Lib.hid hW
  replace wl := Lib.hid wl
  replace hd := Lib.hid hd
  have hbB := hbb.1
  clear hT hE hB
  go_enter Tryz.func72, Tryz.ntmps72
  go_wp2
  clear y2 yf
  go_loopw [15] (fun iv wr => ∃ k : Nat, iv = .int .i64 (k : Int) ∧ k ≤ n ∧ TxW dd B b (t ++ fstl dd (l.take k)) wr ∧ Wr B b W1 wr) (fun iv _ => n - (intOf iv).toNat)
  case atStart => exact ⟨0, rfl, Nat.zero_le _, by simpa [fstl_nil] using hT1, hWx⟩
  case round =>
    clear hT1 hWx
    obtain ⟨k, rfl, hk, hT, hwr⟩ := hrel
    by_cases hlt : k < n
    · obtain ⟨y, hy⟩ : ∃ y, l[k]? = some y := ⟨_, List.getElem?_eq_getElem (by omega)⟩
      have hEr := hE1.out.keep hwr.kept
      obtain ⟨b1, o1, I, V, T, E, ci, cv, ct, ce, rfl, hb1, hl1, hI, hV, hTh, hEl, hcell⟩ := hEr.at hy
      obtain ⟨K, N, li, lv, lt, le, hK, hN, h1, h2, h3, h4, hC⟩ := sta_let y I V T E ci cv ct ce
      rw [hC] at hcell
      have x0 := hcell 0 _ rfl
      have x1 := hcell 1 _ rfl
      have x2 := hcell 2 _ rfl
      have x3 := hcell 3 _ rfl
      have x4 := hcell 4 _ rfl
      have x5 := hcell 5 _ rfl
      simp only [Nat.add_zero, ← Nat.add_assoc] at x0 x1 x2 x3 x4 x5
      obtain ⟨W, g, W', hWa, hg, hWb, hz, hbx, hlx⟩ := st_store wr (.int .i64 K) (.string N) (.slice I li ci) (.slice V lv cv) (.slice T lt ct) (.slice E le ce)
      obtain ⟨⟨z0, z1, z2, z3, z4, z5⟩, f0, f1, f2, f3, f4, f5⟩ := st_box6 hz
      obtain ⟨⟨y0, y1, y2, y3, y4, y5⟩, _⟩ := st_box6 hbx
      have hBr : Bas B wr := hB1.out.below hwr.below
      have hle := hBr.le
      have hW' : Wr B b W1 W' := hwr.trans (Wr.of_below hlx hle)
      have hy2 : y ∈ l := List.mem_of_getElem? hy
      have hft := fstl_take hy dd
      have hfl := fstl_take_le l (k + 1) dd
      rw [hft, List.length_append] at hfl
      have hds := dsl_mem l y hy2
      have c1 := Lib.hid (hW.out y hy2 dd B b _ W' I V T E ci cv ct ce K N li lv lt le hK hN h1 h2 h3 h4 (hT.below hlx) (hI.keep (Kept.of_below hlx)) (hV.keep (Kept.of_below hlx)) (hTh.keep (Kept.of_below hlx)) (hEl.keep (Kept.of_below hlx)) (wfsl_mem l wl.out y hy2) (by have := hd.out; omega) (by rw [List.length_append]; have := hlen.out; omega) (hBr.below (hlx.mono hle)))
      rw [List.append_assoc, ← hft] at c1
      have dk : decide ((k : Int) < (n : Int)) = true := decide_eq_true (by omega)
      have k0 : (0 : Int) ≤ (k : Int) := by omega
      have k1 : (k : Int) < (n : Int) := by omega
      have hW' := Lib.hid hW'
      clear hcell hC hK hN h1 h2 h3 h4 hT hEr hI hV hTh hEl hz hbx hlx hwr hBr hft hfl hds hy2
      by_cases h0 : k = 0
      · subst h0
        simp only [Nat.zero_mul, Nat.add_zero] at x0 x1 x2 x3 x4 x5
        go_wp2_with fail
        refine (c1.out).mono ?_
        rintro e w3 ⟨rfl, hT3, hW3⟩
        have hW3 := hW'.out.trans hW3
        go_wp2
        go_roundw
        case rel => exact ⟨1, by go_num, by omega, hT3, hW3⟩
        case measure => simp [intOf]; omega
      · go_wp2_with fail
        refine (c1.out).mono ?_
        rintro e w3 ⟨rfl, hT3, hW3⟩
        have hW3 := hW'.out.trans hW3
        go_wp2
        go_roundw
        case rel => exact ⟨k + 1, by go_num, by omega, hT3, hW3⟩
        case measure => simp [intOf]; omega
    · obtain rfl : k = n := by omega
      have dk : decide ((k : Int) < (k : Int)) = false := decide_eq_false (by omega)
      rw [List.take_of_length_le (by omega)] at hT
      have y2 := hT.depth
      have yf := hT.frz
      have hfin := Lib.hid (And.intro (hT.set d) ((hw1.out.trans hwr).trans (Wr.setB wr hbB 2 (.int .i64 (d : Int)))))
      clear hE1 hW wl hB1 hlen hw1 hT hwr hd
      go_wp2
      first | go_ret | go_ret2 | go_end0 | skip
      exact ⟨rfl, hfin.out.1, hfin.out.2⟩
end Go.Proofs.YtpbcncfbfbghcaaGreatDoor.L20
namespace Go.Proofs.YtpbcncfbfbghcaaGreatDoor.L20
set_option maxRecDepth 100000
open Go.RowKit Mem L19
open M17 (Laid Laid.below)
set_option linter.unusedVariables false
set_option linter.unusedSimpArgs false

theorem four_bytes (a b c d : ByteArray) : (a ++ b ++ c ++ d).data.toList = a.data.toList ++ b.data.toList ++ c.data.toList ++ d.data.toList := by
  rw [two_bytes, three_bytes]
theorem six_bytes (a b c d e f : ByteArray) : (a ++ b ++ c ++ d ++ e ++ f).data.toList = a.data.toList ++ b.data.toList ++ c.data.toList ++ d.data.toList ++ e.data.toList ++ f.data.toList := by
  rw [two_bytes, two_bytes, four_bytes]
section
variable {d B b : Nat} {t : Str} {w : World} {I V T E : Option Addr} {ci cv ct ce : Nat} {K : Int} {N : ByteArray} {li lv lt le : Nat}
/-- How a call of statement begins. -/
theorem ws_start (hT : TxW d B b t w) (hB : Bas B w) : ∃ W0 g0, w.alloc (.cells #[.int .i64 K, .string N, .slice I li ci, .slice V lv cv, .slice T lt ct, .slice E le ce] 104) = W0 ∧ w.heap.size = g0 ∧ Blk 104 W0 g0 [.int .i64 K, .string N, .slice I li ci, .slice V lv cv, .slice T lt ct, .slice E le ce] ∧ g0 ≠ b ∧ Bas B W0 ∧ TxW d B b t W0 ∧ Wr B b w W0 := by
  obtain ⟨W0, g0, hW0, hg0, hb0, hl0⟩ := box_mk w [.int .i64 K, .string N, .slice I li ci, .slice V lv cv, .slice T lt ct, .slice E le ce] 104
  have hle0 := hB.le
  have hbb := hT.base
  exact ⟨W0, g0, hW0, hg0, hb0, by omega, hB.below (hl0.mono hle0), hT.below hl0, Wr.of_below hl0 hle0⟩
set_option maxHeartbeats 16000000 in
theorem ws_asg (s : Str) (x : Exp) : WS (.asg s x) := by
  intro d B b t w I V T E ci cv ct ce K N li lv lt le hK hN h1 h2 h3 h4 hT hI hV hTh hEl hw hd hlen hB
  obtain rfl : (1 : Int) = K := hK
  rw [Wfs] at hw
  rw [f_asg] at hlen ⊢
  obtain ⟨W0, g0, hW0, hg0, hb0, hgb, hB0, hT0, hw0⟩ := ws_start (K := 1) (N := N) (I := I) (V := V) (T := T) (E := E) (ci := ci) (cv := cv) (ct := ct) (ce := ce) (li := li) (lv := lv) (lt := lt) (le := le) hT hB
  obtain ⟨⟨z0, z1, z2, z3, z4, z5⟩, _⟩ := st_box6 hb0
  have hd2 : d ≤ 101 := by omega
  have hNl : N.data.toList = s := strV_list hN
  have hN1 : N.size ≤ 24 := by rw [str_len hNl]; exact name_len hw.1
  have hJ : jc (([x]).map ft) = ft x := by simp [jc]
  have hlenJ : (ft x).length ≤ 1000000000 := by simp only [List.length_append, List.length_cons, List.length_nil] at hlen; omega
  have cF := Lib.hid (formatted_any (l := [x]) (hV.keep hw0.kept) (wf_one hw.2) (n := lv) h2 (by rw [hJ]; exact hlenJ) hB0.laid)
  rw [hJ] at cF
  have hlt := Lib.hid hlen
  replace hT0 := Lib.hid hT0
  replace hB0 := Lib.hid hB0
  replace hb0 := Lib.hid hb0
  replace hw0 := Lib.hid hw0
  clear hT hI hV hTh hEl hB hJ hlen hw hd
  go_enter Tryz.func109, Tryz.ntmps109
  go_wp2_with fail
  refine (cF.out).mono ?_
  rintro e w1 ⟨⟨X, hX, rfl⟩, hb1⟩
  have hXz : X.size ≤ 1000000000 := by rw [str_len hX]; exact hlenJ
  have hB1 := hB0.out.below (hb1.mono hB0.out.le)
  have hT1 := hT0.out.below hb1
  have hw1 := hw0.out.trans (Wr.of_below hb1 hB0.out.le)
  have hb0 := hb0.out.below hb1
  obtain ⟨⟨z0, z1, z2, z3, z4, z5⟩, _⟩ := st_box6 hb0
  have c1 := Lib.hid (line_any hT1 hB1.le (N ++ ⟨#[32, 61, 32]⟩ ++ X ++ ⟨#[59]⟩) (x := s ++ [32, 61, 32] ++ ft x ++ [59]) (by rw [four_bytes, hNl, hX]) (by omega) (by have := hlt.out; simp only [List.length_append, List.length_cons, List.length_nil, ind2_len] at this ⊢; omega))
  rw [show t ++ (ind2 d ++ (s ++ [32, 61, 32] ++ ft x ++ [59]) ++ [10]) = t ++ (ind2 d ++ s ++ [32, 61, 32] ++ ft x ++ [59, 10]) by simp] at c1
  clear cF hT1 hb1 hX
  go_wp2_with fail
  refine (c1.out).mono ?_
  rintro e w2 ⟨rfl, hT2, hW2⟩
  have hw2 := hw1.trans hW2
  go_wp2
  first | go_ret | go_ret2 | go_end0 | skip
  exact ⟨rfl, hT2, hw2⟩
set_option maxHeartbeats 16000000 in
theorem ws_ret (x : Exp) : WS (.ret x) := by
  intro d B b t w I V T E ci cv ct ce K N li lv lt le hK hN h1 h2 h3 h4 hT hI hV hTh hEl hw hd hlen hB
  obtain rfl : (5 : Int) = K := hK
  rw [Wfs] at hw
  rw [f_ret] at hlen ⊢
  obtain ⟨W0, g0, hW0, hg0, hb0, hgb, hB0, hT0, hw0⟩ := ws_start (K := 5) (N := N) (I := I) (V := V) (T := T) (E := E) (ci := ci) (cv := cv) (ct := ct) (ce := ce) (li := li) (lv := lv) (lt := lt) (le := le) hT hB
  obtain ⟨⟨z0, z1, z2, z3, z4, z5⟩, _⟩ := st_box6 hb0
  have hd2 : d ≤ 101 := by omega
  have hJ : jc (([x]).map ft) = ft x := by simp [jc]
  have hlenJ : (ft x).length ≤ 1000000000 := by simp only [List.length_append, List.length_cons, List.length_nil] at hlen; omega
  have cF := Lib.hid (formatted_any (l := [x]) (hV.keep hw0.kept) (wf_one hw) (n := lv) h2 (by rw [hJ]; exact hlenJ) hB0.laid)
  rw [hJ] at cF
  have hlt := Lib.hid hlen
  replace hT0 := Lib.hid hT0
  replace hB0 := Lib.hid hB0
  replace hb0 := Lib.hid hb0
  replace hw0 := Lib.hid hw0
  clear hT hI hV hTh hEl hB hJ hlen hw hd
  go_enter Tryz.func109, Tryz.ntmps109
  go_wp2_with fail
  refine (cF.out).mono ?_
  rintro e w1 ⟨⟨X, hX, rfl⟩, hb1⟩
  have hXz : X.size ≤ 1000000000 := by rw [str_len hX]; exact hlenJ
  have hB1 := hB0.out.below (hb1.mono hB0.out.le)
  have hT1 := hT0.out.below hb1
  have hw1 := hw0.out.trans (Wr.of_below hb1 hB0.out.le)
  have hb0 := hb0.out.below hb1
  obtain ⟨⟨z0, z1, z2, z3, z4, z5⟩, _⟩ := st_box6 hb0
  have c1 := Lib.hid (line_any hT1 hB1.le (⟨#[114, 101, 116, 117, 114, 110, 32]⟩ ++ X ++ ⟨#[59]⟩) (x := kReturn ++ [32] ++ ft x ++ [59]) (by rw [three_bytes, hX]; rfl) (by omega) (by have := hlt.out; simp only [List.length_append, List.length_cons, List.length_nil, ind2_len] at this ⊢; omega))
  rw [show t ++ (ind2 d ++ (kReturn ++ [32] ++ ft x ++ [59]) ++ [10]) = t ++ (ind2 d ++ kReturn ++ [32] ++ ft x ++ [59, 10]) by simp] at c1
  clear cF hT1 hb1 hX
  go_wp2_with fail
  refine (c1.out).mono ?_
  rintro e w2 ⟨rfl, hT2, hW2⟩
  have hw2 := hw1.trans hW2
  go_wp2
  first | go_ret | go_ret2 | go_end0 | skip
  exact ⟨rfl, hT2, hw2⟩
set_option maxHeartbeats 16000000 in
theorem ws_cal (s : Str) (l : List Exp) : WS (.cal s l) := by
  intro d B b t w I V T E ci cv ct ce K N li lv lt le hK hN h1 h2 h3 h4 hT hI hV hTh hEl hw hd hlen hB
  obtain rfl : (6 : Int) = K := hK
  rw [Wfs] at hw
  rw [f_cal] at hlen ⊢
  obtain ⟨W0, g0, hW0, hg0, hb0, hgb, hB0, hT0, hw0⟩ := ws_start (K := 6) (N := N) (I := I) (V := V) (T := T) (E := E) (ci := ci) (cv := cv) (ct := ct) (ce := ce) (li := li) (lv := lv) (lt := lt) (le := le) hT hB
  obtain ⟨⟨z0, z1, z2, z3, z4, z5⟩, _⟩ := st_box6 hb0
  have hd2 : d ≤ 101 := by omega
  have hJ : jc (([.call s l]).map ft) = ft (.call s l) := by simp [jc]
  have hlenJ : (ft (.call s l)).length ≤ 1000000000 := by simp only [List.length_append, List.length_cons, List.length_nil] at hlen; omega
  have cF := Lib.hid (formatted_any (l := [.call s l]) (hV.keep hw0.kept) (wf_one hw) (n := lv) h2 (by rw [hJ]; exact hlenJ) hB0.laid)
  rw [hJ] at cF
  have hlt := Lib.hid hlen
  replace hT0 := Lib.hid hT0
  replace hB0 := Lib.hid hB0
  replace hb0 := Lib.hid hb0
  replace hw0 := Lib.hid hw0
  clear hT hI hV hTh hEl hB hJ hlen hw hd
  go_enter Tryz.func109, Tryz.ntmps109
  go_wp2_with fail
  refine (cF.out).mono ?_
  rintro e w1 ⟨⟨X, hX, rfl⟩, hb1⟩
  have hXz : X.size ≤ 1000000000 := by rw [str_len hX]; exact hlenJ
  have hB1 := hB0.out.below (hb1.mono hB0.out.le)
  have hT1 := hT0.out.below hb1
  have hw1 := hw0.out.trans (Wr.of_below hb1 hB0.out.le)
  have hb0 := hb0.out.below hb1
  obtain ⟨⟨z0, z1, z2, z3, z4, z5⟩, _⟩ := st_box6 hb0
  have c1 := Lib.hid (line_any hT1 hB1.le (X ++ ⟨#[59]⟩) (x := ft (.call s l) ++ [59]) (by rw [two_bytes, hX]) (by omega) (by have := hlt.out; simp only [List.length_append, List.length_cons, List.length_nil, ind2_len] at this ⊢; omega))
  rw [show t ++ (ind2 d ++ (ft (.call s l) ++ [59]) ++ [10]) = t ++ (ind2 d ++ ft (.call s l) ++ [59, 10]) by simp] at c1
  clear cF hT1 hb1 hX
  go_wp2_with fail
  refine (c1.out).mono ?_
  rintro e w2 ⟨rfl, hT2, hW2⟩
  have hw2 := hw1.trans hW2
  go_wp2
  first | go_ret | go_ret2 | go_end0 | skip
  exact ⟨rfl, hT2, hw2⟩
set_option maxHeartbeats 16000000 in
theorem ws_hlt : WS (.hlt) := by
  intro d B b t w I V T E ci cv ct ce K N li lv lt le hK hN h1 h2 h3 h4 hT hI hV hTh hEl hw hd hlen hB
  obtain rfl : (7 : Int) = K := hK
  rw [Wfs] at hw
  rw [f_hlt] at hlen ⊢
  obtain ⟨W0, g0, hW0, hg0, hb0, hgb, hB0, hT0, hw0⟩ := ws_start (K := 7) (N := N) (I := I) (V := V) (T := T) (E := E) (ci := ci) (cv := cv) (ct := ct) (ce := ce) (li := li) (lv := lv) (lt := lt) (le := le) hT hB
  obtain ⟨⟨z0, z1, z2, z3, z4, z5⟩, _⟩ := st_box6 hb0
  have hd2 : d ≤ 101 := by omega
  have hJ : jc ((([] : List Exp)).map ft) = ([] : Str) := rfl
  have hlenJ : (([] : Str)).length ≤ 1000000000 := by simp
  have cF := Lib.hid (formatted_any (l := ([] : List Exp)) (hV.keep hw0.kept) (fun x hx => by cases hx) (n := lv) h2 (by rw [hJ]; exact hlenJ) hB0.laid)
  rw [hJ] at cF
  have hlt := Lib.hid hlen
  replace hT0 := Lib.hid hT0
  replace hB0 := Lib.hid hB0
  replace hb0 := Lib.hid hb0
  replace hw0 := Lib.hid hw0
  clear hT hI hV hTh hEl hB hJ hlen hw hd
  go_enter Tryz.func109, Tryz.ntmps109
  go_wp2_with fail
  refine (cF.out).mono ?_
  rintro e w1 ⟨⟨X, hX, rfl⟩, hb1⟩
  have hXz : X.size ≤ 1000000000 := by rw [str_len hX]; exact hlenJ
  have hB1 := hB0.out.below (hb1.mono hB0.out.le)
  have hT1 := hT0.out.below hb1
  have hw1 := hw0.out.trans (Wr.of_below hb1 hB0.out.le)
  have hb0 := hb0.out.below hb1
  obtain ⟨⟨z0, z1, z2, z3, z4, z5⟩, _⟩ := st_box6 hb0
  have c1 := Lib.hid (line_any hT1 hB1.le (⟨#[104, 97, 108, 116, 59]⟩) (x := kHalt ++ [59]) (by rfl) (by omega) (by have := hlt.out; simp only [List.length_append, List.length_cons, List.length_nil, ind2_len] at this ⊢; omega))
  rw [show t ++ (ind2 d ++ (kHalt ++ [59]) ++ [10]) = t ++ (ind2 d ++ kHalt ++ [59, 10]) by simp] at c1
  clear cF hT1 hb1 hX
  go_wp2_with fail
  refine (c1.out).mono ?_
  rintro e w2 ⟨rfl, hT2, hW2⟩
  have hw2 := hw1.trans hW2
  go_wp2
  first | go_ret | go_ret2 | go_end0 | skip
  exact ⟨rfl, hT2, hw2⟩
set_option maxHeartbeats 16000000 in
theorem ws_sto (s : Str) (i x : Exp) : WS (.sto s i x) := by
  intro d B b t w I V T E ci cv ct ce K N li lv lt le hK hN h1 h2 h3 h4 hT hI hV hTh hEl hw hd hlen hB
  obtain rfl : (2 : Int) = K := hK
  rw [Wfs] at hw
  rw [f_sto] at hlen ⊢
  obtain ⟨W0, g0, hW0, hg0, hb0, hgb, hB0, hT0, hw0⟩ := ws_start (K := 2) (N := N) (I := I) (V := V) (T := T) (E := E) (ci := ci) (cv := cv) (ct := ct) (ce := ce) (li := li) (lv := lv) (lt := lt) (le := le) hT hB
  obtain ⟨⟨z0, z1, z2, z3, z4, z5⟩, _⟩ := st_box6 hb0
  have hd2 : d ≤ 101 := by omega
  have hNl : N.data.toList = s := strV_list hN
  have hN1 : N.size ≤ 24 := by rw [str_len hNl]; exact name_len hw.1
  have hJ : jc (([x]).map ft) = ft x := by simp [jc]
  have hlenJ : (ft x).length ≤ 1000000000 := by simp only [List.length_append, List.length_cons, List.length_nil] at hlen; omega
  have cF := Lib.hid (formatted_any (l := [x]) (hV.keep hw0.kept) (wf_one hw.2.2) (n := lv) h2 (by rw [hJ]; exact hlenJ) hB0.laid)
  rw [hJ] at cF
  have hJi : jc ([i].map ft) = ft i := by simp [jc]
  have hlenI : (ft i).length ≤ 1000000000 := by simp only [List.length_append, List.length_cons, List.length_nil] at hlen; omega
  have hI0 := Lib.hid (hI.keep hw0.kept)
  have wi := Lib.hid (wf_one hw.2.1)
  have hlt := Lib.hid hlen
  replace hT0 := Lib.hid hT0
  replace hB0 := Lib.hid hB0
  replace hb0 := Lib.hid hb0
  replace hw0 := Lib.hid hw0
  clear hT hI hV hTh hEl hB hJ hlen hw hd
  go_enter Tryz.func109, Tryz.ntmps109
  go_wp2_with fail
  refine (cF.out).mono ?_
  rintro e w1 ⟨⟨X, hX, rfl⟩, hb1⟩
  have hXz : X.size ≤ 1000000000 := by rw [str_len hX]; exact hlenJ
  have hB1 := hB0.out.below (hb1.mono hB0.out.le)
  have hT1 := hT0.out.below hb1
  have hw1 := hw0.out.trans (Wr.of_below hb1 hB0.out.le)
  have hb0 := hb0.out.below hb1
  obtain ⟨⟨z0, z1, z2, z3, z4, z5⟩, _⟩ := st_box6 hb0
  have cI := Lib.hid (fun (W : World) (h : Below w1.heap.size w1 W) => formatted_any (l := [i]) ((hI0.out.keep (Kept.of_below hb1)).keep (Kept.of_below h)) wi.out (n := li) h1 (by rw [hJi]; exact hlenI) (hB1.laid.below h))
  rw [hJi] at cI
  have cL := Lib.hid (fun (W : World) (Y : ByteArray) (h : Below w1.heap.size w1 W) (hY : Y.data.toList = ft i) => line_any (hT1.below h) (hB1.below (h.mono hB1.le)).le (N ++ ⟨#[91]⟩ ++ Y ++ ⟨#[93, 32, 61, 32]⟩ ++ X ++ ⟨#[59]⟩) (x := s ++ [91] ++ ft i ++ [93, 32, 61, 32] ++ ft x ++ [59]) (by rw [six_bytes, hNl, hY, hX]) (by omega) (by have := hlt.out; simp only [List.length_append, List.length_cons, List.length_nil, ind2_len] at this ⊢; omega))
  rw [show t ++ (ind2 d ++ (s ++ [91] ++ ft i ++ [93, 32, 61, 32] ++ ft x ++ [59]) ++ [10]) = t ++ (ind2 d ++ s ++ [91] ++ ft i ++ [93, 32, 61, 32] ++ ft x ++ [59, 10]) by simp] at cL
  have hlt0 := hb0.lt
  have kb : ∀ W, Below w1.heap.size w1 W → W.cell? ⟨g0, 1, none⟩ = some (.string N) ∧ W.cell? ⟨g0, 2, none⟩ = some (.slice I li ci) := fun W h => ⟨(h.cell (p := ⟨g0, 1, none⟩) hlt0).trans z1, (h.cell (p := ⟨g0, 2, none⟩) hlt0).trans z2⟩
  have kw : ∀ W W', Below w1.heap.size w1 W → Wr B b W W' → W'.cell? ⟨g0, 1, none⟩ = some (.string N) ∧ W'.cell? ⟨g0, 2, none⟩ = some (.slice I li ci) := fun W W' h h' => by
    have := h'.blk (hb0.below h) hgb (by decide)
    exact ⟨this.cell 1, this.cell 2⟩
  have hWx : ∀ W W', Below w1.heap.size w1 W → Wr B b W W' → Wr B b w W' := fun W W' h h' => (hw1.trans (Wr.of_below h hB1.le)).trans h'
  have keep0 := Below.refl w1.heap.size w1
  have keep1 : ∀ W, Below w1.heap.size w1 W → Below w1.heap.size w1 (World.drew W) := fun W h => h.drew
  replace hWx := Lib.hid hWx
  have s1 : ¬ 9223372036854775807 < N.size + 1 := by omega
  clear cF hT1 hX hw1 hI0 hb0 hb1 hB1
  go_wp2_with fail
  go_region_held3 (fun W => W.cell? ⟨g0, 1, none⟩ = some (.string N) ∧ W.cell? ⟨g0, 2, none⟩ = some (.slice I li ci)) (first | exact kb _ keep0 | exact kb _ (keep1 _ keep0) | exact kw _ _ ‹_› ‹_› | exact kw _ _ (chain (keep1 _ keep0) ‹_›) ‹_› | exact kw _ _ (chain keep0 ‹_›) ‹_› | exact kb _ (chain (keep1 _ keep0) ‹_›) | exact kb _ (chain keep0 ‹_›)) (first | (go_at_call 139; (with_reducible refine (cI.out _ (by first | exact keep0 | exact keep1 _ keep0)).mono ?_); rintro e w9 ⟨⟨Y, hY, rfl⟩, hb9⟩; have hYz : Y.size ≤ 1000000000 := (by rw [str_len hY]; exact hlenI); have s2 : ¬ 9223372036854775807 < N.size + 1 + Y.size := (by omega); have s3 : ¬ 9223372036854775807 < N.size + 1 + Y.size + 4 := (by omega); have s4 : ¬ 9223372036854775807 < N.size + 1 + Y.size + 4 + X.size := (by omega); have s5 : ¬ 9223372036854775807 < N.size + 1 + Y.size + 4 + X.size + 1 := (by omega)) | (go_at_call 42; (with_reducible refine (cL.out _ _ (by first | exact chain (keep1 _ keep0) ‹_› | exact chain keep0 ‹_›) ‹_›).mono ?_); rintro e w10 ⟨rfl, hT10, hW10⟩))
  all_goals (have hfin := Lib.hid (show Wr B b w w10 by first | exact hWx.out _ _ (chain (keep1 _ keep0) ‹_›) ‹_› | exact hWx.out _ _ (chain keep0 ‹_›) ‹_›); clear kb kw keep0 keep1 cI cL hWx; go_wp2; (first | go_ret | go_ret2 | go_end0 | skip); exact ⟨rfl, hT10, hfin.out⟩)
set_option maxHeartbeats 16000000 in
theorem ws_whl (x : Exp) (a : List Sta) (ha : ∀ s ∈ a, WS s) : WS (.whl x a) := by
  intro d B b t w I V T E ci cv ct ce K N li lv lt le hK hN h1 h2 h3 h4 hT hI hV hTh hEl hw hd hlen hB
  obtain rfl : (4 : Int) = K := hK
  rw [Wfs] at hw
  rw [f_whl] at hlen ⊢
  obtain ⟨W0, g0, hW0, hg0, hb0, hgb, hB0, hT0, hw0⟩ := ws_start (K := 4) (N := N) (I := I) (V := V) (T := T) (E := E) (ci := ci) (cv := cv) (ct := ct) (ce := ce) (li := li) (lv := lv) (lt := lt) (le := le) hT hB
  obtain ⟨⟨z0, z1, z2, z3, z4, z5⟩, _⟩ := st_box6 hb0
  have hd2 : d ≤ 101 := by omega
  have hJ : jc (([x]).map ft) = ft x := by simp [jc]
  have hlenJ : (ft x).length ≤ 1000000000 := by simp only [List.length_append, List.length_cons, List.length_nil] at hlen; omega
  have cF := Lib.hid (formatted_any (l := [x]) (hV.keep hw0.kept) (wf_one hw.1) (n := lv) h2 (by rw [hJ]; exact hlenJ) hB0.laid)
  rw [hJ] at cF
  have wa := Lib.hid hw.2
  have hA0 := Lib.hid (show Sts W0 (fun k => k < B) a T ct from hTh.keep hw0.kept)
  have hda : d + 1 + dsl a ≤ 101 := by rw [ds] at hd; omega
  have h3' : a.length = lt := h3
  have hlt := Lib.hid hlen
  replace hT0 := Lib.hid hT0
  replace hB0 := Lib.hid hB0
  replace hb0 := Lib.hid hb0
  have hwh := Lib.hid hw0
  have hw0 := Lib.hid hw0
  clear hT hI hV hTh hEl hB hJ hlen hw hd
  go_enter Tryz.func109, Tryz.ntmps109
  go_wp2_with fail
  refine (cF.out).mono ?_
  rintro e w1 ⟨⟨X, hX, rfl⟩, hb1⟩
  have hXz : X.size ≤ 1000000000 := by rw [str_len hX]; exact hlenJ
  have hB1 := hB0.out.below (hb1.mono hB0.out.le)
  have hT1 := hT0.out.below hb1
  have hw1 := hw0.out.trans (Wr.of_below hb1 hB0.out.le)
  have hb0 := hb0.out.below hb1
  obtain ⟨⟨z0, z1, z2, z3, z4, z5⟩, _⟩ := st_box6 hb0
  have c1 := Lib.hid (line_any hT1 hB1.le (⟨#[119, 104, 105, 108, 101, 32]⟩ ++ X ++ ⟨#[32, 123]⟩) (x := kWhile ++ [32] ++ ft x ++ [32, 123]) (by rw [three_bytes, hX]; rfl) (by omega) (by have := hlt.out; simp only [List.length_append, List.length_cons, List.length_nil, ind2_len] at this ⊢; omega))
  have hbz := hb1
  clear cF hT1 hb1 hX
  go_wp2_with fail
  refine (c1.out).mono ?_
  rintro e w2 ⟨rfl, hT2, hW2⟩
  have hB2 := hB1.below hW2.below
  have hw2 := hw1.trans hW2
  have hb0 := hW2.blk hb0 hgb (by decide)
  obtain ⟨⟨z0, z1, z2, z3, z4, z5⟩, _⟩ := st_box6 hb0
  have hA2 : Sts w2 (fun k => k < B) a T ct := ((hA0.out.keep (Wr.of_below (b := b) hbz hB0.out.le).kept)).keep hW2.kept
  have c2 := Lib.hid (block_step ha wa.out h3' hT2 hA2 hda (by have := hlt.out; simp only [List.length_append, List.length_cons, List.length_nil, ind2_len] at this ⊢; omega) hB2)
  clear c1 hT2 hA0 hA2 wa hbz
  go_wp2_with fail
  refine (c2.out).mono ?_
  rintro e w3 ⟨rfl, hT3, hW3⟩
  have hB3 := hB2.below hW3.below
  have hw3 := hw2.trans hW3
  have c3 := Lib.hid (line_any hT3 hB3.le ⟨#[125]⟩ (x := [125]) rfl (by omega) (by have := hlt.out; simp only [List.length_append, List.length_cons, List.length_nil, ind2_len] at this ⊢; omega))
  rw [show t ++ (ind2 d ++ (kWhile ++ [32] ++ ft x ++ [32, 123]) ++ [10]) ++ fstl (d + 1) a ++ (ind2 d ++ [125] ++ [10]) = t ++ (ind2 d ++ kWhile ++ [32] ++ ft x ++ [32, 123, 10] ++ fstl (d + 1) a ++ ind2 d ++ [125, 10]) by simp] at c3
  clear c2 hT3 hB3
  go_wp2_with fail
  refine (c3.out).mono ?_
  rintro e w4 ⟨rfl, hT4, hW4⟩
  have hw4 := hw3.trans hW4
  go_wp2
  first | go_ret | go_ret2 | go_end0 | skip
  exact ⟨rfl, hT4, hw4⟩
set_option maxHeartbeats 16000000 in
theorem ws_ifs (x : Exp) (a b' : List Sta) (ha : ∀ s ∈ a, WS s) (hb' : ∀ s ∈ b', WS s) (hne : b' ≠ []) : WS (.ifs x a b') := by
  intro d B b t w I V T E ci cv ct ce K N li lv lt le hK hN h1 h2 h3 h4 hT hI hV hTh hEl hw hd hlen hB
  obtain rfl : (3 : Int) = K := hK
  rw [Wfs] at hw
  rw [f_ifs, if_neg (by rw [List.isEmpty_iff]; exact hne)] at hlen ⊢
  obtain ⟨W0, g0, hW0, hg0, hb0, hgb, hB0, hT0, hw0⟩ := ws_start (K := 3) (N := N) (I := I) (V := V) (T := T) (E := E) (ci := ci) (cv := cv) (ct := ct) (ce := ce) (li := li) (lv := lv) (lt := lt) (le := le) hT hB
  obtain ⟨⟨z0, z1, z2, z3, z4, z5⟩, _⟩ := st_box6 hb0
  have hd2 : d ≤ 101 := by omega
  have hJ : jc (([x]).map ft) = ft x := by simp [jc]
  have hlenJ : (ft x).length ≤ 1000000000 := by simp only [List.length_append, List.length_cons, List.length_nil] at hlen; omega
  have cF := Lib.hid (formatted_any (l := [x]) (hV.keep hw0.kept) (wf_one hw.1) (n := lv) h2 (by rw [hJ]; exact hlenJ) hB0.laid)
  rw [hJ] at cF
  have wa := Lib.hid hw.2.1
  have hA0 := Lib.hid (show Sts W0 (fun k => k < B) a T ct from hTh.keep hw0.kept)
  have hda : d + 1 + dsl a ≤ 101 := by rw [ds] at hd; omega
  have h3' : a.length = lt := h3
  have wb := Lib.hid hw.2.2
  have hE0 := Lib.hid (show Sts W0 (fun k => k < B) b' E ce from hEl.keep hw0.kept)
  have hdb : d + 1 + dsl b' ≤ 101 := by rw [ds, if_neg (by rw [List.isEmpty_iff]; exact hne)] at hd; omega
  have h4' : b'.length = le := h4
  have hle0 : 0 < le := by rw [← h4']; exact List.length_pos_iff.2 hne
  have dle : decide ((0 : Int) < (le : Int)) = true := decide_eq_true (by omega)
  have hlt := Lib.hid hlen
  replace hT0 := Lib.hid hT0
  replace hB0 := Lib.hid hB0
  replace hb0 := Lib.hid hb0
  have hwh := Lib.hid hw0
  have hw0 := Lib.hid hw0
  clear hT hI hV hTh hEl hB hJ hlen hw hd
  go_enter Tryz.func109, Tryz.ntmps109
  go_wp2_with fail
  refine (cF.out).mono ?_
  rintro e w1 ⟨⟨X, hX, rfl⟩, hb1⟩
  have hXz : X.size ≤ 1000000000 := by rw [str_len hX]; exact hlenJ
  have hB1 := hB0.out.below (hb1.mono hB0.out.le)
  have hT1 := hT0.out.below hb1
  have hw1 := hw0.out.trans (Wr.of_below hb1 hB0.out.le)
  have hb0 := hb0.out.below hb1
  obtain ⟨⟨z0, z1, z2, z3, z4, z5⟩, _⟩ := st_box6 hb0
  have c1 := Lib.hid (line_any hT1 hB1.le (⟨#[105, 102, 32]⟩ ++ X ++ ⟨#[32, 123]⟩) (x := kIf ++ [32] ++ ft x ++ [32, 123]) (by rw [three_bytes, hX]; rfl) (by omega) (by have := hlt.out; simp only [List.length_append, List.length_cons, List.length_nil, ind2_len] at this ⊢; omega))
  have hbz := hb1
  clear cF hT1 hb1 hX
  go_wp2_with fail
  refine (c1.out).mono ?_
  rintro e w2 ⟨rfl, hT2, hW2⟩
  have hB2 := hB1.below hW2.below
  have hw2 := hw1.trans hW2
  have hb0 := hW2.blk hb0 hgb (by decide)
  obtain ⟨⟨z0, z1, z2, z3, z4, z5⟩, _⟩ := st_box6 hb0
  have hA2 : Sts w2 (fun k => k < B) a T ct := ((hA0.out.keep (Wr.of_below (b := b) hbz hB0.out.le).kept)).keep hW2.kept
  have hE2 := Lib.hid (show Sts w2 (fun k => k < B) b' E ce from ((hE0.out.keep (Wr.of_below (b := b) hbz hB0.out.le).kept)).keep hW2.kept)
  have c2 := Lib.hid (block_step ha wa.out h3' hT2 hA2 hda (by have := hlt.out; simp only [List.length_append, List.length_cons, List.length_nil, ind2_len] at this ⊢; omega) hB2)
  clear c1 hT2 hA0 hA2 wa hbz hE0
  go_wp2_with fail
  refine (c2.out).mono ?_
  rintro e w3 ⟨rfl, hT3, hW3⟩
  have hB3 := hB2.below hW3.below
  have hw3 := hw2.trans hW3
  have hb0 := hW3.blk hb0 hgb (by decide)
  obtain ⟨⟨z0, z1, z2, z3, z4, z5⟩, _⟩ := st_box6 hb0
  have c4 := Lib.hid (line_any hT3 hB3.le ⟨#[125, 32, 101, 108, 115, 101, 32, 123]⟩ (x := [125, 32] ++ kElse ++ [32, 123]) rfl (by omega) (by have := hlt.out; simp only [List.length_append, List.length_cons, List.length_nil, ind2_len] at this ⊢; omega))
  clear c2 hT3
  go_wp2_with fail
  refine (c4.out).mono ?_
  rintro e w4 ⟨rfl, hT4, hW4⟩
  have hB4 := hB3.below hW4.below
  have hw4 := hw3.trans hW4
  have hb0 := hW4.blk hb0 hgb (by decide)
  obtain ⟨⟨z0, z1, z2, z3, z4, z5⟩, _⟩ := st_box6 hb0
  have c5 := Lib.hid (block_step hb' wb.out h4' hT4 ((hE2.out.keep hW3.kept).keep hW4.kept) hdb (by have := hlt.out; simp only [List.length_append, List.length_cons, List.length_nil, ind2_len] at this ⊢; omega) hB4)
  clear c4 hT4 hE2 wb
  go_wp2_with fail
  refine (c5.out).mono ?_
  rintro e w5 ⟨rfl, hT5, hW5⟩
  have hB5 := hB4.below hW5.below
  have hw5 := hw4.trans hW5
  have c3 := Lib.hid (line_any hT5 hB5.le ⟨#[125]⟩ (x := [125]) rfl (by omega) (by have := hlt.out; simp only [List.length_append, List.length_cons, List.length_nil, ind2_len] at this ⊢; omega))
  rw [show t ++ (ind2 d ++ (kIf ++ [32] ++ ft x ++ [32, 123]) ++ [10]) ++ fstl (d + 1) a ++ (ind2 d ++ ([125, 32] ++ kElse ++ [32, 123]) ++ [10]) ++ fstl (d + 1) b' ++ (ind2 d ++ [125] ++ [10]) = t ++ (ind2 d ++ kIf ++ [32] ++ ft x ++ [32, 123, 10] ++ fstl (d + 1) a ++ ind2 d ++ ([125, 32] ++ kElse ++ [32, 123, 10] ++ fstl (d + 1) b' ++ ind2 d) ++ [125, 10]) by simp] at c3
  clear c5 hT5
  go_wp2_with fail
  refine (c3.out).mono ?_
  rintro e w6 ⟨rfl, hT6, hW6⟩
  have hw6 := hw5.trans hW6
  go_wp2
  first | go_ret | go_ret2 | go_end0 | skip
  exact ⟨rfl, hT6, hw6⟩
set_option maxHeartbeats 16000000 in
theorem ws_if1 (x : Exp) (a : List Sta) (ha : ∀ s ∈ a, WS s) : WS (.ifs x a []) := by
  intro d B b t w I V T E ci cv ct ce K N li lv lt le hK hN h1 h2 h3 h4 hT hI hV hTh hEl hw hd hlen hB
  obtain rfl : (3 : Int) = K := hK
  rw [Wfs] at hw
  rw [f_ifs, if_pos (show (([] : List Sta).isEmpty = true) from rfl)] at hlen ⊢
  obtain ⟨W0, g0, hW0, hg0, hb0, hgb, hB0, hT0, hw0⟩ := ws_start (K := 3) (N := N) (I := I) (V := V) (T := T) (E := E) (ci := ci) (cv := cv) (ct := ct) (ce := ce) (li := li) (lv := lv) (lt := lt) (le := le) hT hB
  obtain ⟨⟨z0, z1, z2, z3, z4, z5⟩, _⟩ := st_box6 hb0
  have hd2 : d ≤ 101 := by omega
  have hJ : jc (([x]).map ft) = ft x := by simp [jc]
  have hlenJ : (ft x).length ≤ 1000000000 := by simp only [List.length_append, List.length_cons, List.length_nil] at hlen; omega
  have cF := Lib.hid (formatted_any (l := [x]) (hV.keep hw0.kept) (wf_one hw.1) (n := lv) h2 (by rw [hJ]; exact hlenJ) hB0.laid)
  rw [hJ] at cF
  have wa := Lib.hid hw.2.1
  have hA0 := Lib.hid (show Sts W0 (fun k => k < B) a T ct from hTh.keep hw0.kept)
  have hda : d + 1 + dsl a ≤ 101 := by rw [ds] at hd; omega
  have h3' : a.length = lt := h3
  obtain rfl : (0 : Nat) = le := h4
  have hlt := Lib.hid hlen
  replace hT0 := Lib.hid hT0
  replace hB0 := Lib.hid hB0
  replace hb0 := Lib.hid hb0
  have hwh := Lib.hid hw0
  have hw0 := Lib.hid hw0
  clear hT hI hV hTh hEl hB hJ hlen hw hd
  go_enter Tryz.func109, Tryz.ntmps109
  go_wp2_with fail
  refine (cF.out).mono ?_
  rintro e w1 ⟨⟨X, hX, rfl⟩, hb1⟩
  have hXz : X.size ≤ 1000000000 := by rw [str_len hX]; exact hlenJ
  have hB1 := hB0.out.below (hb1.mono hB0.out.le)
  have hT1 := hT0.out.below hb1
  have hw1 := hw0.out.trans (Wr.of_below hb1 hB0.out.le)
  have hb0 := hb0.out.below hb1
  obtain ⟨⟨z0, z1, z2, z3, z4, z5⟩, _⟩ := st_box6 hb0
  have c1 := Lib.hid (line_any hT1 hB1.le (⟨#[105, 102, 32]⟩ ++ X ++ ⟨#[32, 123]⟩) (x := kIf ++ [32] ++ ft x ++ [32, 123]) (by rw [three_bytes, hX]; rfl) (by omega) (by have := hlt.out; simp only [List.length_append, List.length_cons, List.length_nil, ind2_len] at this ⊢; omega))
  have hbz := hb1
  clear cF hT1 hb1 hX
  go_wp2_with fail
  refine (c1.out).mono ?_
  rintro e w2 ⟨rfl, hT2, hW2⟩
  have hB2 := hB1.below hW2.below
  have hw2 := hw1.trans hW2
  have hb0 := hW2.blk hb0 hgb (by decide)
  obtain ⟨⟨z0, z1, z2, z3, z4, z5⟩, _⟩ := st_box6 hb0
  have hA2 : Sts w2 (fun k => k < B) a T ct := ((hA0.out.keep (Wr.of_below (b := b) hbz hB0.out.le).kept)).keep hW2.kept
  have c2 := Lib.hid (block_step ha wa.out h3' hT2 hA2 hda (by have := hlt.out; simp only [List.length_append, List.length_cons, List.length_nil, ind2_len] at this ⊢; omega) hB2)
  clear c1 hT2 hA0 hA2 wa hbz
  go_wp2_with fail
  refine (c2.out).mono ?_
  rintro e w3 ⟨rfl, hT3, hW3⟩
  have hB3 := hB2.below hW3.below
  have hw3 := hw2.trans hW3
  have hb0 := hW3.blk hb0 hgb (by decide)
  obtain ⟨⟨z0, z1, z2, z3, z4, z5⟩, _⟩ := st_box6 hb0
  have c3 := Lib.hid (line_any hT3 hB3.le ⟨#[125]⟩ (x := [125]) rfl (by omega) (by have := hlt.out; simp only [List.length_append, List.length_cons, List.length_nil, ind2_len] at this ⊢; omega))
  rw [show t ++ (ind2 d ++ (kIf ++ [32] ++ ft x ++ [32, 123]) ++ [10]) ++ fstl (d + 1) a ++ (ind2 d ++ [125] ++ [10]) = t ++ (ind2 d ++ kIf ++ [32] ++ ft x ++ [32, 123, 10] ++ fstl (d + 1) a ++ ind2 d ++ [] ++ [125, 10]) by simp] at c3
  clear c2 hT3
  go_wp2_with fail
  refine (c3.out).mono ?_
  rintro e w4 ⟨rfl, hT4, hW4⟩
  have hw4 := hw3.trans hW4
  go_wp2
  first | go_ret | go_ret2 | go_end0 | skip
  exact ⟨rfl, hT4, hw4⟩
end
theorem ws_all (s : Sta) : WS s := by
  induction s using Sta.ind with
  | h1 s x => exact ws_asg s x
  | h2 s i x => exact ws_sto s i x
  | h3 x a b iha ihb =>
    cases b with
    | nil => exact ws_if1 x a iha
    | cons s r => exact ws_ifs x a (s :: r) iha ihb (by simp)
  | h4 x a iha => exact ws_whl x a iha
  | h5 x => exact ws_ret x
  | h6 s l => exact ws_cal s l
  | h7 => exact ws_hlt
end Go.Proofs.YtpbcncfbfbghcaaGreatDoor.L20
