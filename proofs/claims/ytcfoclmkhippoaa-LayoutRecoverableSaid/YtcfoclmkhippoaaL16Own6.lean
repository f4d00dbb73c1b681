/- The contract of the landed Recoverable of layer 16. -/
import Derived.Test.YtcfoclmkhippoaaL16Own2
import Derived.Test.YtcfoclmkhippoaaG8Ints
namespace Go.Proofs.Ytcfoclmkhippoaa.L16
set_option linter.unusedVariables false
set_option linter.unusedSimpArgs false

/-- How many of the numbers below M are in the list. -/
def rcn : Nat → List Int → Nat
  | 0, _ => 0
  | M + 1, l => rcn M l + if (M : Int) ∈ l then 1 else 0
theorem rcn_nil : ∀ M, rcn M [] = 0
  | 0 => rfl
  | M + 1 => by
    show rcn M [] + _ = 0
    rw [rcn_nil M]
    simp
theorem rcn_le (l : List Int) : ∀ M, rcn M l ≤ M
  | 0 => Nat.le_refl _
  | M + 1 => by
    have := rcn_le l M
    show rcn M l + _ ≤ M + 1
    split <;> omega
theorem rcn_congr {l m : List Int} : ∀ {M : Nat}, (∀ k, k < M → ((k : Int) ∈ l ↔ (k : Int) ∈ m)) → rcn M l = rcn M m
  | 0, _ => rfl
  | M + 1, h => by
    have e := rcn_congr (M := M) fun k hk => h k (by omega)
    show rcn M l + _ = rcn M m + _
    rw [e]
    congr 1
    by_cases hm : (M : Int) ∈ l
    · rw [if_pos hm, if_pos ((h M (by omega)).1 hm)]
    · rw [if_neg hm, if_neg (fun h' => hm ((h M (by omega)).2 h'))]
theorem rcn_old {l : List Int} {r : Int} {M : Nat} (h : r ∈ l ∨ r < 0 ∨ (M : Int) ≤ r) : rcn M (l ++ [r]) = rcn M l := rcn_congr fun k hk => by
  rw [List.mem_append, List.mem_singleton]
  constructor
  · rintro (h' | rfl)
    · exact h'
    · rcases h with h | h | h
      · exact h
      · omega
      · omega
  · exact Or.inl
theorem rcn_new {l : List Int} {X : Nat} : ∀ {M : Nat}, (X : Int) ∉ l → X < M → rcn M (l ++ [(X : Int)]) = rcn M l + 1
  | 0, _, h => by omega
  | M + 1, hn, h => by
    show rcn M (l ++ [(X : Int)]) + _ = rcn M l + _ + 1
    by_cases e : X = M
    · subst e
      rw [rcn_old (Or.inr (Or.inr (Int.le_refl _))), if_pos (by simp), if_neg hn]
    · rw [rcn_new hn (show X < M by omega)]
      have : ((M : Int) ∈ l ++ [(X : Int)]) ↔ (M : Int) ∈ l := by
        rw [List.mem_append, List.mem_singleton]
        constructor
        · rintro (h' | h')
          · exact h'
          · omega
        · exact Or.inl
      simp only [this]
      omega
/-- A part of the numbers below M, in order. -/
theorem rcn_filter (p : Nat → Bool) : ∀ (M N : Nat), M ≤ N → rcn M (((List.range N).filter p).map fun (k : Nat) => (k : Int)) = ((List.range M).filter p).length
  | 0, _, _ => rfl
  | M + 1, N, h => by
    show rcn M _ + _ = _
    rw [rcn_filter p M N (by omega), List.range_succ, List.filter_append, List.length_append]
    congr 1
    have : ((M : Int) ∈ ((List.range N).filter p).map fun (k : Nat) => (k : Int)) ↔ p M = true := by
      rw [List.mem_map]
      constructor
      · rintro ⟨k, hk, e⟩
        have e : k = M := by omega
        subst e
        exact (List.mem_filter.1 hk).2
      · intro hp
        exact ⟨M, List.mem_filter.2 ⟨List.mem_range.2 (by omega), hp⟩, rfl⟩
    by_cases hp : p M = true
    · rw [if_pos (this.2 hp)]
      simp [hp]
    · rw [if_neg (fun h' => hp (this.1 h'))]
      simp [hp]
/-- What Recoverable says. -/
def RecQ (D S : Int) (l : List Int) : Prop := Lok D S ∧ D ≤ (rcn (D + S).toNat l : Int)
set_option maxRecDepth 100000
open Go.RowKit Mem
open Go.Proofs.Ytcfoclmkhippoaa.G8 (is is_len is_get is_snoc is_append IsInts)
set_option linter.unusedVariables false
set_option linter.unusedSimpArgs false

/-- The numbers that are known, as cells. -/
def seenB (M : Nat) (l : List Int) : List Value := (List.range 15).map fun i => .bool (decide (i < M ∧ (i : Int) ∈ l))
theorem seenB_len (M : Nat) (l : List Int) : (seenB M l).length = 15 := by simp [seenB]
theorem seenB_nil (M : Nat) : seenB M [] = List.replicate 15 (.bool false) := by
  refine List.ext_getElem (by simp [seenB]) fun i h1 h2 => ?_
  rw [List.getElem_replicate]
  simp only [seenB, List.getElem_map]
  simp
theorem seenB_get (M : Nat) (l : List Int) {X : Nat} (h : X < 15) (hM : X < M) : (seenB M l)[X]'(by rw [seenB_len]; exact h) = .bool (decide ((X : Int) ∈ l)) := by
  simp only [seenB, List.getElem_map, List.getElem_range]
  congr 1
  simp [hM]
theorem seenB_set (M : Nat) (l : List Int) {X : Nat} (h : X < 15) (hM : X < M) : (seenB M l).set X (.bool true) = seenB M (l ++ [(X : Int)]) := by
  refine List.ext_getElem (by rw [List.length_set, seenB_len, seenB_len]) fun i h1 h2 => ?_
  rw [List.getElem_set]
  simp only [seenB, List.getElem_map, List.getElem_range, List.mem_append, List.mem_singleton]
  by_cases e : X = i
  · subst e
    rw [if_pos rfl]
    congr 1
    simp [hM]
  · rw [if_neg e]
    congr 1
    have : ¬ (i : Int) = (X : Int) := by omega
    simp [this]
theorem seenB_old (M : Nat) (l : List Int) {r : Int} (h : r ∈ l ∨ r < 0 ∨ (M : Int) ≤ r) : seenB M (l ++ [r]) = seenB M l := by
  refine List.map_congr_left fun i _ => ?_
  congr 1
  rw [decide_eq_decide, List.mem_append, List.mem_singleton]
  constructor
  · rintro ⟨h1, h2 | rfl⟩
    · exact ⟨h1, h2⟩
    · rcases h with h | h | h
      · exact ⟨h1, h⟩
      · omega
      · omega
  · exact fun h => ⟨h.1, Or.inl h.2⟩
def RecP (D S : Int) (l : List Int) (w : World) (e : Ending) (w' : World) : Prop := IsB (RecQ D S l) e ∧ Below w.heap.size w w'
set_option maxHeartbeats 4000000 in
theorem recov_own {A : Option Addr} {c n : Nat} {l : List Int} (D S : Int) (w : World) (h : IsInts w A c l) (hn : l.length = n) (hn2 : n ≤ 1000) :
    Calls Try.prog 20 #[lyV D S, .slice A n c] w (RecP D S l w) := by
  have cC := fun W => chk_own D S W
  have yes := fun (w' : World) (h : RecQ D S l) (hb : Below w.heap.size w w') => show RecP D S l w _ w' from ⟨IsB.yes h, hb⟩
  have no := fun (w' : World) (h : ¬ RecQ D S l) (hb : Below w.heap.size w w') => show RecP D S l w _ w' from ⟨IsB.no h, hb⟩
  obtain ⟨P, hP⟩ : ∃ P, RecP D S l w = P := ⟨_, rfl⟩
  rw [hP] at yes no ⊢
  have hb0 := boxed w (.cells #[.int .i64 D, .int .i64 S] 23)
  have hs0 : (w.alloc (.cells #[.int .i64 D, .int .i64 S] 23)).heap.size = w.heap.size + 1 := by simp
  have hl0 := vat_alloc w 23 [.int .i64 D, .int .i64 S]
  obtain ⟨W0, hW0⟩ : ∃ W0, w.alloc (.cells #[.int .i64 D, .int .i64 S] 23) = W0 := ⟨_, rfl⟩
  rw [show w.alloc (.cells [.int .i64 D, .int .i64 S].toArray 23) = W0 from hW0] at hl0
  rw [hW0] at hb0 hs0
  obtain ⟨a0, a1⟩ := Cells2.of hl0
  unfold lyV at cC ⊢
  replace cC := Lib.hid cC
  replace yes := Lib.hid yes
  replace no := Lib.hid no
  replace hb0 := Lib.hid hb0
  replace hs0 := Lib.hid hs0
  replace hl0 := Lib.hid hl0
  have hread := Lib.hid (fun j hj => h.read j hj)
  replace hn := Lib.hid hn
  clear hP
  show Calls _ _ _ _ (fun e w' => P e w')
  go_enter Try.func20, Try.ntmps20
  go_wp2_with fail
  refine (cC.out _).mono ?_
  rintro e w1 ⟨k, hk, rfl, hb1⟩
  have hs1 := hb1.size
  have hb2 := Lib.hid (hb0.out.trans (hb1.mono (by have := hs0.out; omega)))
  have hl1 := hl0.out.below hb1 (by have := hs0.out; omega)
  have hws : w.heap.size < w1.heap.size := by have := hs0.out; omega
  clear a0 a1 hW0 hb0 hs0 hl0 hb1 hs1 cC
  rcases hk with ⟨rfl, hL⟩ | ⟨rfl, hL⟩
  · obtain ⟨d, rfl⟩ := Int.eq_ofNat_of_zero_le (show 0 ≤ D by have := hL.1; omega)
    obtain ⟨s, rfl⟩ := Int.eq_ofNat_of_zero_le hL.2.2.1
    obtain ⟨M, hM⟩ : ∃ M, d + s = M := ⟨_, rfl⟩
    have hM15 : M ≤ 15 := by have := hL.2.1; have := hL.2.2.2; omega
    have eM : (d : Int) + (s : Int) = (M : Int) := by omega
    have hres : ∀ N : Nat, N = rcn M l → (RecQ (d : Int) (s : Int) l ↔ (d : Int) ≤ (N : Int)) := fun N e => by
      unfold RecQ
      rw [eM, e, Int.toNat_natCast]
      exact ⟨fun h => h.2, fun h => ⟨hL, h⟩⟩
    have d8 : (d : Int) ≤ 8 := hL.2.1
    have s7 : (s : Int) ≤ 7 := hL.2.2.2
    have hal := boxed w1 (.cells #[.bool false, .bool false, .bool false, .bool false, .bool false, .bool false, .bool false, .bool false, .bool false, .bool false, .bool false, .bool false, .bool false, .bool false, .bool false] 58)
    have hv0 := vat_alloc w1 58 (seenB M [])
    rw [seenB_nil] at hv0
    rw [← seenB_nil M] at hv0
    have hs2 : (w1.alloc (.cells #[.bool false, .bool false, .bool false, .bool false, .bool false, .bool false, .bool false, .bool false, .bool false, .bool false, .bool false, .bool false, .bool false, .bool false, .bool false] 58)).heap.size = w1.heap.size + 1 := by simp
    obtain ⟨W2, hW2⟩ : ∃ W2, w1.alloc (.cells #[.bool false, .bool false, .bool false, .bool false, .bool false, .bool false, .bool false, .bool false, .bool false, .bool false, .bool false, .bool false, .bool false, .bool false, .bool false] 58) = W2 := ⟨_, rfl⟩
    rw [hW2] at hal hs2
    rw [show w1.alloc (.cells (seenB M []).toArray 58) = W2 by rw [seenB_nil]; exact hW2] at hv0
    have hb3 := chain hb2.out hal
    have hl2 := hl1.below hal hws
    obtain ⟨B, hB⟩ : ∃ B, w1.heap.size = B := ⟨_, rfl⟩
    rw [hB] at hv0 hs2 hws
    have q0 := Lib.hid hv0
    have q1 := Lib.hid hb3
    have q2 := Lib.hid hl2
    have q3 := Lib.hid (show B < W2.heap.size by omega)
    obtain ⟨x0, x1⟩ := Cells2.of hl1
    replace hres := Lib.hid hres
    replace hL := Lib.hid hL
    replace hM := Lib.hid hM
    replace hws := Lib.hid hws
    clear hv0 hb3 hl2 hs2 hal hb2 hl1
    have n1000 : (n : Int) ≤ 1000 := by omega
    go_wp2
    clear x0 x1
    go_loopw [6, 14] (fun cv iv wr => ∃ (k N : Nat), iv = .int .i64 (k : Int) ∧ cv = .int .i64 (N : Int) ∧ k ≤ n ∧ N ≤ 15 ∧ Hid (N = rcn M (l.take k)) ∧ Hid (VAt wr B (seenB M (l.take k))) ∧ Hid (Below w.heap.size w wr) ∧ Hid (VAt wr w.heap.size [.int .i64 (d : Int), .int .i64 (s : Int)]) ∧ Hid (B < wr.heap.size)) (fun _ iv _ => n - (intOf iv).toNat)
    case atStart => exact ⟨0, 0, rfl, rfl, Nat.zero_le _, Nat.zero_le _, Lib.hid (by rw [List.take_zero, rcn_nil]), q0, q1, q2, q3⟩
    case round =>
      clear q0 q1 q2 q3 hW2
      obtain ⟨k, N, rfl, rfl, hk, hN15, hN, hv, hb, hl, hsz⟩ := hrel
      obtain ⟨x0, x1⟩ := Cells2.of hl.out
      by_cases hlt : k < n
      · have dk : decide ((k : Int) < (n : Int)) = true := decide_eq_true (by omega)
        have k0 : (0 : Int) ≤ (k : Int) := by omega
        have k1 : (k : Int) < (n : Int) := by omega
        obtain ⟨b, o, rfl, hbl, g0⟩ := hread.out k (by have := hn.out; omega)
        have g0 := (hb.out.cell (p := ⟨b, o + k, none⟩) hbl).trans g0
        have htk : l.take (k + 1) = l.take k ++ [l.getD k 0] := by
          rw [List.take_add_one, List.getD_eq_getElem?_getD, List.getElem?_eq_getElem (by have := hn.out; omega)]
          rfl
        obtain ⟨r, hr⟩ : ∃ r, l.getD k 0 = r := ⟨_, rfl⟩
        rw [hr] at g0 htk
        have cN := fun W => isn_own r (M : Int) W
        replace htk := Lib.hid htk
        clear hr hbl
        by_cases hin : 0 ≤ r ∧ r < (M : Int)
        · rw [decide_eq_true hin] at cN
          obtain ⟨X, rfl⟩ := Int.eq_ofNat_of_zero_le hin.1
          have hX : X < M := by omega
          have hX15 : X < 15 := by omega
          have hg := hv.out X (by rw [seenB_len]; exact hX15)
          rw [seenB_get M _ hX15 hX] at hg
          obtain ⟨v0, f0⟩ := hg
          have X0 : (0 : Int) ≤ (X : Int) := by omega
          have X1 : (X : Int) < 15 := by omega
          replace cN := Lib.hid cN
          by_cases hm : (X : Int) ∈ l.take k
          · rw [decide_eq_true hm] at v0
            have r0 : Hid (N = rcn M (l.take (k + 1))) := Lib.hid (by rw [htk.out, rcn_old (Or.inl hm)]; exact hN.out)
            have r1 : Hid (VAt wr B (seenB M (l.take (k + 1)))) := Lib.hid (by rw [htk.out, seenB_old M _ (Or.inl hm)]; exact hv.out)
            clear hm hN hv hin htk hread yes no hres
            go_wp2_with fail
            refine (cN.out _).mono ?_
            rintro e w5 ⟨rfl, rfl⟩
            go_wp2
            go_roundw
            case rel => exact ⟨k + 1, N, by go_num, rfl, by omega, hN15, r0, r1, hb, hl, hsz⟩
            case measure => simp [intOf]; omega
          · rw [decide_eq_false hm] at v0
            have hN2 : N + 1 = rcn M (l.take (k + 1)) := by rw [htk.out, rcn_new hm hX, ← hN.out]
            have hN3 : N + 1 ≤ 15 := by rw [hN2]; exact Nat.le_trans (rcn_le _ M) hM15
            have r0 : Hid (N + 1 = rcn M (l.take (k + 1))) := Lib.hid hN2
            have r1 : Hid (VAt (wr.setCell ⟨B, X, none⟩ (.bool true)) B (seenB M (l.take (k + 1)))) := Lib.hid (by
              rw [htk.out, ← seenB_set M _ hX15 hX]
              exact hv.out.set (by rw [seenB_len]; exact hX15) _)
            have r2 : Hid (Below w.heap.size w (wr.setCell ⟨B, X, none⟩ (.bool true))) := Lib.hid (hb.out.setCell (p := ⟨B, X, none⟩) (by have := hws.out; show w.heap.size ≤ B; omega) _)
            have r3 : Hid (VAt (wr.setCell ⟨B, X, none⟩ (.bool true)) w.heap.size [.int .i64 (d : Int), .int .i64 (s : Int)]) := Lib.hid (hl.out.far (by have := hws.out; omega) _)
            have r4 : Hid (B < (wr.setCell ⟨B, X, none⟩ (.bool true)).heap.size) := Lib.hid (by have := hsz.out; simpa using this)
            clear hm hN hv hin htk hread yes no hres hN2 hb hl hsz
            go_wp2_with fail
            refine (cN.out _).mono ?_
            rintro e w5 ⟨rfl, rfl⟩
            go_wp2
            go_roundw
            case rel => exact ⟨k + 1, N + 1, by go_num, by go_num, by omega, hN3, r0, r1, r2, r3, r4⟩
            case measure => simp [intOf]; omega
        · rw [decide_eq_false hin] at cN
          have hor : r ∈ l.take k ∨ r < 0 ∨ (M : Int) ≤ r := by right; omega
          have r0 : Hid (N = rcn M (l.take (k + 1))) := Lib.hid (by rw [htk.out, rcn_old hor]; exact hN.out)
          have r1 : Hid (VAt wr B (seenB M (l.take (k + 1)))) := Lib.hid (by rw [htk.out, seenB_old M _ hor]; exact hv.out)
          replace cN := Lib.hid cN
          clear hor hN hv hin htk hread yes no hres
          go_wp2_with fail
          refine (cN.out _).mono ?_
          rintro e w5 ⟨rfl, rfl⟩
          go_wp2
          go_roundw
          case rel => exact ⟨k + 1, N, by go_num, rfl, by omega, hN15, r0, r1, hb, hl, hsz⟩
          case measure => simp [intOf]; omega
      · obtain rfl : k = n := by omega
        have dk : decide ((k : Int) < (k : Int)) = false := decide_eq_false (by omega)
        have hNl : N = rcn M l := by rw [hN.out, List.take_of_length_le (by have := hn.out; omega)]
        have hr := hres.out N hNl
        by_cases hd : (d : Int) ≤ (N : Int)
        · have t1 : decide ((d : Int) ≤ (N : Int)) = true := decide_eq_true hd
          have t2 : decide (d ≤ N) = true := decide_eq_true (by omega)
          have hfin := Lib.hid (yes.out wr (hr.2 hd) hb.out)
          clear hr hd hN hv hb hl yes no hres hread hNl
          go_wp2
          first | go_ret | skip
          exact hfin.out
        · have t1 : decide ((d : Int) ≤ (N : Int)) = false := decide_eq_false hd
          have t2 : decide (d ≤ N) = false := decide_eq_false (by omega)
          have hfin := Lib.hid (no.out wr (fun h => hd (hr.1 h)) hb.out)
          clear hr hd hN hv hb hl yes no hres hread hNl
          go_wp2
          first | go_ret | skip
          exact hfin.out
  · have fin := Lib.hid (no.out w1 (fun h => hL h.1) hb2.out)
    clear yes no hb2 hl1 hL hws hread
    go_wp2
    first | go_ret | skip
    exact fin.out
end Go.Proofs.Ytcfoclmkhippoaa.L16
