/- MachineSpaces, walked. -/
import Derived.Test.YtfdlgdgjbfoogaaM17Alive
import Derived.Test.YtfdlgdgjbfoogaaM17PSpd
import Derived.Test.YtfdlgdgjbfoogaaM17Bld
import Derived.Test.YtfdlgdgjbfoogaaShelf
import Derived.Test.YtfdlgdgjbfoogaaM17Open
import Derived.Lib.IndexAny
import Derived.Deep.Cut
namespace Go.Proofs.Ytfdlgdgjbfoogaa.M17
set_option maxRecDepth 100000
open Go.RowKit Mem Bld
set_option linter.unusedVariables false
set_option linter.unusedSimpArgs false

theorem blk_al' {T : TypeId} {W : World} {X : Nat} {l : List Value} (k : Blk T W X l) (o : Obj) : Blk T (W.alloc o) X l := (Below.heap_alloc W o X k.lt).trans k
theorem z3' {T : TypeId} {W : World} {X : Nat} {a b c : Value} (k : Blk T W X [a, b, c]) : W.cell? ⟨X, 0, none⟩ = some a ∧ W.cell? ⟨X, 1, none⟩ = some b ∧ W.cell? ⟨X, 2, none⟩ = some c ∧ W.frozen? ⟨X, 0, none⟩ = false ∧ W.frozen? ⟨X, 1, none⟩ = false ∧ W.frozen? ⟨X, 2, none⟩ = false := ⟨k.cell 0, k.cell 1, k.cell 2, k.frz 0, k.frz 1, k.frz 2⟩
theorem not_in {l : List UInt8} {c : UInt8} (h : decide (0 ≤ Lib.indexByte l c) = false) : ∀ x ∈ l, x ≠ c := by
  intro x hx e
  subst e
  rw [← Lib.contains_iff_indexByte] at h
  simp at h
  exact h hx
def qs (k : Nat) : UInt8 := [63, 58, 59, 33, 64].getD k 0
theorem pl_of {l : List UInt8} (h : ∀ j, j < 5 → ∀ x ∈ l, x ≠ qs j) : ∀ c ∈ l, Pl c.toNat := fun c hc => by
  have e : ∀ j, j < 5 → ∀ n : Nat, (qs j).toNat = n → c.toNat ≠ n := fun j hj n hn e => h j hj c hc (UInt8.toNat_inj.1 (e.trans hn.symm))
  exact ⟨e 3 (by decide) 33 rfl, e 1 (by decide) 58 rfl, e 2 (by decide) 59 rfl, e 0 (by decide) 63 rfl, e 4 (by decide) 64 rfl⟩
theorem q_load (w : World) (k : Nat) (hk : k < 5) : (w.alloc (.cells #[.string ⟨#[63]⟩, .string ⟨#[58]⟩, .string ⟨#[59]⟩, .string ⟨#[33]⟩, .string ⟨#[64]⟩] 9)).cell? ⟨w.heap.size, k, none⟩ = some (.string ⟨#[qs k]⟩) := by
  rw [World.cell?_alloc_new]
  match k, hk with
  | 0, _ => rfl
  | 1, _ => rfl
  | 2, _ => rfl
  | 3, _ => rfl
  | 4, _ => rfl
theorem k_pick (y : UInt8) : ∃ (j : Nat) (KS : ByteArray), j < 3 ∧ (y.toNat : Int).tmod 3 = (j : Int) ∧ (∀ w : World, (w.alloc (.cells #[.string ⟨#[32]⟩, .string ⟨#[10]⟩, .string ⟨#[32, 32]⟩] 9)).cell? ⟨w.heap.size, j, none⟩ = some (.string KS)) ∧ (∀ c ∈ KS.data.toList, c = 32 ∨ c = 10) ∧ KS.data.toList ≠ [] ∧ KS.data.toList.length ≤ 2 ∧ KS.size ≤ 2 := by
  have h : y.toNat % 3 = 0 ∨ y.toNat % 3 = 1 ∨ y.toNat % 3 = 2 := by omega
  have e : (y.toNat : Int).tmod 3 = ((y.toNat % 3 : Nat) : Int) := by rw [Int.tmod_eq_emod_of_nonneg (by omega)]; rfl
  rw [e]
  rcases h with h | h | h <;> rw [h]
  · exact ⟨0, ⟨#[32]⟩, by decide, rfl, fun w => by rw [World.cell?_alloc_new]; rfl, by decide, by decide, by decide, by decide⟩
  · exact ⟨1, ⟨#[10]⟩, by decide, rfl, fun w => by rw [World.cell?_alloc_new]; rfl, by decide, by decide, by decide, by decide⟩
  · exact ⟨2, ⟨#[32, 32]⟩, by decide, rfl, fun w => by rw [World.cell?_alloc_new]; rfl, by decide, by decide, by decide, by decide⟩
set_option maxHeartbeats 4000000 in
theorem walk_spaces {IA : Option Addr} {m ic : Nat} {inp : List Nat} {w : World} (S : ByteArray) (hI : IsInp w IA m ic inp) (y : UInt8) :
    Calls Try.prog 6 #[.string S, .slice IA m ic, .int .u8 (y.toNat : Int)] w fun e w' => e = .returned (.bool true) ∧ Below w.heap.size w w' := by
  have cA := Lib.hid (alive_any w)
  have hIh := Lib.hid hI
  clear hI
  go_enter Try.func6, Try.ntmps6
  go_wp2_with fail
  refine (cA.out).mono ?_
  rintro e w1 ⟨rfl, hb1⟩
  have hN := Lib.hid (hIh.out.below hb1)
  have hB := Lib.hid hb1
  clear hIh hb1 cA
  by_cases big0 : 200 < S.size
  · have u0 : decide ((200 : Int) < (S.size : Int)) = true := decide_eq_true (by omega)
    clear big0
    go_wp2
    first | go_ret | skip
    exact ⟨rfl, hB.out⟩
  by_cases big1 : 100 < m
  · have u0 : decide ((200 : Int) < (S.size : Int)) = false := decide_eq_false (by omega)
    have u1 : decide ((100 : Int) < (m : Int)) = true := decide_eq_true (by omega)
    clear big0 big1
    go_wp2
    first | go_ret | skip
    exact ⟨rfl, hB.out⟩
  have u0 : decide ((200 : Int) < (S.size : Int)) = false := decide_eq_false (by omega)
  have u1 : decide ((100 : Int) < (m : Int)) = false := decide_eq_false (by omega)
  have hS : S.size ≤ 200 := by omega
  have hld := Lib.hid (q_load w1)
  clear big0 big1
  go_wp2
  go_loopw [25] (fun x wr => ∃ k : Nat, k ≤ 5 ∧ x = .int .i64 (k : Int) ∧ Hid (∀ j, j < k → ∀ z ∈ S.data.toList, z ≠ qs j) ∧ Hid (Below (w1.heap.size + 1) (w1.alloc (.cells #[.string ⟨#[63]⟩, .string ⟨#[58]⟩, .string ⟨#[59]⟩, .string ⟨#[33]⟩, .string ⟨#[64]⟩] 9)) wr)) (fun x _ => 5 - (intOf x).toNat)
  case atStart => exact ⟨0, by decide, rfl, Lib.hid (fun j h => absurd h (Nat.not_lt_zero _)), Lib.hid (Below.refl _ _)⟩
  case round =>
    obtain ⟨k, hk, rfl, hno, hb⟩ := hrel
    by_cases hlt : k < 5
    · have d2 : decide ((k : Int) < 5) = true := decide_eq_true (by omega)
      have k0 : (0 : Int) ≤ (k : Int) := by omega
      have k1 : (k : Int) < 5 := by omega
      have hc : wr.cell? ⟨w1.heap.size, k, none⟩ = some (.string ⟨#[qs k]⟩) := (hb.out.cell (p := ⟨w1.heap.size, k, none⟩) (Nat.lt_succ_self _)).trans (hld.out k hlt)
      have hCon := fun W => Try.strings_Contains_one S (qs k) W
      rcases hq : decide (0 ≤ Lib.indexByte S.data.toList (qs k)) with _ | _
      · have hn2 := Lib.hid (show ∀ j, j < k + 1 → ∀ z ∈ S.data.toList, z ≠ qs j from fun j hj => by
          by_cases e : j = k
          · subst e; exact not_in hq
          · exact hno.out j (by omega))
        rw [hq] at hCon
        replace hCon := Lib.hid hCon
        clear hq hno
        go_wp2_with fail
        refine (hCon.out _).mono ?_
        rintro e w2 ⟨rfl, rfl⟩
        go_wp2
        go_roundw
        case rel => exact ⟨k + 1, by omega, by go_num, hn2, hb⟩
        case measure => simp [intOf]; omega
      · rw [hq] at hCon
        replace hCon := Lib.hid hCon
        have hfin := Lib.hid (chain hB.out (chain (boxed w1 _) (hb.out.mono (by simp))))
        clear hq hno
        go_wp2_with fail
        refine (hCon.out _).mono ?_
        rintro e w2 ⟨rfl, rfl⟩
        go_wp2
        first | go_ret | skip
        exact ⟨rfl, hfin.out⟩
    · have d2 : decide ((k : Int) < 5) = false := decide_eq_false (by omega)
      have hpl := Lib.hid (pl_of (fun j hj => hno.out j (by omega)))
      have hb2 := Lib.hid (chain (boxed w1 _) (hb.out.mono (by simp)))
      have hN2 := Lib.hid (hN.out.below hb2.out)
      have hB2 := Lib.hid (chain hB.out hb2.out)
      clear hno hb hk hlt hld hN hB hb2
      have hf0 := Lib.fresh_isBuilder 43 5 wr
      have hB0 : Below wr.heap.size wr (wr.alloc (.cells #[.pointer none, .slice none 0 0] 43)) := (Below.refl _ wr).alloc (Nat.le_refl _) _
      go_wp2
      obtain ⟨j, KS, j3, hj, hload, hK, hK0, hK2, hKs⟩ := k_pick y
      have j0 : (0 : Int) ≤ (j : Int) := by omega
      have j1 : (j : Int) < 3 := by omega
      have hans := Lib.hid (fun (T : ByteArray) (hT : T.data.toList = spB KS.data.toList S.data.toList) => ans_spc S T KS.data.toList hK hK0 hK2 hT hS hpl.out inp)
      have hstop := Lib.hid (spB_stop KS.data.toList S.data.toList)
      have hnum := Lib.hid (spB_num KS.data.toList S.data.toList)
      have hgap := Lib.hid (spB_gap KS.data.toList S.data.toList)
      have hlS : S.data.toList.length = S.size := by simp
      have hget : ∀ (k : Nat) (h : k < S.size), S[k] = S.data.toList[k]'(by rw [hlS]; exact h) := fun k h => rfl
      have hlen := Lib.hid (spB_len KS.data.toList S.data.toList)
      replace hload := Lib.hid hload
      have hKl := Lib.hid hK2
      clear hK hK0 hK2 hpl
      obtain ⟨wq, rfl⟩ : ∃ W : World, W = wr := ⟨wr, rfl⟩
      go_loopw [10] (fun x wx => ∃ (k : Nat) (acc : List UInt8), k ≤ S.size ∧ x = .int .i64 (k : Int) ∧ Hid (acc ++ spB KS.data.toList (S.data.toList.drop k) = spB KS.data.toList S.data.toList) ∧ Hid (acc.length ≤ 3 * k) ∧ Lib.IsBuilder 43 5 wq.heap.size wq.heap.size (Lib.byteCells acc) wx ∧ Below wq.heap.size wq wx) (fun x _ => S.size - (intOf x).toNat)
      case atStart => exact ⟨0, [], Nat.zero_le _, rfl, Lib.hid rfl, Lib.hid (Nat.zero_le _), hf0, hB0⟩
      case round =>
        clear hf0 hB0
        obtain ⟨k, acc, hk, rfl, hJ, hL, hI, hB⟩ := hrel
        by_cases hlt : k < S.size
        · obtain ⟨q, hq⟩ : ∃ q, k + 1 = q := ⟨_, rfl⟩
          have g2 : (k : Int) + 1 = (q : Int) := by omega
          have k0 : (0 : Int) ≤ (k : Int) := by omega
          have k1 : (k : Int) < (S.size : Int) := by omega
          have d2 : decide ((k : Int) < (S.size : Int)) = true := decide_eq_true (by omega)
          have q0 : (0 : Int) ≤ (q : Int) := by omega
          have hkl : k < S.data.toList.length := by omega
          obtain ⟨y0, hy0⟩ : ∃ y, S[k] = y := ⟨_, rfl⟩
          have hy1 : S.data.toList[k] = y0 := hy0
          have hcat := Lib.hid (show Lib.byteCells acc ++ [.int .u8 (y0.toNat : Int)] = Lib.byteCells (acc ++ [y0]) by rw [Lib.byteCells_append]; rfl)
          have cB := Lib.hid (byte_any wq.heap.size wq.heap.size (Lib.byteCells acc) y0 _ hI (by rw [Lib.byteCells_length]; have := hL.out; omega) hB.size)
          by_cases hq1 : q < S.size
          · have q1 : (q : Int) < (S.size : Int) := by omega
            have d3 : decide ((q : Int) < (S.size : Int)) = true := decide_eq_true (by omega)
            obtain ⟨x0, hx0⟩ : ∃ y, S[q] = y := ⟨_, rfl⟩
            have hx1 : S.data.toList[k + 1]'(by omega) = x0 := by subst hq; exact hx0
            have hnk := hnum.out k (by omega)
            have hgk := hgap.out k (by omega)
            rw [hx1, hy1] at hnk hgk
            by_cases c1 : x0.toNat < 48
            · have e1 : decide ((x0.toNat : Int) < 48) = true := decide_eq_true (by omega)
              have hJ2 := Lib.hid (show (acc ++ [y0] ++ KS.data.toList) ++ spB KS.data.toList (S.data.toList.drop q) = spB KS.data.toList S.data.toList by rw [← hJ.out, hgk (fun h => by have := h.2.1; omega), hq]; simp only [List.append_assoc])
              clear hJ hnk hgk hx1 hy1 hans hstop hnum hgap hget hlen c1
              go_wp2_with fail
              refine (cB.out).mono ?_
              rintro e w2 ⟨rfl, hI2, hb2⟩
              rw [hcat.out] at hI2
              have hB3 := hB.trans hb2
              have cW := write_any wq.heap.size wq.heap.size (Lib.byteCells (acc ++ [y0])) KS (w2.alloc (.cells #[.string ⟨#[32]⟩, .string ⟨#[10]⟩, .string ⟨#[32, 32]⟩] 9)) (builder_below hI2 (boxed w2 _)) (by rw [Lib.byteCells_length, List.length_append, List.length_singleton]; have := hL.out; omega) (Nat.le_trans hB3.size (by simp))
              rw [Lib.strCells_eq, ← Lib.byteCells_append] at cW
              have g9 := hload.out w2
              have hB4 := Lib.hid (hB3.alloc hB3.size (.cells #[.string ⟨#[32]⟩, .string ⟨#[10]⟩, .string ⟨#[32, 32]⟩] 9))
              replace cW := Lib.hid cW
              clear cB hI hB hb2 hI2 hB3
              go_wp2_with (go_at_call 15; refine (cW.out).mono ?_; rintro e w3 ⟨rfl, hI4, hb4, _⟩)
              go_roundw
              case rel => exact ⟨q, acc ++ [y0] ++ KS.data.toList, by omega, by go_num, hJ2, Lib.hid (by rw [List.length_append, List.length_append, List.length_singleton]; have := hL.out; have := hKl.out; omega), hI4, hB4.out.trans hb4⟩
              case measure => simp [intOf]; omega
            by_cases c2 : 57 < x0.toNat
            · have e1 : decide ((x0.toNat : Int) < 48) = false := decide_eq_false (by omega)
              have e2 : decide ((57 : Int) < (x0.toNat : Int)) = true := decide_eq_true (by omega)
              have hJ2 := Lib.hid (show (acc ++ [y0] ++ KS.data.toList) ++ spB KS.data.toList (S.data.toList.drop q) = spB KS.data.toList S.data.toList by rw [← hJ.out, hgk (fun h => by have := h.2.2; omega), hq]; simp only [List.append_assoc])
              clear hJ hnk hgk hx1 hy1 hans hstop hnum hgap hget hlen c1 c2
              go_wp2_with fail
              refine (cB.out).mono ?_
              rintro e w2 ⟨rfl, hI2, hb2⟩
              rw [hcat.out] at hI2
              have hB3 := hB.trans hb2
              have cW := write_any wq.heap.size wq.heap.size (Lib.byteCells (acc ++ [y0])) KS (w2.alloc (.cells #[.string ⟨#[32]⟩, .string ⟨#[10]⟩, .string ⟨#[32, 32]⟩] 9)) (builder_below hI2 (boxed w2 _)) (by rw [Lib.byteCells_length, List.length_append, List.length_singleton]; have := hL.out; omega) (Nat.le_trans hB3.size (by simp))
              rw [Lib.strCells_eq, ← Lib.byteCells_append] at cW
              have g9 := hload.out w2
              have hB4 := Lib.hid (hB3.alloc hB3.size (.cells #[.string ⟨#[32]⟩, .string ⟨#[10]⟩, .string ⟨#[32, 32]⟩] 9))
              replace cW := Lib.hid cW
              clear cB hI hB hb2 hI2 hB3
              go_wp2_with (go_at_call 15; refine (cW.out).mono ?_; rintro e w3 ⟨rfl, hI4, hb4, _⟩)
              go_roundw
              case rel => exact ⟨q, acc ++ [y0] ++ KS.data.toList, by omega, by go_num, hJ2, Lib.hid (by rw [List.length_append, List.length_append, List.length_singleton]; have := hL.out; have := hKl.out; omega), hI4, hB4.out.trans hb4⟩
              case measure => simp [intOf]; omega
            by_cases c3 : y0.toNat < 48
            · have e1 : decide ((x0.toNat : Int) < 48) = false := decide_eq_false (by omega)
              have e2 : decide ((57 : Int) < (x0.toNat : Int)) = false := decide_eq_false (by omega)
              have e3 : decide ((y0.toNat : Int) < 48) = true := decide_eq_true (by omega)
              have hJ2 := Lib.hid (show (acc ++ [y0] ++ KS.data.toList) ++ spB KS.data.toList (S.data.toList.drop q) = spB KS.data.toList S.data.toList by rw [← hJ.out, hgk (fun h => by have := h.1.1; omega), hq]; simp only [List.append_assoc])
              clear hJ hnk hgk hx1 hy1 hans hstop hnum hgap hget hlen c1 c2 c3
              go_wp2_with fail
              refine (cB.out).mono ?_
              rintro e w2 ⟨rfl, hI2, hb2⟩
              rw [hcat.out] at hI2
              have hB3 := hB.trans hb2
              have cW := write_any wq.heap.size wq.heap.size (Lib.byteCells (acc ++ [y0])) KS (w2.alloc (.cells #[.string ⟨#[32]⟩, .string ⟨#[10]⟩, .string ⟨#[32, 32]⟩] 9)) (builder_below hI2 (boxed w2 _)) (by rw [Lib.byteCells_length, List.length_append, List.length_singleton]; have := hL.out; omega) (Nat.le_trans hB3.size (by simp))
              rw [Lib.strCells_eq, ← Lib.byteCells_append] at cW
              have g9 := hload.out w2
              have hB4 := Lib.hid (hB3.alloc hB3.size (.cells #[.string ⟨#[32]⟩, .string ⟨#[10]⟩, .string ⟨#[32, 32]⟩] 9))
              replace cW := Lib.hid cW
              clear cB hI hB hb2 hI2 hB3
              go_wp2_with (go_at_call 15; refine (cW.out).mono ?_; rintro e w3 ⟨rfl, hI4, hb4, _⟩)
              go_roundw
              case rel => exact ⟨q, acc ++ [y0] ++ KS.data.toList, by omega, by go_num, hJ2, Lib.hid (by rw [List.length_append, List.length_append, List.length_singleton]; have := hL.out; have := hKl.out; omega), hI4, hB4.out.trans hb4⟩
              case measure => simp [intOf]; omega
            by_cases c4 : 57 < y0.toNat
            · have e1 : decide ((x0.toNat : Int) < 48) = false := decide_eq_false (by omega)
              have e2 : decide ((57 : Int) < (x0.toNat : Int)) = false := decide_eq_false (by omega)
              have e3 : decide ((y0.toNat : Int) < 48) = false := decide_eq_false (by omega)
              have e4 : decide ((57 : Int) < (y0.toNat : Int)) = true := decide_eq_true (by omega)
              have hJ2 := Lib.hid (show (acc ++ [y0] ++ KS.data.toList) ++ spB KS.data.toList (S.data.toList.drop q) = spB KS.data.toList S.data.toList by rw [← hJ.out, hgk (fun h => by have := h.1.2; omega), hq]; simp only [List.append_assoc])
              clear hJ hnk hgk hx1 hy1 hans hstop hnum hgap hget hlen c1 c2 c3 c4
              go_wp2_with fail
              refine (cB.out).mono ?_
              rintro e w2 ⟨rfl, hI2, hb2⟩
              rw [hcat.out] at hI2
              have hB3 := hB.trans hb2
              have cW := write_any wq.heap.size wq.heap.size (Lib.byteCells (acc ++ [y0])) KS (w2.alloc (.cells #[.string ⟨#[32]⟩, .string ⟨#[10]⟩, .string ⟨#[32, 32]⟩] 9)) (builder_below hI2 (boxed w2 _)) (by rw [Lib.byteCells_length, List.length_append, List.length_singleton]; have := hL.out; omega) (Nat.le_trans hB3.size (by simp))
              rw [Lib.strCells_eq, ← Lib.byteCells_append] at cW
              have g9 := hload.out w2
              have hB4 := Lib.hid (hB3.alloc hB3.size (.cells #[.string ⟨#[32]⟩, .string ⟨#[10]⟩, .string ⟨#[32, 32]⟩] 9))
              replace cW := Lib.hid cW
              clear cB hI hB hb2 hI2 hB3
              go_wp2_with (go_at_call 15; refine (cW.out).mono ?_; rintro e w3 ⟨rfl, hI4, hb4, _⟩)
              go_roundw
              case rel => exact ⟨q, acc ++ [y0] ++ KS.data.toList, by omega, by go_num, hJ2, Lib.hid (by rw [List.length_append, List.length_append, List.length_singleton]; have := hL.out; have := hKl.out; omega), hI4, hB4.out.trans hb4⟩
              case measure => simp [intOf]; omega
            have e1 : decide ((x0.toNat : Int) < 48) = false := decide_eq_false (by omega)
            have e2 : decide ((57 : Int) < (x0.toNat : Int)) = false := decide_eq_false (by omega)
            have e3 : decide ((y0.toNat : Int) < 48) = false := decide_eq_false (by omega)
            have e4 : decide ((57 : Int) < (y0.toNat : Int)) = false := decide_eq_false (by omega)
            have hJ2 := Lib.hid (show (acc ++ [y0]) ++ spB KS.data.toList (S.data.toList.drop q) = spB KS.data.toList S.data.toList by rw [← hJ.out, hnk ⟨⟨by omega, by omega⟩, ⟨by omega, by omega⟩⟩, hq]; simp only [List.append_assoc])
            clear hJ hnk hgk hx1 hy1 hstop hnum hgap hlen c1 c2 c3 c4
            clear hload hans hget
            go_wp2_with fail
            refine (cB.out).mono ?_
            rintro e w2 ⟨rfl, hI2, hb2⟩
            rw [hcat.out] at hI2
            have hB3 := hB.trans hb2
            clear cB hI hB hb2
            go_wp2
            go_roundw
            case rel => exact ⟨q, acc ++ [y0], by omega, by go_num, hJ2, Lib.hid (by rw [List.length_append, List.length_singleton]; have := hL.out; omega), hI2, hB3⟩
            case measure => simp [intOf]; omega
          · have d3 : decide ((q : Int) < (S.size : Int)) = false := decide_eq_false (by omega)
            have hsk := hstop.out k (by omega)
            rw [hy1] at hsk
            have hJ2 := Lib.hid (show (acc ++ [y0]) ++ spB KS.data.toList (S.data.toList.drop q) = spB KS.data.toList S.data.toList by rw [← hJ.out, hsk, hq]; simp only [List.append_assoc])
            clear hJ hsk hy1 hstop hnum hgap hlen
            clear hload hans hget
            go_wp2_with fail
            refine (cB.out).mono ?_
            rintro e w2 ⟨rfl, hI2, hb2⟩
            rw [hcat.out] at hI2
            have hB3 := hB.trans hb2
            clear cB hI hB hb2
            go_wp2
            go_roundw
            case rel => exact ⟨q, acc ++ [y0], by omega, by go_num, hJ2, Lib.hid (by rw [List.length_append, List.length_singleton]; have := hL.out; omega), hI2, hB3⟩
            case measure => simp [intOf]; omega
        · obtain rfl : k = S.size := by omega
          have d2 : decide ((S.size : Int) < (S.size : Int)) = false := decide_eq_false (by omega)
          have hacc : acc = spB KS.data.toList S.data.toList := by
            rw [← hJ.out, show S.data.toList.drop S.size = [] from List.drop_eq_nil_of_le (by omega)]
            exact (List.append_nil _).symm
          obtain ⟨p1, p2, p3⟩ := hans.out ⟨acc.toArray⟩ (by rw [← hacc])
          have hTs : acc.length ≤ 600 := by have := hL.out; omega
          obtain ⟨x, hx⟩ : ∃ x, ans [(0, S)] 0 inp 1000 = x := ⟨_, rfl⟩
          obtain ⟨z, hz⟩ : ∃ x, ans [(0, (⟨acc.toArray⟩ : ByteArray))] 0 inp 1000 = x := ⟨_, rfl⟩
          have cF := fun (W : World) (hb : Below wq.heap.size wq W) => Run_own (txts_one W 0 S (fit_small 0 S (by decide) (by decide) (by omega))) (hN2.out.below (hb.alloc hb.size (.cells #[.int .i64 0, .string S] 38))) 0 1000
          have cG := fun (W : World) (hb : Below wq.heap.size wq W) => Run_own (txts_one W 0 ⟨acc.toArray⟩ (fit_small 0 _ (by decide) (by decide) (by show acc.toArray.size ≤ _; rw [List.size_toArray]; omega))) (hN2.out.below (hb.alloc hb.size (.cells #[.int .i64 0, .string ⟨acc.toArray⟩] 38))) 0 1000
          rw [hx] at cF p1 p2 p3
          rw [hz] at cG p1 p2 p3
          unfold outV at cF cG
          rw [p1, p2] at cF
          obtain ⟨O, hO⟩ : ∃ O : ByteArray, ⟨z.out.toArray⟩ = O := ⟨_, rfl⟩
          obtain ⟨oe, hoe⟩ : ∃ o : Int, (z.err : Int) = o := ⟨_, rfl⟩
          obtain ⟨s1, hs1⟩ : ∃ o : Int, (x.steps : Int) = o := ⟨_, rfl⟩
          obtain ⟨s2, hs2⟩ : ∃ o : Int, (z.steps : Int) = o := ⟨_, rfl⟩
          rw [hO, hoe, hs1] at cF
          rw [hO, hoe, hs2] at cG
          have t1 : decide (s1 ≤ s2) = true := decide_eq_true (by omega)
          replace cF := Lib.hid cF
          replace cG := Lib.hid cG
          have cRun := Lib.hid (cF.out _ hB)
          have hIh := Lib.hid hI
          have hBh := Lib.hid hB
          clear hstop hnum hgap hans hload hget hlen hJ hL hacc p1 p2 p3 hx hz hO hoe hs1 hs2 hI hB hlt hlS
          go_wp2_with fail
          refine (cRun.out).mono ?_
          rintro e w4 ⟨rfl, hb4⟩
          have hb5 := chain (boxed _ (.cells #[.int .i64 0, .string S] 38)) hb4
          have v1 := Blk.new w4 29 [.string O, .int .i64 oe, .int .i64 s1]
          have hb6 := chain hb5 (boxed w4 (.cells #[.string O, .int .i64 oe, .int .i64 s1] 29))
          have hI2 := Lib.hid (builder_below hIh.out hb6)
          have hB2' := Lib.hid (hBh.out.trans (hb6.mono hBh.out.size))
          have hlt4 : wq.heap.size < w4.heap.size := by
            have h1 := hBh.out.size
            have h2 := hb5.size
            have h3 := hb4.size
            simp at h3
            omega
          obtain ⟨X1, hX1⟩ : ∃ X, w4.heap.size = X := ⟨_, rfl⟩
          obtain ⟨W4, hW4⟩ : ∃ W, w4.alloc (.cells #[.string O, .int .i64 oe, .int .i64 s1] 29) = W := ⟨_, rfl⟩
          rw [show (w4.alloc (.cells [.string O, .int .i64 oe, .int .i64 s1].toArray 29)) = W4 from hW4, hX1] at v1
          rw [hW4] at hI2 hB2'
          rw [hX1] at hlt4
          have cS := Lib.hid (Try.Builder_String_any_k wq.heap.size wq.heap.size acc W4 (Lib.IsBuilderF.of hI2.out) hB2'.out.size)
          replace v1 := Lib.hid v1
          clear hb4 hb5 hb6 hIh hBh hI2 cF cRun
          go_wp2_with fail
          refine (cS.out).mono ?_
          rintro e w5 ⟨rfl, _, hb7, hok⟩
          have v2 : Blk 29 w5 X1 _ := hok X1 _ v1.out (fun e => by injection e with e; omega) (fun c fz e => by injection e with _ e2 _; exact absurd e2 (by decide))
          have hB3 := Lib.hid (hB2'.out.trans hb7)
          have cRun := Lib.hid (cG.out w5 hB3.out)
          replace v2 := Lib.hid v2
          clear v1 hok hb7 cS hB2' cG hW4 hX1 hlt4
          go_wp2_with fail
          refine (cRun.out).mono ?_
          rintro e w6 ⟨rfl, hb8⟩
          have hb9 := Lib.hid (chain (boxed w5 (.cells #[.int .i64 0, .string ⟨acc.toArray⟩] 38)) hb8)
          have v3 := Lib.hid (show Blk 29 w6 X1 _ from (hb9.out.block X1 v2.out.lt).trans v2.out)
          obtain ⟨a0, a1, a2, -, -, -⟩ := z3' (blk_al' v3.out (.cells #[.string O, .int .i64 oe, .int .i64 s2] 29))
          obtain ⟨f0, f1, f2, -, -, -⟩ := z3' (Blk.new w6 29 [.string O, .int .i64 oe, .int .i64 s2])
          have hfin := Lib.hid (chain hB2.out (hB3.out.trans ((hb9.out.alloc hb9.out.size (.cells #[.string O, .int .i64 oe, .int .i64 s2] 29)).mono hB3.out.size)))
          obtain ⟨V, hV⟩ : ∃ V, w6.heap.size = V := ⟨_, rfl⟩
          obtain ⟨W6, hW6⟩ : ∃ W, w6.alloc (.cells #[.string O, .int .i64 oe, .int .i64 s2] 29) = W := ⟨_, rfl⟩
          rw [show (w6.alloc (.cells [.string O, .int .i64 oe, .int .i64 s2].toArray 29)) = W6 from hW6, hV] at f0 f1 f2
          rw [hW6] at a0 a1 a2 hfin
          clear v2 v3 hb8 hb9 hB3 cRun
          go_wp2
          first | go_ret | skip
          exact ⟨rfl, hfin.out⟩
/-- The same at what the reading says. -/
theorem row_spaces (S : ByteArray) (A : Option Addr) (n c : Nat) (zs : List Int) (k : Int) (w : World) (hS : S.size ≤ 140737488351232) (h : IsRow .u32 w A n c zs) (q0 : (Lit.int .u8 k).wf = true) : Calls Try.prog 6 #[.string S, .slice A n c, .int .u8 k] w fun e w' => e = .returned (.bool true) ∧ Below w.heap.size w w' := by
  obtain ⟨l, hl⟩ := IsInp.of_row h
  have h8 : 0 ≤ k ∧ k ≤ 255 := (Lit.wf_int_iff .u8 _).1 q0
  have e : k = ((UInt8.ofNat k.toNat).toNat : Int) := by
    rw [UInt8.toNat_ofNat_of_lt' (by show k.toNat < 256; omega)]
    omega
  rw [e]
  exact walk_spaces S hl _
end Go.Proofs.Ytfdlgdgjbfoogaa.M17
