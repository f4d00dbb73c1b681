/- The contract of the reference's Recoverable of layer 16. -/
import Derived.Test.YtcfoclmkhippoaaL16Ref1
import Derived.Test.YtcfoclmkhippoaaL16Own6
namespace Go.Proofs.Ytcfoclmkhippoaa.L16
set_option maxRecDepth 100000
open Go.RowKit Mem
open Go.Proofs.Ytcfoclmkhippoaa.G8 (is is_len is_get is_snoc is_append IsInts)
set_option linter.unusedVariables false
set_option linter.unusedSimpArgs false

theorem rcn_yes {l : List Int} {k : Nat} (h : (k : Int) ∈ l) : rcn (k + 1) l = rcn k l + 1 := by
  show rcn k l + _ = _
  rw [if_pos h]
theorem rcn_no {l : List Int} {k : Nat} (h : (k : Int) ∉ l) : rcn (k + 1) l = rcn k l := by
  show rcn k l + _ = _
  rw [if_neg h, Nat.add_zero]
set_option maxHeartbeats 4000000 in
theorem rrecov_any {A : Option Addr} {c n : Nat} {l : List Int} (D S : Int) (w : World) (h : IsInts w A c l) (hn : l.length = n) (hn2 : n ≤ 1000) :
    Calls Try.prog 22 #[lyV D S, .slice A n c] w (RecP D S l w) := by
  have cC := fun W => rchk_any D S W
  have yes := fun (w' : World) (h : RecQ D S l) (hb : Below w.heap.size w w') => show RecP D S l w _ w' from ⟨IsB.yes h, hb⟩
  have no := fun (w' : World) (h : ¬ RecQ D S l) (hb : Below w.heap.size w w') => show RecP D S l w _ w' from ⟨IsB.no h, hb⟩
  obtain ⟨P, hP⟩ : ∃ P, RecP D S l w = P := ⟨_, rfl⟩
  rw [hP] at yes no ⊢
  have hb0 := boxed w (.cells #[.int .i64 D, .int .i64 S] 23)
  have hs0 : (w.alloc (.cells #[.int .i64 D, .int .i64 S] 23)).heap.size = w.heap.size + 1 := by simp
  have hl0 := vat_alloc w 23 [.int .i64 D, .int .i64 S]
  obtain ⟨W0, hW0⟩ : ∃ W0, w.alloc (.cells #[.int .i64 D, .int .i64 S] 23) = W0 := ⟨_, rfl⟩
  rw [show w.alloc (.cells [.int .i64 D, .int .i64 S].toArray 23) = W0 from hW0] at hl0
  rw [hW0] at hb0 hs0
  obtain ⟨a0, a1⟩ := Cells2.of hl0
  unfold lyV at cC ⊢
  have hread := fun (W : World) (hb : Below w.heap.size w W) j hj => (h.below hb).read j hj
  replace cC := Lib.hid cC
  replace yes := Lib.hid yes
  replace no := Lib.hid no
  replace hb0 := Lib.hid hb0
  replace hs0 := Lib.hid hs0
  replace hl0 := Lib.hid hl0
  replace hread := Lib.hid hread
  replace hn := Lib.hid hn
  clear hP h
  show Calls _ _ _ _ (fun e w' => P e w')
  go_enter Try.func22, Try.ntmps22
  go_wp2_with fail
  refine (cC.out _).mono ?_
  rintro e w1 ⟨k, hk, rfl, hb1⟩
  have hb2 := Lib.hid (hb0.out.trans (hb1.mono (by have := hs0.out; omega)))
  have hl1 := hl0.out.below hb1 (by have := hs0.out; omega)
  clear a0 a1 hW0 hb0 hs0 hl0 hb1 cC
  rcases hk with ⟨rfl, hL⟩ | ⟨rfl, hL⟩
  · obtain ⟨d, rfl⟩ := Int.eq_ofNat_of_zero_le (show 0 ≤ D by have := hL.1; omega)
    obtain ⟨s, rfl⟩ := Int.eq_ofNat_of_zero_le hL.2.2.1
    obtain ⟨M, hM⟩ : ∃ M, d + s = M := ⟨_, rfl⟩
    have hM15 : M ≤ 15 := by have := hL.2.1; have := hL.2.2.2; omega
    have eM : (d : Int) + (s : Int) = (M : Int) := by omega
    have hres : ∀ N : Nat, N = rcn M l → (RecQ (d : Int) (s : Int) l ↔ (d : Int) ≤ (N : Int)) := fun N e => by
      unfold RecQ
      rw [eM, e, Int.toNat_natCast]
      exact ⟨fun h => h.2, fun h => ⟨hL, h⟩⟩
    have d8 : (d : Int) ≤ 8 := hL.2.1
    have s7 : (s : Int) ≤ 7 := hL.2.2.2
    obtain ⟨x0, x1⟩ := Cells2.of hl1
    have n1000 : (n : Int) ≤ 1000 := by omega
    have hrd := hread.out w1 hb2.out
    replace hrd := Lib.hid hrd
    replace hres := Lib.hid hres
    replace hL := Lib.hid hL
    replace hM := Lib.hid hM
    clear hl1 hread
    go_wp2
    go_loop [5, 6] (fun cv kv => ∃ (k N : Nat), kv = .int .i64 (k : Int) ∧ cv = .int .i64 (N : Int) ∧ k ≤ M ∧ N ≤ 15 ∧ Hid (N = rcn k l)) (fun _ kv => M - (intOf kv).toNat)
    case atStart => exact ⟨0, 0, rfl, rfl, Nat.zero_le _, Nat.zero_le _, Lib.hid rfl⟩
    case round =>
      obtain ⟨k, N, rfl, rfl, hk, hN15, hN⟩ := hrel
      by_cases hlt : k < M
      · have dk : decide ((k : Int) < (M : Int)) = true := decide_eq_true (by omega)
        have k15 : (k : Int) ≤ 15 := by omega
        have hNk : N ≤ k := by rw [hN.out]; exact rcn_le _ _
        go_wp2
        go_loop [5, 7] (fun cv iv => ∃ (i : Nat), iv = .int .i64 (i : Int) ∧ cv = .int .i64 (N : Int) ∧ i ≤ n ∧ Hid (∀ j, j < i → l.getD j 0 ≠ (k : Int))) (fun _ iv => n - (intOf iv).toNat)
        case atStart => exact ⟨0, rfl, rfl, Nat.zero_le _, Lib.hid (fun j h => by omega)⟩
        case round =>
          obtain ⟨i, rfl, rfl, hi, hI⟩ := hrel
          by_cases hlt2 : i < n
          · have di : decide ((i : Int) < (n : Int)) = true := decide_eq_true (by omega)
            have i0 : (0 : Int) ≤ (i : Int) := by omega
            have i1 : (i : Int) < (n : Int) := by omega
            have hil : i < l.length := by have := hn.out; omega
            obtain ⟨b, o, rfl, hbl, g0⟩ := hrd.out i hil
            by_cases e : l.getD i 0 = (k : Int)
            · have t1 : (l.getD i 0 == (k : Int)) = true := beq_iff_eq.2 e
              have hm : (k : Int) ∈ l := by
                rw [← e, List.getD_eq_getElem?_getD, List.getElem?_eq_getElem hil]
                exact List.getElem_mem hil
              have r0 : Hid (N + 1 = rcn (k + 1) l) := Lib.hid (by rw [rcn_yes hm, ← hN.out])
              obtain ⟨r, hr⟩ : ∃ r, l.getD i 0 = r := ⟨_, rfl⟩
              rw [hr] at g0 t1
              clear e hm hN hI hil hr yes no hres hrd
              go_wp2
              go_round
              case rel => exact ⟨k + 1, N + 1, by go_num, by go_num, by omega, by omega, r0⟩
              case measure => simp [intOf]; omega
            · have t1 : (l.getD i 0 == (k : Int)) = false := beq_eq_false_iff_ne.2 e
              have hI2 : Hid (∀ j, j < i + 1 → l.getD j 0 ≠ (k : Int)) := Lib.hid (fun j hj => by
                by_cases e' : j = i
                · subst e'; exact e
                · exact hI.out j (by omega))
              obtain ⟨r, hr⟩ : ∃ r, l.getD i 0 = r := ⟨_, rfl⟩
              rw [hr] at g0 t1
              clear e hI hil hr yes no hres hrd
              go_wp2
              go_round
              case rel => exact ⟨i + 1, by go_num, rfl, by omega, hI2⟩
              case measure => simp [intOf]; omega
          · obtain rfl : i = n := by omega
            have di : decide ((i : Int) < (i : Int)) = false := decide_eq_false (by omega)
            have hm : (k : Int) ∉ l := fun h => by
              obtain ⟨j, hj, e⟩ := List.getElem_of_mem h
              refine hI.out j (by have := hn.out; omega) ?_
              rw [List.getD_eq_getElem?_getD, List.getElem?_eq_getElem hj]
              exact e
            have r0 : Hid (N = rcn (k + 1) l) := Lib.hid (by rw [rcn_no hm, ← hN.out])
            clear hm hN hI yes no hres hrd
            go_wp2
            go_round
            case rel => exact ⟨k + 1, N, by go_num, rfl, by omega, by omega, r0⟩
            case measure => simp [intOf]; omega
      · obtain rfl : k = M := by omega
        have dk : decide ((k : Int) < (k : Int)) = false := decide_eq_false (by omega)
        have hr := hres.out N hN.out
        by_cases hd : (d : Int) ≤ (N : Int)
        · have t1 : decide ((d : Int) ≤ (N : Int)) = true := decide_eq_true hd
          have t2 : decide (d ≤ N) = true := decide_eq_true (by omega)
          have hfin := Lib.hid (yes.out w1 (hr.2 hd) hb2.out)
          clear hr hd hN yes no hres hrd
          go_wp2
          first | go_ret | skip
          exact hfin.out
        · have t1 : decide ((d : Int) ≤ (N : Int)) = false := decide_eq_false hd
          have t2 : decide (d ≤ N) = false := decide_eq_false (by omega)
          have hfin := Lib.hid (no.out w1 (fun h => hd (hr.1 h)) hb2.out)
          clear hr hd hN yes no hres hrd
          go_wp2
          first | go_ret | skip
          exact hfin.out
  · have fin := Lib.hid (no.out w1 (fun h => hL h.1) hb2.out)
    clear yes no hb2 hl1 hL hread
    go_wp2
    first | go_ret | skip
    exact fin.out
end Go.Proofs.Ytcfoclmkhippoaa.L16
