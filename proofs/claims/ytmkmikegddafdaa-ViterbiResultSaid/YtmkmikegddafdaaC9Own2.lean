/- The contracts of the landed functions of layer 9: the iterator over the pairs of cells, Encode. -/
import Derived.RangeFuncFrom
import Derived.RangeFuncNested
import Derived.RangeFuncBound
import Derived.RangeFuncCalls
import Derived.RangeFuncLeaves
import Derived.Shelf.Abstract
import Derived.Shelf.RegionOpen
import Derived.WalkKit
import Derived.OwnWalkIn
import Derived.TacticsInMore
import Derived.LoopNIn
import Derived.LoopIn
import Derived.Lib.OthersKept
import Derived.Test.YtmkmikegddafdaaBld
import Derived.Test.YtmkmikegddafdaaC9Own1
namespace Go.Proofs.Ytmkmikegddafdaa.C9
open Go.RowKit Go.Shelf Mem
set_option linter.unusedVariables false
set_option linter.unusedSimpArgs false
attribute [local go_sem] Oper.semAt_some

theorem prs_app : ∀ (l m : List Bool) (s1 s2 : Bool), prs s1 s2 (l ++ m) = prs s1 s2 l ++ prs (fin s1 s2 l).1 (fin s1 s2 l).2 m
  | [], m, s1, s2 => rfl
  | u :: l, m, s1, s2 => by
    show _ :: prs u s1 (l ++ m) = _ :: (prs u s1 l ++ _)
    rw [prs_app l m u s1]
    rfl
theorem prs_snoc (l : List Bool) (u : Bool) : prs false false (l ++ [u]) = prs false false l ++ [(u ^^ (fin false false l).1 ^^ (fin false false l).2, u ^^ (fin false false l).2)] := by
  rw [prs_app]
  rfl
/-- Next at a state's number and a bit's number. -/
theorem next_at (s1 s2 u : Bool) (w : World) : Calls Try.prog 21 #[.int .i64 (stN s1 s2 : Int), .int .i64 (bn u : Int)] w fun e w' =>
    e = .returned (.tuple #[.int .i64 (stN u s1 : Int), .string (sb (two (u ^^ s1 ^^ s2, u ^^ s2)))]) ∧ Below w.heap.size w w' := by
  have h := next_own (stN s1 s2 : Int) (bn u : Int) w (by cases s1 <;> cases s2 <;> decide) (by cases s1 <;> cases s2 <;> decide) (by cases u <;> decide) (by cases u <;> decide)
  unfold Nxt at h
  rw [show oneB (stN s1 s2 : Int) = s1 by cases s1 <;> cases s2 <;> decide, show twoB (stN s1 s2 : Int) = s2 by cases s1 <;> cases s2 <;> decide, show twoB (bn u : Int) = u by cases u <;> decide] at h
  exact h
theorem pairs_own (s : ByteArray) (w : World) : Calls Try.prog 35 #[.string s] w fun e w' =>
    e = .returned (.func (.func 46) #[] #[.pointer (some ⟨w.heap.size, 0, none⟩)]) ∧ w' = w.alloc (.cells #[.string s] 9) := by
  go_enter Try.func35, Try.ntmps35
  go_wp2
  go_ret
  exact ⟨rfl, rfl⟩
theorem grown_of {w w' : World} (h : Below w.heap.size w w') : w.grownBy w' none := ⟨h.os, h.tape, h.output, h.size, fun i hi _ => h.block i hi⟩
theorem sb_get (l : List Bool) (k : Nat) (h : k < (sb l).size) (h' : k < l.length) : (((sb l)[k]).toNat : Int) = 48 + (bn l[k] : Int) := by
  have e : (sb l)[k] = cell l[k] := by
    show (cs l).toArray[k]'_ = _
    simp [cs]
  rw [e]
  cases l[k] <;> rfl
set_option maxRecDepth 100000 in
set_option maxHeartbeats 4000000 in
/-- The iterator over the pairs of cells of the bits m, for every body of the loop. -/
theorem pairs1_in (m : List Bool) (hm : m.length ≤ 65536) (l Bn n₀ : Nat) (J Jx : List (Bool × Bool) → World → Prop)
    (hJ : ∀ pre W W', J pre W → W.grownBy W' none → J pre W')
    (hY : ∀ pre x W, J pre W → pre.length < m.length + 2 → YieldAt Fence.wide 1 Try.prog l #[.string (sb (two x))] W fun e W' =>
      (e = .returned (.bool true) ∧ J (pre ++ [x]) W' ∧ Below n₀ W W') ∨ (e = .returned (.bool false) ∧ Jx (pre ++ [x]) W'))
    (W : World) (hBn : W.cell? ⟨Bn, 0, none⟩ = some (.string (sb m))) (h0 : J [] W) :
    CallsIn Fence.wide 2 Try.prog 46 #[.func (.yield l) #[] #[], .pointer (some ⟨Bn, 0, none⟩)] W fun e W' => (∃ v, e = .returned v) ∧
      ((∃ ys, ys = prs false false (m ++ [false, false]) ∧ J ys W') ∨ (∃ pre, pre <+: prs false false (m ++ [false, false]) ∧ Jx pre W')) := by
  obtain ⟨T, hT⟩ : ∃ T, sb (m ++ [false, false]) = T := ⟨_, rfl⟩
  obtain ⟨M, hM⟩ : ∃ M, m ++ [false, false] = M := ⟨_, rfl⟩
  obtain ⟨L, hL⟩ : ∃ L, M.length = L := ⟨_, rfl⟩
  have hLm : L = m.length + 2 := by rw [← hL, ← hM, List.length_append]; rfl
  have hTs : T.size = L := by rw [← hT, sb_size, hM, hL]
  have hmS := sb_size m
  obtain ⟨S, hS⟩ : ∃ S, sb m = S := ⟨_, rfl⟩
  rw [hS] at hmS hBn
  have r0 : ∀ W, (Op.stringOp .add S ⟨#[48, 48]⟩).run Try.prog W = .ok (.string T) W := fun W => by
    rw [Go.run_string_add_sum _ _ _ (by show S.size + 2 ≤ _; omega), ← hT, ← hS, ← sb_app]
    rfl
  rw [hM] at hT ⊢
  have hget : ∀ (k : Nat) (h : k < T.size) (h' : k < M.length), ((T[k]).toNat : Int) = 48 + (bn M[k] : Int) := fun k h h' => by
    subst hT
    exact sb_get M k h h'
  replace hget := Lib.hid hget
  have hL6 : L ≤ 65538 := by omega
  rw [← hLm] at hY
  replace hS := Lib.hid hS
  replace hM := Lib.hid hM
  replace hT := Lib.hid hT
  replace hL := Lib.hid hL
  clear hmS hLm
  refine callsIn_of_wp Try.func46 rfl trivial ?_ rfl
  simp only [Try.ntmps46, List.size_toArray, List.length_cons, List.length_nil, Nat.reduceAdd, Nat.reduceSub, Array.replicate_succ, Array.replicate_zero, List.push_toArray, List.append_toArray, List.nil_append, List.cons_append]
  gi_wp2
  gi_loopw [4, 12] (fun st i wr => ∃ k : Nat, k ≤ L ∧ i = .int .i64 (k : Int) ∧ st = .int .i64 (stN (fin false false (M.take k)).1 (fin false false (M.take k)).2 : Int) ∧ J (prs false false (M.take k)) wr)
    (fun _ i _ => L - (intOf i).toNat)
  case atStart => exact ⟨0, Nat.zero_le _, rfl, rfl, h0⟩
  case round =>
    obtain ⟨k, hk, rfl, rfl, hJs⟩ := hrel
    by_cases hlt : k < L
    · have hkM : k < M.length := by rw [hL.out]; exact hlt
      have hkT : k < T.size := by omega
      have hx := hget.out k hkT hkM
      have hts := List.take_succ_eq_append_getElem hkM
      obtain ⟨b, hb⟩ : ∃ b, M[k] = b := ⟨_, rfl⟩
      rw [hb] at hx hts
      obtain ⟨P, hP⟩ : ∃ P, M.take k = P := ⟨_, rfl⟩
      rw [hP] at hts hJs ⊢
      have hfs := fin_snoc P b false false
      have hps := prs_snoc P b
      rw [← hts] at hfs hps
      have hPl : (prs false false P).length = k := by rw [prs_len, ← hP, List.length_take]; omega
      have c := next_at (fin false false P).1 (fin false false P).2 b wr
      obtain ⟨s1, hs1⟩ : ∃ s, (fin false false P).1 = s := ⟨_, rfl⟩
      obtain ⟨s2, hs2⟩ : ∃ s, (fin false false P).2 = s := ⟨_, rfl⟩
      rw [hs1, hs2] at c hps ⊢
      rw [hs1] at hfs
      obtain ⟨Y, hY0⟩ : ∃ Y, (b ^^ s1 ^^ s2, b ^^ s2) = Y := ⟨_, rfl⟩
      rw [hY0] at c hps
      obtain ⟨st, hst⟩ : ∃ n, stN s1 s2 = n := ⟨_, rfl⟩
      have hst3 : st ≤ 3 := by rw [← hst]; cases s1 <;> cases s2 <;> decide
      obtain ⟨st', hst'⟩ : ∃ n, stN b s1 = n := ⟨_, rfl⟩
      obtain ⟨d, hd⟩ : ∃ n, bn b = n := ⟨_, rfl⟩
      have hd1 : d ≤ 1 := by rw [← hd]; exact bn_le b
      rw [hst, hst', hd] at c
      rw [hd] at hx
      rw [hst]
      have hfin' : stN (fin false false (M.take (k + 1))).1 (fin false false (M.take (k + 1))).2 = st' := by rw [hfs]; exact hst'
      replace c := Lib.hid c
      replace hps := Lib.hid hps
      replace hfin' := Lib.hid hfin'
      have hI0 : (0 : Int) ≤ (k : Int) := by omega
      have hI1 : (k : Int) < (L : Int) := by omega
      have hI2 : (k : Int) < (T.size : Int) := by omega
      have hw0 : 48 + (d : Int) - 48 = (d : Int) := by omega
      have hw1 : (d : Int) % 256 = (d : Int) := by omega
      replace hPl := Lib.hid hPl
      clear hts hP hfs hs1 hs2 hY0 hst hst' hd hb
      gi_wp2_with (refine ⟨trivial, ?_⟩; gi_at_call 21; refine (callsIn_wide.2 c.out).mono ?_; rintro e w1 ⟨rfl, hb1⟩; have hJ1 := hJ _ _ _ hJs (grown_of hb1); obtain ⟨fn, tmps, assign, body, hy, hR⟩ := hY (prs false false P) Y w1 hJ1 (by rw [hPl.out]; exact hlt))
      refine hR.mono ?_
      rintro e W3 (⟨rfl, hJ3, hk3⟩ | ⟨rfl, hJx3⟩)
      · gi_wp2
        go_roundw
        case rel => exact ⟨k + 1, by omega, by go_num, by rw [hfin'.out], by rw [hps.out]; exact hJ3⟩
        case measure => simp [intOf]; omega
      · gi_wp2
        refine bodyPost_ret (results_none rfl _ _ _) rfl ?_
        refine ⟨⟨_, rfl⟩, .inr ⟨prs false false P ++ [Y], ?_, hJx3⟩⟩
        rw [← hps.out]
        have e : prs false false M = prs false false (M.take (k + 1)) ++ prs (fin false false (M.take (k + 1))).1 (fin false false (M.take (k + 1))).2 (M.drop (k + 1)) := by
          rw [← prs_app, List.take_append_drop]
        rw [e]
        exact List.prefix_append _ _
    · obtain rfl : k = L := by omega
      have hall : M.take k = M := List.take_of_length_le (by rw [hL.out]; exact Nat.le_refl _)
      rw [hall] at hJs ⊢
      have hd : decide ((k : Int) < (k : Int)) = false := decide_eq_false (by omega)
      clear hall
      gi_wp2
      go_end0
      exact ⟨⟨_, rfl⟩, .inl ⟨_, rfl, hJs⟩⟩
theorem pairs_stops (m : List Bool) (hm : m.length ≤ 65536) (Bn n₀ : Nat) (w : World) (hBn : Bn < w.heap.size) (hc : w.cell? ⟨Bn, 0, none⟩ = some (.string (sb m))) :
    SeqStopsK Fence.wide 2 Try.prog 46 #[.pointer (some ⟨Bn, 0, none⟩)] (fun x : Bool × Bool => #[.string (sb (two x))]) (Below n₀) (fun ys => ys = prs false false (m ++ [false, false])) (fun pre => pre <+: prs false false (m ++ [false, false])) (m.length + 2) w :=
  fun l J Jx W hW hJ _ hY h0 => pairs1_in m hm l Bn n₀ J Jx (fun pre A B h hg => hJ pre A B none h hg (fun r e => by cases e)) hY W ((hW.cell (p := ⟨Bn, 0, none⟩) hBn).trans hc) h0
end Go.Proofs.Ytmkmikegddafdaa.C9
