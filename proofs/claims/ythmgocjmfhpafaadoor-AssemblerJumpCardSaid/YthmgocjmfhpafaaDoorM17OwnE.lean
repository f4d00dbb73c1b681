/- The contract of the landed checkRun of layer 17. -/
import Derived.Test.YthmgocjmfhpafaaDoorM17Txt
namespace Go.Proofs.YthmgocjmfhpafaaDoor.M17
set_option maxRecDepth 100000
open Go.RowKit Mem
set_option linter.unusedVariables false
set_option linter.unusedSimpArgs false

set_option maxHeartbeats 4000000 in
theorem checkRun_own {A : Option Addr} {n c : Nat} {ts : List Txt} {w : World} (h : IsTxts w A n c ts) (start steps : Int) :
    Calls Tryd.prog 53 #[.slice A n c, .int .i64 start, .int .i64 steps] w fun e w' => e = .returned (.int .i64 (chk ts start steps : Int)) ∧ Below w.heap.size w w' := by
  obtain ⟨Q, hQ⟩ : ∃ Q, (fun (e : Ending) (w' : World) => e = .returned (.int .i64 (chk ts start steps : Int)) ∧ Below w.heap.size w w') = Q := ⟨_, rfl⟩
  have fin : ∀ (k : Nat) (x : Int) w', chk ts start steps = k → (k : Int) = x → Below w.heap.size w w' → Q (.returned (.int .i64 x)) w' := fun k x w' h1 h2 h3 => by
    rw [← hQ, h1, h2]; exact ⟨rfl, h3⟩
  rw [hQ]
  replace fin := Lib.hid fin
  have hlen := Lib.hid h.len
  have hle := h.le
  have hcm := h.capm
  have hn63 : (n : Int) ≤ 9223372036854775807 := by unfold maxLen at hcm; omega
  have hget := Lib.hid (fun (k : Nat) (hk : k < ts.length) => h.get hk)
  have hfit := Lib.hid h.fit
  clear hQ
  by_cases s0 : start < 0
  · have t0 : decide (start < 0) = true := decide_eq_true s0
    have z := Lib.hid (fin.out 2 2 w (chk_range (.inl s0)) rfl (Below.refl _ _))
    clear s0 h
    go_enter Tryd.func53, Tryd.ntmps53
    go_wp2
    first | go_ret | skip
    exact z.out
  have t0 : decide (start < 0) = false := decide_eq_false s0
  by_cases s1 : 262144 ≤ start
  · have t1 : decide (262144 ≤ start) = true := decide_eq_true s1
    have z := Lib.hid (fin.out 2 2 w (chk_range (.inr s1)) rfl (Below.refl _ _))
    clear s0 s1 h
    go_enter Tryd.func53, Tryd.ntmps53
    go_wp2
    first | go_ret | skip
    exact z.out
  have t1 : decide (262144 ≤ start) = false := decide_eq_false s1
  have s2 := Lib.hid (show 0 ≤ start by omega)
  have s3 := Lib.hid (show start < 262144 by omega)
  clear s0 s1 h
  go_enter Tryd.func53, Tryd.ntmps53
  go_wp2
  go_loopw [17] (fun iv wr => ∃ (k : Nat), iv = .int .i64 (k : Int) ∧ k ≤ n ∧ Hid (∀ j (hj : j < ts.length), j < k → fits ts[j]) ∧ Hid (Below w.heap.size w wr)) (fun iv _ => n - (intOf iv).toNat)
  case atStart => exact ⟨0, rfl, Nat.zero_le _, Lib.hid (fun j _ h => by omega), Lib.hid (Below.refl _ _)⟩
  case round =>
    obtain ⟨k, rfl, hk, hI, hb⟩ := hrel
    by_cases hlt : k < n
    · have dk : decide ((k : Int) < (n : Int)) = true := decide_eq_true (by omega)
      have k0 : (0 : Int) ≤ (k : Int) := by omega
      have k1 : (k : Int) < (n : Int) := by omega
      have k2 : (k : Int) + 1 ≤ 9223372036854775807 := by omega
      have hkl : k < ts.length := by have := hlen.out; omega
      obtain ⟨b, o, rfl, hbl, g0, g1⟩ := hget.out k hkl
      have hf := hfit.out _ (List.getElem_mem hkl)
      have hmem : ts[k] ∈ ts := List.getElem_mem hkl
      have hs : fits ts[k] → ∀ j (hj : j < ts.length), j < k + 1 → fits ts[j] := fun h j hj h1 => by
        by_cases e : j = k
        · subst e; exact h
        · exact hI.out j hj (by omega)
      obtain ⟨⟨z, S⟩, hr⟩ : ∃ r, ts[k] = r := ⟨_, rfl⟩
      rw [hr] at g0 g1 hf hmem hs
      have g0 : wr.cell? ⟨b, o + k * 2, none⟩ = some (.int .i64 z) := (hb.out.cell (p := ⟨b, o + k * 2, none⟩) hbl).trans g0
      have g1 : wr.cell? ⟨b, o + k * 2 + 1, none⟩ = some (.string S) := (hb.out.cell (p := ⟨b, o + k * 2 + 1, none⟩) hbl).trans g1
      obtain ⟨⟨f1, f2⟩, f3⟩ := hf
      dsimp only at f1 f2 f3
      unfold maxLen at f3
      have hb2 : Below w.heap.size w (wr.alloc (.cells #[.int .i64 z, .string S] 52)) := hb.out.alloc hb.out.size _
      replace hb2 := Lib.hid hb2
      replace hs := Lib.hid hs
      replace hmem := Lib.hid hmem
      obtain ⟨d, hd⟩ : ∃ d : Int, 262144 - (S.size : Int) = d := ⟨_, rfl⟩
      have d1 : -9223372036854775808 ≤ d := by omega
      have d2 : d ≤ 262144 := by omega
      clear hr hI hb hbl hkl
      by_cases z0 : z < 0
      · have u0 : decide (z < 0) = true := decide_eq_true z0
        have fz := Lib.hid (fin.out 2 2 _ (chk_text hmem.out (fun h => by have := h.1; dsimp only at this; omega)) rfl hb2.out)
        clear z0 hs hmem hb2
        go_wp2
        first | go_ret | skip
        exact fz.out
      have u0 : decide (z < 0) = false := decide_eq_false z0
      by_cases z1 : d < z
      · have u1 : decide (d < z) = true := decide_eq_true z1
        have fz := Lib.hid (fin.out 2 2 _ (chk_text hmem.out (fun h => by have := h.2; dsimp only at this; omega)) rfl hb2.out)
        clear z0 z1 hs hmem hb2
        go_wp2
        first | go_ret | skip
        exact fz.out
      have u1 : decide (d < z) = false := decide_eq_false z1
      have hs2 := Lib.hid (hs.out ⟨by dsimp only; omega, by dsimp only; omega⟩)
      clear hs hmem
      go_wp2
      go_roundw
      case rel => exact ⟨k + 1, by go_num, by omega, hs2, hb2⟩
      case measure => simp [intOf]; omega
    · obtain rfl : k = n := by omega
      have dk : decide ((k : Int) < (k : Int)) = false := decide_eq_false (by omega)
      have hall : ∀ t ∈ ts, fits t := fun t ht => by
        obtain ⟨j, hj, rfl⟩ := List.getElem_of_mem ht
        exact hI.out j hj (by have := hlen.out; omega)
      by_cases q0 : 100000000 < steps
      · have u0 : decide (100000000 < steps) = true := decide_eq_true q0
        have fz := Lib.hid (fin.out 6 6 _ (chk_limit s2.out s3.out hall q0) rfl hb.out)
        clear q0 hall hI
        go_wp2
        first | go_ret | skip
        exact fz.out
      have u0 : decide (100000000 < steps) = false := decide_eq_false q0
      by_cases q1 : steps ≤ 0
      · have u1 : decide (steps ≤ 0) = true := decide_eq_true q1
        have fz := Lib.hid (fin.out 13 13 _ (chk_steps s2.out s3.out hall q1) rfl hb.out)
        clear q0 q1 hall hI
        go_wp2
        first | go_ret | skip
        exact fz.out
      have u1 : decide (steps ≤ 0) = false := decide_eq_false q1
      have fz := Lib.hid (fin.out 0 0 _ (chk_ok s2.out s3.out hall (by omega) (by omega)) rfl hb.out)
      clear q0 q1 hall hI
      go_wp2
      first | go_ret | skip
      exact fz.out
end Go.Proofs.YthmgocjmfhpafaaDoor.M17
