/- The contract of layer 12's Find. -/
import Derived.Test.YtpekdmplphpheaaM12Own2
namespace Go.Proofs.Ytpekdmplphpheaa.M12
open Go.RowKit Mem
set_option linter.unusedVariables false
set_option linter.unusedSimpArgs false

set_option maxRecDepth 100000 in
set_option maxHeartbeats 2000000 in
theorem found_own {c : ByteArray} {b : Nat} {w : World} (o : Nat) (hc : c.size ≤ 9223372036854775807) (ho : o ≤ 9223372036854775807) (hcell : w.cell? ⟨b, 0, none⟩ = some (.string c)) :
    Calls Try.prog 25 #[.int .i64 (o : Int), .pointer (some ⟨b, 0, none⟩)] w fun e w' => e = .returned (.bool (decide (ds c.data.toList (o : Int) ≤ 2))) ∧ ∃ n, w' = w.drewN n := by
  have cD := Lib.hid (fun W => distance_any c (o : Int) W hc (by omega) (by omega))
  obtain ⟨d, hd⟩ : ∃ d, ds c.data.toList (o : Int) = d := ⟨_, rfl⟩
  rw [hd] at cD ⊢
  have e : decide ((d : Int) ≤ 2) = decide (d ≤ 2) := by rw [decide_eq_decide]; omega
  obtain ⟨B, hB⟩ : ∃ B, decide (d ≤ 2) = B := ⟨_, rfl⟩
  rw [hB] at e ⊢
  clear hd
  go_enter Try.func25, Try.ntmps25
  go_wp2_with (go_at_call 11; refine (cD.out _).mono ?_; rintro e w1 ⟨rfl, n, rfl⟩)
  go_ret
  exact ⟨rfl, n, rfl⟩
set_option maxRecDepth 100000 in
set_option maxHeartbeats 2000000 in
theorem find_core (c : ByteArray) (a : Int) (A : Nat) (w : World) (hc : c.size ≤ 140737488351232) (a1 : -9223372036854775808 ≤ a) (a2 : a ≤ 9223372036854775807) (hmax : (if a < 0 then (0 : Int) else a) = (A : Int)) (hA : A ≤ 9223372036854775807) :
    Calls Try.prog 19 #[.string c, .int .i64 a] w fun e w' => e = .returned (.tuple #[.int .i64 (fdI c.data.toList A), .bool (fdB c.data.toList A)]) ∧ Below w.heap.size w w' := by
  have hmf : ∀ (fn : Fn) (first cap : Array Value) (w : World), (Instr.makeFunc fn first cap).run Try.prog w = .ok (.func fn first cap) w := fun _ _ _ _ => rfl
  obtain ⟨l, hl⟩ : ∃ l, c.data.toList = l := ⟨_, rfl⟩
  have hll : l.length = c.size := by rw [← hl]; simp
  have cF := fun (o : Nat) (ho : o ≤ 9223372036854775807) (W : World) (b : Nat) (h : W.cell? ⟨b, 0, none⟩ = some (.string c)) => found_own (c := c) (b := b) (w := W) o (by omega) ho h
  rw [hl] at cF
  rw [hl]
  replace hll := Lib.hid hll
  replace cF := Lib.hid cF
  clear hl
  go_enter Try.func19, Try.ntmps19
  go_wp2
  obtain ⟨W0, hW0⟩ : ∃ W0, w.alloc (.cells #[.string c] 9) = W0 := ⟨_, rfl⟩
  obtain ⟨b, hb⟩ : ∃ b, w.heap.size = b := ⟨_, rfl⟩
  have hbW : Below w.heap.size w W0 := by rw [← hW0]; exact (Below.refl w.heap.size w).alloc (by simp) _
  have hcell : W0.cell? ⟨b, 0, none⟩ = some (.string c) := by
    rw [← hW0, ← hb]
    simp
  have hlt : b < W0.heap.size := by rw [← hW0, ← hb]; simp
  rw [hW0, hb]
  replace hcell := Lib.hid hcell
  replace hlt := Lib.hid hlt
  clear hW0 hb hmf
  go_loopw [7] (fun i wr => ∃ o : Nat, i = .int .i64 (o : Int) ∧ o ≤ 9223372036854775807 ∧ A ≤ o ∧ Hid (∀ k : Nat, (A : Int) ≤ (k : Int) → k < o → 2 < ds l (k : Int)) ∧ Below W0.heap.size W0 wr) (fun i _ => c.size - (intOf i).toNat)
  case atStart => exact ⟨A, rfl, hA, Nat.le_refl _, Lib.hid (fun k h1 h2 => by omega), Below.refl _ _⟩
  case round =>
    obtain ⟨o, rfl, ho, hAo, hz, hB⟩ := hrel
    have hce := (hB.cell (p := ⟨b, 0, none⟩) hlt.out).trans hcell.out
    by_cases hs : o + 16 ≤ c.size
    · have d1 : decide ((o : Int) ≤ (c.size : Int) - 16) = true := decide_eq_true (by omega)
      by_cases h2 : ds l (o : Int) ≤ 2
      · have d2 : decide (ds l (o : Int) ≤ 2) = true := decide_eq_true h2
        have e : fd l (A : Int) = some o := fd_some.2 ⟨by omega, by rw [hll.out]; exact hs, h2, hz.out⟩
        obtain ⟨e1, e2⟩ := fdIB_some e
        have c1 := cF.out o ho wr b hce
        rw [d2] at c1
        replace c1 := Lib.hid c1
        replace e1 := Lib.hid e1
        replace e2 := Lib.hid e2
        clear e h2 hs hz cF d2
        go_wp2_with fail
        refine c1.out.mono ?_
        rintro e w1 ⟨rfl, n, rfl⟩
        go_wp2
        go_ret2
        exact ⟨ret_ib e1.out.symm e2.out.symm, chainN (chain hbW hB) n⟩
      · have d2 : decide (ds l (o : Int) ≤ 2) = false := decide_eq_false h2
        have hz2 : Hid (∀ k : Nat, (A : Int) ≤ (k : Int) → k < o + 1 → 2 < ds l (k : Int)) := Lib.hid (fun k g1 g2 => by
          by_cases hk : k = o
          · rw [hk]; omega
          · exact hz.out k g1 (by omega))
        have c1 := cF.out o ho wr b hce
        rw [d2] at c1
        replace c1 := Lib.hid c1
        have hB2 := fun n => chainN hB n
        replace hB2 := Lib.hid hB2
        clear h2 hz cF d2
        go_wp2_with fail
        refine c1.out.mono ?_
        rintro e w1 ⟨rfl, n, rfl⟩
        go_wp2
        go_roundw
        case rel => exact ⟨o + 1, by go_num, by omega, by omega, hz2, hB2.out n⟩
        case measure => simp [intOf]; omega
    · have d1 : decide ((o : Int) ≤ (c.size : Int) - 16) = false := decide_eq_false (by omega)
      have e : fd l (A : Int) = none := fd_none.2 fun k g1 g2 => hz.out k g1 (by rw [hll.out] at g2; omega)
      obtain ⟨e1, e2⟩ := fdIB_none e
      replace e1 := Lib.hid e1
      replace e2 := Lib.hid e2
      clear e hs hz cF
      go_wp2
      go_ret2
      exact ⟨ret_ib e1.out.symm e2.out.symm, chain hbW hB⟩
theorem find_any (c : ByteArray) (a : Int) (w : World) (hc : c.size ≤ 140737488351232) (a1 : -9223372036854775808 ≤ a) (a2 : a ≤ 9223372036854775807) :
    Calls Try.prog 19 #[.string c, .int .i64 a] w fun e w' => e = .returned (.tuple #[.int .i64 (fdI c.data.toList a), .bool (fdB c.data.toList a)]) ∧ Below w.heap.size w w' := by
  by_cases h : a < 0
  · have e := fd_no_neg (l := c.data.toList) h
    have := find_core c a 0 w hc a1 a2 (by rw [if_pos h]; rfl) (by omega)
    unfold fdI fdB at *
    rw [e]
    exact this
  · obtain ⟨A, rfl⟩ : ∃ A : Nat, a = A := ⟨a.toNat, by omega⟩
    exact find_core c (A : Int) A w hc a1 a2 (by rw [if_neg h]) (by omega)
end Go.Proofs.Ytpekdmplphpheaa.M12
