/- The walk of the law SyncmarkFirst, under the package's contracts. -/
import Derived.Test.YtpekdmplphpheaaM12Law2
namespace Go.Proofs.Ytpekdmplphpheaa.M12
open Go.RowKit Mem
set_option linter.unusedVariables false
set_option linter.unusedSimpArgs false

/-- What Find answers: where the law's loop ends (E: the first offset, or the strip's length less 15), and that the distance is greater before it. -/
theorem first_facts (l : List UInt8) (a : Nat) : ∃ (i E : Int) (o : Bool), fdI l (a : Int) = i ∧ fdB l (a : Int) = o ∧ (∀ k : Nat, a ≤ k → (k : Int) < E → 2 < ds l (k : Int)) ∧
    ((o = false ∧ i = 0 ∧ E = (l.length : Int) - 15) ∨ (o = true ∧ E = i ∧ (a : Int) ≤ i ∧ i + 16 ≤ (l.length : Int) ∧ ds l i ≤ 2)) := by
  rcases h : fd l (a : Int) with _ | p
  · obtain ⟨e1, e2⟩ := fdIB_none h
    exact ⟨_, (l.length : Int) - 15, _, e1, e2, fun k g1 g2 => fd_none.1 h k (by omega) (by omega), .inl ⟨rfl, rfl, rfl⟩⟩
  · obtain ⟨e1, e2⟩ := fdIB_some h
    obtain ⟨h1, h2, h3, h4⟩ := fd_some.1 h
    exact ⟨_, (p : Int), _, e1, e2, fun k g1 g2 => h4 k (by omega) (by omega), .inr ⟨rfl, rfl, h1, by omega, h3⟩⟩
set_option maxRecDepth 100000 in
set_option maxHeartbeats 4000000 in
theorem walk_first (D : Dev) (c : ByteArray) (a : Int) (w : World) (hc : c.size ≤ 140737488351232) (wr : (Lit.int .u8 a).wf = true) :
    Calls Try.prog 5 #[.string c, .int .u8 a] w fun e w' => e = .returned (.bool true) ∧ Below w.heap.size w w' := by
  have cA := Lib.hid (fun W => alive_any D W)
  obtain ⟨x, rfl⟩ := u8_of wr
  clear wr
  by_cases h1 : c.size ≤ 2000
  · have d1 : decide ((2000 : Int) < (c.size : Int)) = false := decide_eq_false (by omega)
    have d1' : decide (2000 < c.size) = false := decide_eq_false (by omega)
    have hx := x.toNat_lt
    obtain ⟨A, hA⟩ : ∃ k, x.toNat = k := ⟨_, rfl⟩
    rw [hA] at hx ⊢
    obtain ⟨i, E, o, e1, e2, hz, hf⟩ := first_facts c.data.toList A
    rw [size_list] at hf
    have x1 : (-9223372036854775808 : Int) ≤ (A : Int) := by omega
    have x2 : (A : Int) ≤ 9223372036854775807 := by omega
    have c1 := Lib.hid (fun W => D.find_as hc x1 x2 e1 e2 W)
    have cD := fun (k : Int) (W : World) (k1 : -9223372036854775808 ≤ k) (k2 : k ≤ 9223372036854775807) => D.dist c k W hc k1 k2
    obtain ⟨l, hl⟩ : ∃ l, c.data.toList = l := ⟨_, rfl⟩
    rw [hl] at hz cD hf
    replace hz := Lib.hid hz
    have q1 : (c.size : Int) ≤ 2000 := by omega
    have q2 : (A : Int) < 256 := by omega
    clear hA hl e1 e2 hc h1 hx
    rcases hf with ⟨rfl, rfl, hE⟩ | ⟨rfl, rfl, g1, g2, g3⟩
    · replace cD := Lib.hid cD
      have hEh := Lib.hid hE
      clear hE
      go_enter Try.func5, Try.ntmps5
      go_wp2_with fail
      refine (cA.out _).mono ?_
      rintro e w1 ⟨rfl, hB⟩
      go_wp2_with fail
      refine (c1.out _).mono ?_
      rintro e w2 ⟨rfl, hb⟩
      replace hB := chain hB hb
      clear hb cA c1
      go_wp2
      go_loopw [8] (fun u wr => ∃ k : Nat, u = .int .i64 (k : Int) ∧ A ≤ k ∧ k ≤ 4000 ∧ Below w.heap.size w wr) (fun u _ => (c.size : Nat) - (intOf u).toNat)
      case atStart => exact ⟨A, rfl, Nat.le_refl _, by omega, hB⟩
      case round =>
        clear hB
        obtain ⟨k, rfl, hk, hk2, hB⟩ := hrel
        by_cases hlt : (k : Int) < (c.size : Int) - 15
        · have dk : decide ((k : Int) < (c.size : Int) - 15) = true := decide_eq_true hlt
          have h2 := hz.out k hk (by rw [hEh.out]; exact hlt)
          have c2 := fun W => cD.out (k : Int) W (by omega) (by omega)
          obtain ⟨d, hd⟩ : ∃ d, ds l (k : Int) = d := ⟨_, rfl⟩
          rw [hd] at h2 c2
          have d2 : decide ((d : Int) ≤ 2) = false := decide_eq_false (by omega)
          replace c2 := Lib.hid c2
          clear hd h2
          go_wp2_with fail
          refine (c2.out _).mono ?_
          rintro e w3 ⟨rfl, n, rfl⟩
          replace hB := chainN hB n
          go_wp2
          go_roundw
          case rel => exact ⟨k + 1, by go_num, by omega, by omega, hB⟩
          case measure => simp [intOf]; omega
        · have dk : decide ((k : Int) < (c.size : Int) - 15) = false := decide_eq_false hlt
          go_wp2
          go_ret
          exact ⟨rfl, hB⟩
    · have d2 : decide (E < (A : Int)) = false := decide_eq_false (by omega)
      have d3 : decide ((c.size : Int) < E + 16) = false := decide_eq_false (by omega)
      have c2 := fun W => cD E W (by omega) (by omega)
      obtain ⟨d, hd⟩ : ∃ d, ds l E = d := ⟨_, rfl⟩
      rw [hd] at g3 c2
      have d4 : decide ((2 : Int) < (d : Int)) = false := decide_eq_false (by omega)
      have d4' : decide (2 < d) = false := decide_eq_false (by omega)
      replace c2 := Lib.hid c2
      replace cD := Lib.hid cD
      have q3 : E ≤ 2000 := by omega
      have q4 : 0 ≤ E := by omega
      clear hd g1 g2 g3
      go_enter Try.func5, Try.ntmps5
      go_wp2_with fail
      refine (cA.out _).mono ?_
      rintro e w1 ⟨rfl, hB⟩
      go_wp2_with fail
      refine (c1.out _).mono ?_
      rintro e w2 ⟨rfl, hb⟩
      replace hB := chain hB hb
      go_wp2_with fail
      refine (c2.out _).mono ?_
      rintro e w3 ⟨rfl, n, rfl⟩
      replace hB := chainN hB n
      clear hb cA c1 c2
      go_wp2
      clear d2 d3 d4 d4'
      go_loopw [8] (fun u wr => ∃ k : Nat, u = .int .i64 (k : Int) ∧ A ≤ k ∧ k ≤ 4000 ∧ Below w.heap.size w wr) (fun u _ => E.toNat - (intOf u).toNat)
      case atStart => exact ⟨A, rfl, Nat.le_refl _, by omega, hB⟩
      case round =>
        clear hB
        obtain ⟨k, rfl, hk, hk2, hB⟩ := hrel
        by_cases hlt : (k : Int) < E
        · have dk : decide ((k : Int) < E) = true := decide_eq_true hlt
          have h2 := hz.out k hk hlt
          have c2 := fun W => cD.out (k : Int) W (by omega) (by omega)
          obtain ⟨d, hd⟩ : ∃ d, ds l (k : Int) = d := ⟨_, rfl⟩
          rw [hd] at h2 c2
          have d2 : decide ((d : Int) ≤ 2) = false := decide_eq_false (by omega)
          replace c2 := Lib.hid c2
          clear hd h2
          go_wp2_with fail
          refine (c2.out _).mono ?_
          rintro e w3 ⟨rfl, n, rfl⟩
          replace hB := chainN hB n
          go_wp2
          go_roundw
          case rel => exact ⟨k + 1, by go_num, by omega, by omega, hB⟩
          case measure => simp [intOf]; omega
        · have dk : decide ((k : Int) < E) = false := decide_eq_false hlt
          go_wp2
          go_ret
          exact ⟨rfl, hB⟩
  · have d1 : decide ((2000 : Int) < (c.size : Int)) = true := decide_eq_true (by omega)
    have d1' : decide (2000 < c.size) = true := decide_eq_true (by omega)
    clear h1 hc
    go_enter Try.func5, Try.ntmps5
    go_wp2_with fail
    refine (cA.out _).mono ?_
    rintro e w1 ⟨rfl, hB⟩
    go_wp2
    go_ret
    exact ⟨rfl, hB⟩
end Go.Proofs.Ytpekdmplphpheaa.M12
