/- The walk of the law SyncmarkContext, under the package's contracts. -/
import Derived.Test.YtpekdmplphpheaaM12Law2
namespace Go.Proofs.Ytpekdmplphpheaa.M12
open Go.RowKit Mem
set_option linter.unusedVariables false
set_option linter.unusedSimpArgs false

/-- What Find answers in a strip and behind other cells. -/
theorem shift_facts (b l : List UInt8) (k : Nat) : ∃ (i j : Int) (o : Bool), fdI l (k : Int) = i ∧ fdB l (k : Int) = o ∧ fdI (b ++ l) ((b.length : Int) + (k : Int)) = j ∧ fdB (b ++ l) ((b.length : Int) + (k : Int)) = o ∧
    ((o = false ∧ i = 0) ∨ (o = true ∧ j = (b.length : Int) + i ∧ 0 ≤ i ∧ i ≤ l.length)) := by
  have hs := fd_shift b l k
  rw [Int.natCast_add] at hs
  rcases h : fd l (k : Int) with _ | p
  · rw [h] at hs
    obtain ⟨e1, e2⟩ := fdIB_none h
    obtain ⟨e3, e4⟩ := fdIB_none hs
    exact ⟨_, _, _, e1, e2, e3, e4, .inl ⟨rfl, rfl⟩⟩
  · rw [h] at hs
    obtain ⟨e1, e2⟩ := fdIB_some h
    obtain ⟨e3, e4⟩ := fdIB_some hs
    have := (fd_some.1 h).2.1
    exact ⟨_, _, _, e1, e2, e3, e4, .inr ⟨rfl, (by show ((b.length + p : Nat) : Int) = (b.length : Int) + (p : Int); omega), by omega, by omega⟩⟩
set_option maxRecDepth 100000 in
set_option maxHeartbeats 4000000 in
theorem walk_context (D : Dev) (c b f : ByteArray) (a : Int) (w : World) (hc : c.size ≤ 140737488351232) (hb0 : b.size ≤ 140737488351232) (hf0 : f.size ≤ 140737488351232) (wr : (Lit.int .u8 a).wf = true) :
    Calls Try.prog 8 #[.string c, .string b, .string f, .int .u8 a] w fun e w' => e = .returned (.bool true) ∧ Below w.heap.size w w' := by
  have cA := Lib.hid (fun W => alive_any D W)
  obtain ⟨x, rfl⟩ := u8_of wr
  clear wr
  by_cases h0 : c.size ≤ 500 ∧ b.size ≤ 100 ∧ f.size ≤ 100
  · obtain ⟨h1, h2, h3⟩ := h0
    have d1 : decide ((500 : Int) < (c.size : Int)) = false := decide_eq_false (by omega)
    have d1' : decide (500 < c.size) = false := decide_eq_false (by omega)
    have d2 : decide ((100 : Int) < (b.size : Int)) = false := decide_eq_false (by omega)
    have d2' : decide (100 < b.size) = false := decide_eq_false (by omega)
    have d3 : decide ((100 : Int) < (f.size : Int)) = false := decide_eq_false (by omega)
    have d3' : decide (100 < f.size) = false := decide_eq_false (by omega)
    have hs : (b ++ c).size = b.size + c.size := ByteArray.size_append
    have hs2 : (b ++ c ++ f).size = (b ++ c).size + f.size := ByteArray.size_append
    have hx := x.toNat_lt
    obtain ⟨k, hk⟩ : ∃ k, x.toNat = k := ⟨_, rfl⟩
    rw [hk] at hx ⊢
    obtain ⟨i, j, o, e1, e2, e3, e4, hf⟩ := shift_facts b.data.toList c.data.toList k
    rw [← app_list, size_list] at e3 e4
    rw [size_list, size_list] at hf
    have x1 : (-9223372036854775808 : Int) ≤ (k : Int) := by omega
    have x2 : (k : Int) ≤ 9223372036854775807 := by omega
    have y1 : (-9223372036854775808 : Int) ≤ (b.size : Int) + (k : Int) := by omega
    have y2 : (b.size : Int) + (k : Int) ≤ 9223372036854775807 := by omega
    have c3 := Lib.hid (fun W => D.find_as hc x1 x2 e1 e2 W)
    have c4 := Lib.hid (fun W => D.find_as (c := b ++ c) (by omega) y1 y2 e3 e4 W)
    have q1 : (c.size : Int) ≤ 500 := by omega
    have q2 : (b.size : Int) ≤ 100 := by omega
    have q3 : (f.size : Int) ≤ 100 := by omega
    have q4 : (k : Int) < 256 := by omega
    have q5 : ((b ++ c).size : Int) ≤ 600 := by omega
    have main : ∀ (B : Bool), decide ((k : Int) + 16 ≤ (c.size : Int)) = B → Calls Try.prog 8 #[.string c, .string b, .string f, .int .u8 (k : Int)] w fun e w' => e = .returned (.bool true) ∧ Below w.heap.size w w' := by
      intro B dk
      rcases B with _ | _
      · clear hc hs2 hs e1 e2 e3 e4 hb0 hf0 h1 h2 h3 hx
        go_enter Try.func8, Try.ntmps8
        go_wp2_with fail
        refine (cA.out _).mono ?_
        rintro e w1 ⟨rfl, hB⟩
        go_wp2_with fail
        refine (c3.out _).mono ?_
        rintro e w2 ⟨rfl, hb⟩
        replace hB := chain hB hb
        clear hb
        rcases hf with ⟨rfl, rfl⟩ | ⟨rfl, rfl, g1, g2⟩
        · go_wp2_with (go_at_call 19; refine (c4.out _).mono ?_; rintro e w5 ⟨rfl, hb⟩)
          go_ret
          exact ⟨rfl, chain hB hb⟩
        · go_wp2_with (go_at_call 19; refine (c4.out _).mono ?_; rintro e w5 ⟨rfl, hb⟩)
          go_ret
          exact ⟨rfl, chain hB hb⟩
      · have hk16 : k + 16 ≤ c.size := by have := of_decide_eq_true dk; omega
        have hd := ds_context b.data.toList c.data.toList f.data.toList (k := k) (by rw [size_list]; exact hk16)
        rw [← app_list, ← app_list, Int.natCast_add, size_list] at hd
        obtain ⟨d, hd2⟩ : ∃ d, ds c.data.toList (k : Int) = d := ⟨_, rfl⟩
        rw [hd2] at hd
        have c1 := Lib.hid (fun W => D.dist_as (c := b ++ c ++ f) (by omega) y1 y2 hd W)
        have c2 := Lib.hid (fun W => D.dist_as hc x1 x2 hd2 W)
        clear hc hs2 hs e1 e2 e3 e4 hb0 hf0 h1 h2 h3 hx hd hd2 hk16
        go_enter Try.func8, Try.ntmps8
        go_wp2_with fail
        refine (cA.out _).mono ?_
        rintro e w1 ⟨rfl, hB⟩
        go_wp2_with fail
        refine (c1.out _).mono ?_
        rintro e w2 ⟨rfl, n, rfl⟩
        go_wp2_with fail
        refine (c2.out _).mono ?_
        rintro e w2 ⟨rfl, n2, rfl⟩
        replace hB := chainN hB (n + n2)
        go_wp2_with fail
        refine (c3.out _).mono ?_
        rintro e w2 ⟨rfl, hb⟩
        replace hB := chain hB hb
        clear hb
        rcases hf with ⟨rfl, rfl⟩ | ⟨rfl, rfl, g1, g2⟩
        · go_wp2_with (go_at_call 19; refine (c4.out _).mono ?_; rintro e w5 ⟨rfl, hb⟩)
          go_ret
          exact ⟨rfl, chain hB hb⟩
        · go_wp2_with (go_at_call 19; refine (c4.out _).mono ?_; rintro e w5 ⟨rfl, hb⟩)
          go_ret
          exact ⟨rfl, chain hB hb⟩
    exact main _ rfl
  · have hd : (decide ((500 : Int) < (c.size : Int)) = true) ∨ (decide ((500 : Int) < (c.size : Int)) = false ∧ decide ((100 : Int) < (b.size : Int)) = true) ∨ (decide ((500 : Int) < (c.size : Int)) = false ∧ decide ((100 : Int) < (b.size : Int)) = false ∧ decide ((100 : Int) < (f.size : Int)) = true) := by
      simp only [decide_eq_true_eq, decide_eq_false_iff_not]
      omega
    have n1 : decide (500 < c.size) = decide ((500 : Int) < (c.size : Int)) := by rw [decide_eq_decide]; omega
    have n2 : decide (100 < b.size) = decide ((100 : Int) < (b.size : Int)) := by rw [decide_eq_decide]; omega
    have n3 : decide (100 < f.size) = decide ((100 : Int) < (f.size : Int)) := by rw [decide_eq_decide]; omega
    clear h0 hc hb0 hf0
    rcases hd with d1 | ⟨d1, d2⟩ | ⟨d1, d2, d3⟩
    · rw [d1] at n1
      clear n2 n3
      go_enter Try.func8, Try.ntmps8
      go_wp2_with fail
      refine (cA.out _).mono ?_
      rintro e w1 ⟨rfl, hB⟩
      go_wp2
      go_ret
      exact ⟨rfl, hB⟩
    · rw [d1] at n1
      rw [d2] at n2
      clear n3
      go_enter Try.func8, Try.ntmps8
      go_wp2_with fail
      refine (cA.out _).mono ?_
      rintro e w1 ⟨rfl, hB⟩
      go_wp2
      go_ret
      exact ⟨rfl, hB⟩
    · rw [d1] at n1
      rw [d2] at n2
      rw [d3] at n3
      go_enter Try.func8, Try.ntmps8
      go_wp2_with fail
      refine (cA.out _).mono ?_
      rintro e w1 ⟨rfl, hB⟩
      go_wp2
      go_ret
      exact ⟨rfl, hB⟩
end Go.Proofs.Ytpekdmplphpheaa.M12
