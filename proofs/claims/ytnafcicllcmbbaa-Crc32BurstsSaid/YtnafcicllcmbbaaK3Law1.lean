/- The walks of the laws Crc32Values, Crc32Combine, Crc32CombineLengths, Crc32Residue and Crc32Registers, under the package's contracts. -/
import Derived.Test.YtnafcicllcmbbaaK3Dev
import Derived.Laws.OwnMore
namespace Go.Proofs.Ytnafcicllcmbbaa.K3
open Go.RowKit Mem
set_option linter.unusedVariables false
variable {L : World → Prop}

theorem u32_reg {a : Int} (h : (Lit.int .u32 a).wf = true) : ∃ x : R, a = (x.toNat : Int) := by
  obtain ⟨h1, h2⟩ : 0 ≤ a ∧ a ≤ 4294967295 := (Lit.wf_int_iff .u32 _).1 h
  refine ⟨BitVec.ofNat 32 a.toNat, ?_⟩
  rw [BitVec.toNat_ofNat]
  omega
theorem rsum1 (s : ByteArray) (w : World) (hs : s.size ≤ 1000000) :
    Calls Try.prog 15 #[.slice (some ⟨w.heap.size, 0, none⟩) 1 1] (w.alloc (.cells #[.string s] 9)) fun e w' => e = .returned (.int .u32 ((sumL s.data.toList).toNat : Int)) ∧ Below w.heap.size w w' := by
  have h := rsum_any (some ⟨w.heap.size, 0, none⟩) 1 [s.data.toList] (w.alloc (.cells #[.string s] 9)) (by simpa using hs) (by simp) (by simp) (by decide) (rd_made w 9 _ #[.string s] rfl)
  rw [show joinL [s.data.toList] = s.data.toList by simp [joinL]] at h
  exact h.mono fun e w' ⟨a, b⟩ => ⟨a, by subst b; exact below_made w _⟩

set_option maxHeartbeats 1000000 in
theorem walk_values (D : Dev L) (a : Int) (s : ByteArray) (w : World) (hL0 : L w) (ha : (Lit.int .u32 a).wf = true) (hs : s.size ≤ 140737488351232) :
    Calls Try.prog 3 #[.int .u32 a, .string s] w fun e w' => e = .returned (.bool true) ∧ Below w.heap.size w w' := by
  obtain ⟨x, rfl⟩ := u32_reg ha
  by_cases h : s.size ≤ 300
  · have hle : (s.size : Int) ≤ 300 := by omega
    have c1 := fun W (h : L W) => D.update x s W (by omega) h
    have c2 := fun W => rupdate_any x s W (by omega)
    obtain ⟨u, hu⟩ : ∃ u, upd x s.data.toList = u := ⟨_, rfl⟩
    rw [hu] at c1 c2
    have c3 := fun W (h : L W) => sum1 D s W (by omega) h
    have c4 := fun W => rsum1 s W (by omega)
    obtain ⟨v, hv⟩ : ∃ v, sumL s.data.toList = v := ⟨_, rfl⟩
    rw [hv] at c3 c4
    have c5 := Lib.hid (fun W (h : L W) => D.bytes x W h)
    have c6 := Lib.hid (fun W => rbytes_any x W)
    have c1 := Lib.hid c1
    have c2 := Lib.hid c2
    have c3 := Lib.hid c3
    have c4 := Lib.hid c4
    clear hu hv
    go_enter Try.func3, Try.ntmps3
    go_wp2_with fail
    refine (c1.out _ hL0).mono ?_
    rintro e w1 ⟨rfl, hb1⟩
    have hL := D.keep hL0 hb1
    go_wp2_with fail
    refine (c2.out _).mono ?_
    rintro e w2 ⟨rfl, rfl⟩
    go_wp2_with fail
    refine (c3.out _ hL).mono ?_
    rintro e w3 ⟨rfl, hb3⟩
    have hL := D.keep hL hb3
    go_wp2_with fail
    refine (c4.out _).mono ?_
    rintro e w4 ⟨rfl, hb4⟩
    have hL := D.keep hL hb4
    go_wp2_with fail
    refine (c5.out _ hL).mono ?_
    rintro e w5 ⟨rfl, hb5⟩
    have hL := D.keep hL hb5
    go_wp2_with fail
    refine (c6.out _).mono ?_
    rintro e w6 ⟨rfl, hb6⟩
    have hL := D.keep hL hb6
    go_wp2_with fail
    refine (awake_any D _ hL).mono ?_
    rintro e w7 ⟨rfl, hb7⟩
    go_wp2
    go_ret
    exact ⟨rfl, chain (chain (chain (chain (chain hb1 hb3) hb4) hb5) hb6) hb7⟩
  · have hgt : (300 : Int) < (s.size : Int) := by omega
    go_enter Try.func3, Try.ntmps3
    go_wp2_with fail
    refine (awake_any D _ hL0).mono ?_
    rintro e w7 ⟨rfl, hb7⟩
    go_wp2
    go_ret
    exact ⟨rfl, hb7⟩

set_option maxHeartbeats 1000000 in
theorem walk_combine (D : Dev L) (s t : ByteArray) (w : World) (hL0 : L w) (hs : s.size ≤ 140737488351232) (ht : t.size ≤ 140737488351232) :
    Calls Try.prog 5 #[.string s, .string t] w fun e w' => e = .returned (.bool true) ∧ Below w.heap.size w w' := by
  by_cases h : s.size ≤ 200
  · have hd : decide ((200 : Int) < (s.size : Int)) = false := decide_eq_false (by omega)
    by_cases h2 : t.size ≤ 200
    · have hd2 : decide ((200 : Int) < (t.size : Int)) = false := decide_eq_false (by omega)
      have c1 := fun W (h : L W) => sum1 D s W (by omega) h
      have c2 := fun W (h : L W) => sum1 D t W (by omega) h
      have c4 := fun W (h : L W) => sum2 D s t W (by omega) (by omega) h
      rw [← comb_sum] at c4
      obtain ⟨u, hu⟩ : ∃ u, sumL s.data.toList = u := ⟨_, rfl⟩
      obtain ⟨v, hv⟩ : ∃ v, sumL t.data.toList = v := ⟨_, rfl⟩
      rw [hu] at c1 c4
      rw [hv] at c2 c4
      have c3 := fun W (h : L W) => D.combine u v (t.size : Int) W (by omega) (by omega) h
      rw [show ((t.data.toList.length : Nat) : Int) = (t.size : Int) from rfl] at c4
      obtain ⟨z, hz⟩ : ∃ z, comb u v (t.size : Int) = z := ⟨_, rfl⟩
      rw [hz] at c3 c4
      have c1 := Lib.hid c1
      have c2 := Lib.hid c2
      have c3 := Lib.hid c3
      have c4 := Lib.hid c4
      clear hu hv hz
      go_enter Try.func5, Try.ntmps5
      go_wp2_with fail
      refine (c1.out _ hL0).mono ?_
      rintro e w1 ⟨rfl, hb1⟩
      have hL := D.keep hL0 hb1
      go_wp2_with fail
      refine (c2.out _ hL).mono ?_
      rintro e w2 ⟨rfl, hb2⟩
      have hL := D.keep hL hb2
      go_wp2_with fail
      refine (c3.out _ hL).mono ?_
      rintro e w3 ⟨rfl, hb3⟩
      have hL := D.keep hL hb3
      go_wp2_with fail
      refine (c4.out _ hL).mono ?_
      rintro e w4 ⟨rfl, hb4⟩
      have hL := D.keep hL hb4
      go_wp2_with fail
      refine (awake_any D _ hL).mono ?_
      rintro e w7 ⟨rfl, hb7⟩
      go_wp2
      go_ret
      exact ⟨rfl, chain (chain (chain (chain hb1 hb2) hb3) hb4) hb7⟩
    · have hd2 : decide ((200 : Int) < (t.size : Int)) = true := decide_eq_true (by omega)
      go_enter Try.func5, Try.ntmps5
      go_wp2_with fail
      refine (awake_any D _ hL0).mono ?_
      rintro e w7 ⟨rfl, hb7⟩
      go_wp2
      go_ret
      exact ⟨rfl, hb7⟩
  · have hd : decide ((200 : Int) < (s.size : Int)) = true := decide_eq_true (by omega)
    go_enter Try.func5, Try.ntmps5
    go_wp2_with fail
    refine (awake_any D _ hL0).mono ?_
    rintro e w7 ⟨rfl, hb7⟩
    go_wp2
    go_ret
    exact ⟨rfl, hb7⟩

set_option maxHeartbeats 1000000 in
theorem walk_residue (D : Dev L) (s : ByteArray) (w : World) (hL0 : L w) (hs : s.size ≤ 140737488351232) :
    Calls Try.prog 9 #[.string s] w fun e w' => e = .returned (.bool true) ∧ Below w.heap.size w w' := by
  by_cases h : s.size ≤ 300
  · have hle : (s.size : Int) ≤ 300 := by omega
    have c1 := fun W (h : L W) => sum1 D s W (by omega) h
    obtain ⟨u, hu⟩ : ∃ u, sumL s.data.toList = u := ⟨_, rfl⟩
    rw [hu] at c1
    have c2 := Lib.hid (fun W (h : L W) => D.bytes u W h)
    have c3 := fun W (h : L W) => sum2 D s ⟨(byL u).toArray⟩ W (by omega) (by show (byL u).length ≤ 1000000; rw [show (byL u).length = 4 from rfl]; decide) h
    rw [str_list, ← hu, residue, hu] at c3
    have c1 := Lib.hid c1
    have c3 := Lib.hid (show ∀ W, L W → Calls Try.prog 14 #[.slice (some ⟨W.heap.size, 0, none⟩) 2 2] (W.alloc (.cells #[.string s, .string ⟨(byL u).toArray⟩] 9)) fun e w' => e = .returned (.int .u32 0) ∧ Below W.heap.size W w' from c3)
    clear hu
    go_enter Try.func9, Try.ntmps9
    go_wp2_with fail
    refine (c1.out _ hL0).mono ?_
    rintro e w1 ⟨rfl, hb1⟩
    have hL := D.keep hL0 hb1
    go_wp2_with fail
    refine (c2.out _ hL).mono ?_
    rintro e w2 ⟨rfl, hb2⟩
    have hL := D.keep hL hb2
    go_wp2_with fail
    refine (c3.out _ hL).mono ?_
    rintro e w3 ⟨rfl, hb3⟩
    have hL := D.keep hL hb3
    go_wp2_with fail
    refine (awake_any D _ hL).mono ?_
    rintro e w7 ⟨rfl, hb7⟩
    go_wp2
    go_ret
    exact ⟨rfl, chain (chain (chain hb1 hb2) hb3) hb7⟩
  · have hgt : (300 : Int) < (s.size : Int) := by omega
    go_enter Try.func9, Try.ntmps9
    go_wp2_with fail
    refine (awake_any D _ hL0).mono ?_
    rintro e w7 ⟨rfl, hb7⟩
    go_wp2
    go_ret
    exact ⟨rfl, hb7⟩

set_option maxHeartbeats 2000000 in
theorem walk_lengths (D : Dev L) (a b c n m : Int) (w : World) (hL0 : L w) (ha : (Lit.int .u32 a).wf = true) (hb : (Lit.int .u32 b).wf = true) (hc : (Lit.int .u32 c).wf = true) (hn : (Lit.int .i64 n).wf = true) (hm : (Lit.int .i64 m).wf = true) :
    Calls Try.prog 6 #[.int .u32 a, .int .u32 b, .int .u32 c, .int .i64 n, .int .i64 m] w fun e w' => e = .returned (.bool true) ∧ Below w.heap.size w w' := by
  obtain ⟨hn1, hn2⟩ : -9223372036854775808 ≤ n ∧ n ≤ 9223372036854775807 := (Lit.wf_int_iff .i64 _).1 hn
  obtain ⟨hm1, hm2⟩ : -9223372036854775808 ≤ m ∧ m ≤ 9223372036854775807 := (Lit.wf_int_iff .i64 _).1 hm
  obtain ⟨x, rfl⟩ := u32_reg ha
  obtain ⟨y, rfl⟩ := u32_reg hb
  obtain ⟨z, rfl⟩ := u32_reg hc
  clear ha hb hc hn hm
  have c1 := fun W (h : L W) => D.combine x y n W hn1 hn2 h
  have c2 := fun W => rcombine_any x y n W hn1 hn2
  have c3 := fun W (h : L W) => D.combine y z m W hm1 hm2 h
  have c4 := fun W => rcombine_any y z m W hm1 hm2
  have hassoc : 0 ≤ n → 0 ≤ m → comb (comb x y n) z m = comb x (comb y z m) (n + m) := by
    intro h1 h2
    obtain ⟨N, rfl⟩ : ∃ N : Nat, n = (N : Int) := ⟨n.toNat, by omega⟩
    obtain ⟨M, rfl⟩ : ∃ M : Nat, m = (M : Int) := ⟨m.toNat, by omega⟩
    exact comb_assoc x y z N M
  obtain ⟨u, hu⟩ : ∃ u, comb x y n = u := ⟨_, rfl⟩
  obtain ⟨v, hv⟩ : ∃ v, comb y z m = v := ⟨_, rfl⟩
  rw [hu] at c1 c2 hassoc
  rw [hv] at c3 c4 hassoc
  have c1 := Lib.hid c1
  have c2 := Lib.hid c2
  have c3 := Lib.hid c3
  have c4 := Lib.hid c4
  have hassoc := Lib.hid hassoc
  clear hu hv
  by_cases t1 : n < 0
  · have d1 : decide (n < 0) = true := decide_eq_true t1
    go_enter Try.func6, Try.ntmps6
    go_wp2_with fail
    refine (c1.out _ hL0).mono ?_
    rintro e w1 ⟨rfl, hb1⟩
    have hL := D.keep hL0 hb1
    go_wp2_with fail
    refine (c2.out _).mono ?_
    rintro e w2 ⟨rfl, rfl⟩
    go_wp2_with fail
    refine (c3.out _ hL).mono ?_
    rintro e w3 ⟨rfl, hb3⟩
    have hL := D.keep hL hb3
    go_wp2_with fail
    refine (c4.out _).mono ?_
    rintro e w4 ⟨rfl, rfl⟩
    go_wp2_with fail
    refine (awake_any D _ hL).mono ?_
    rintro e w7 ⟨rfl, hb7⟩
    go_wp2
    go_ret
    exact ⟨rfl, chain (chain hb1 hb3) hb7⟩
  · have d1 : decide (n < 0) = false := decide_eq_false t1
    by_cases t2 : m < 0
    · have d2 : decide (m < 0) = true := decide_eq_true t2
      go_enter Try.func6, Try.ntmps6
      go_wp2_with fail
      refine (c1.out _ hL0).mono ?_
      rintro e w1 ⟨rfl, hb1⟩
      have hL := D.keep hL0 hb1
      go_wp2_with fail
      refine (c2.out _).mono ?_
      rintro e w2 ⟨rfl, rfl⟩
      go_wp2_with fail
      refine (c3.out _ hL).mono ?_
      rintro e w3 ⟨rfl, hb3⟩
      have hL := D.keep hL hb3
      go_wp2_with fail
      refine (c4.out _).mono ?_
      rintro e w4 ⟨rfl, rfl⟩
      go_wp2_with fail
      refine (awake_any D _ hL).mono ?_
      rintro e w7 ⟨rfl, hb7⟩
      go_wp2
      go_ret
      exact ⟨rfl, chain (chain hb1 hb3) hb7⟩
    · have d2 : decide (m < 0) = false := decide_eq_false t2
      by_cases t3 : 1099511627776 ≤ n
      · have d3 : decide (1099511627776 ≤ n) = true := decide_eq_true t3
        go_enter Try.func6, Try.ntmps6
        go_wp2_with fail
        refine (c1.out _ hL0).mono ?_
        rintro e w1 ⟨rfl, hb1⟩
        have hL := D.keep hL0 hb1
        go_wp2_with fail
        refine (c2.out _).mono ?_
        rintro e w2 ⟨rfl, rfl⟩
        go_wp2_with fail
        refine (c3.out _ hL).mono ?_
        rintro e w3 ⟨rfl, hb3⟩
        have hL := D.keep hL hb3
        go_wp2_with fail
        refine (c4.out _).mono ?_
        rintro e w4 ⟨rfl, rfl⟩
        go_wp2_with fail
        refine (awake_any D _ hL).mono ?_
        rintro e w7 ⟨rfl, hb7⟩
        go_wp2
        go_ret
        exact ⟨rfl, chain (chain hb1 hb3) hb7⟩
      · have d3 : decide (1099511627776 ≤ n) = false := decide_eq_false t3
        by_cases t4 : 1099511627776 ≤ m
        · have d4 : decide (1099511627776 ≤ m) = true := decide_eq_true t4
          go_enter Try.func6, Try.ntmps6
          go_wp2_with fail
          refine (c1.out _ hL0).mono ?_
          rintro e w1 ⟨rfl, hb1⟩
          have hL := D.keep hL0 hb1
          go_wp2_with fail
          refine (c2.out _).mono ?_
          rintro e w2 ⟨rfl, rfl⟩
          go_wp2_with fail
          refine (c3.out _ hL).mono ?_
          rintro e w3 ⟨rfl, hb3⟩
          have hL := D.keep hL hb3
          go_wp2_with fail
          refine (c4.out _).mono ?_
          rintro e w4 ⟨rfl, rfl⟩
          go_wp2_with fail
          refine (awake_any D _ hL).mono ?_
          rintro e w7 ⟨rfl, hb7⟩
          go_wp2
          go_ret
          exact ⟨rfl, chain (chain hb1 hb3) hb7⟩
        · have d4 : decide (1099511627776 ≤ m) = false := decide_eq_false t4
          have q1 : 0 ≤ n := by omega
          have q2 : 0 ≤ m := by omega
          have q3 : n < 1099511627776 := by omega
          have q4 : m < 1099511627776 := by omega
          clear t1 t2 t3 t4
          have c5 := fun W (h : L W) => D.combine u z m W hm1 hm2 h
          have c6 := fun W (h : L W) => D.combine x v (n + m) W (by omega) (by omega) h
          rw [← hassoc.out (by omega) (by omega)] at c6
          obtain ⟨r, hr⟩ : ∃ r, comb u z m = r := ⟨_, rfl⟩
          rw [hr] at c5 c6
          have c5 := Lib.hid c5
          have c6 := Lib.hid c6
          clear hr hassoc
          go_enter Try.func6, Try.ntmps6
          go_wp2_with fail
          refine (c1.out _ hL0).mono ?_
          rintro e w1 ⟨rfl, hb1⟩
          have hL := D.keep hL0 hb1
          go_wp2_with fail
          refine (c2.out _).mono ?_
          rintro e w2 ⟨rfl, rfl⟩
          go_wp2_with fail
          refine (c3.out _ hL).mono ?_
          rintro e w3 ⟨rfl, hb3⟩
          have hL := D.keep hL hb3
          go_wp2_with fail
          refine (c4.out _).mono ?_
          rintro e w4 ⟨rfl, rfl⟩
          go_wp2_with fail
          refine (c1.out _ hL).mono ?_
          rintro e w9 ⟨rfl, hb9⟩
          have hL := D.keep hL hb9
          go_wp2_with fail
          refine (c5.out _ hL).mono ?_
          rintro e w5 ⟨rfl, hb5⟩
          have hL := D.keep hL hb5
          go_wp2_with fail
          refine (c3.out _ hL).mono ?_
          rintro e w6 ⟨rfl, hb6⟩
          have hL := D.keep hL hb6
          go_wp2_with fail
          refine (c6.out _ hL).mono ?_
          rintro e w8 ⟨rfl, hb8⟩
          have hL := D.keep hL hb8
          go_wp2_with fail
          refine (awake_any D _ hL).mono ?_
          rintro e w7 ⟨rfl, hb7⟩
          go_wp2
          go_ret
          exact ⟨rfl, chain (chain (chain (chain (chain (chain hb1 hb3) hb9) hb5) hb6) hb8) hb7⟩

theorem info_byte : (Try.prog.info? 5).map (fun i => (i.zero, i.size, i.bytes)) = some (some (.int .u8 0), 1, 1) := by kernel_rfl
theorem make_zero (w : World) (n : Nat) (h : n ≤ 1000000) : (Instr.makeSlice 38 (.int .i64 (n : Int)) (.int .i64 (n : Int))).run Try.prog w = .ok (.slice (some ⟨w.heap.size, 0, none⟩) n n) (w.alloc (.cells (madeCells #[.int .u8 0] n) 5)) := by
  obtain ⟨i0, hi, hz0, hz1, hz2⟩ := info_parts info_byte
  have hr := run_make (P := Try.prog) w 38 5 i0 (.int .u8 0) Try.underlying38 hi hz0 .i64 .i64 (n : Int) (n : Int) (by omega) (Int.le_refl _) (by rw [hz2]; omega) (by omega)
  rw [hz1, Nat.mul_one, show (Value.int .u8 0).cells = #[.int .u8 0] from rfl] at hr
  simp only [Int.toNat_natCast] at hr
  exact hr
theorem conv_zero (w : World) (n : Nat) : (convert 38 9 (.slice (some ⟨w.heap.size, 0, none⟩) n n)).run Try.prog (w.alloc (.cells (madeCells #[.int .u8 0] n) 5)) = .ok (.string ⟨(List.replicate n (0 : UInt8)).toArray⟩) (w.alloc (.cells (madeCells #[.int .u8 0] n) 5)) :=
  conv_made w (List.length_replicate ..) Try.underlying38 Try.underlying5 Try.underlying9 (by rw [toList_madeCells_one]; simp [bys])

set_option maxHeartbeats 1000000 in
theorem walk_registers (D : Dev L) (a b : Int) (s : ByteArray) (w : World) (hL0 : L w) (ha : (Lit.int .u32 a).wf = true) (hb : (Lit.int .u32 b).wf = true) (hs : s.size ≤ 140737488351232) :
    Calls Try.prog 10 #[.int .u32 a, .int .u32 b, .string s] w fun e w' => e = .returned (.bool true) ∧ Below w.heap.size w w' := by
  obtain ⟨x, rfl⟩ := u32_reg ha
  obtain ⟨y, rfl⟩ := u32_reg hb
  clear ha hb
  by_cases h : s.size ≤ 300
  · have hle : (s.size : Int) ≤ 300 := by omega
    have c1 := fun W (h : L W) => D.update x s W (by omega) h
    have c2 := fun W (h : L W) => D.update y s W (by omega) h
    have c3 := fun W (h : L W) => D.update (x ^^^ y) ⟨Array.replicate s.size 0⟩ W (by show (Array.replicate s.size (0 : UInt8)).size ≤ _; rw [Array.size_replicate]; omega) h
    have hreg := registers x y s.data.toList
    rw [show s.data.toList.length = s.size from rfl] at hreg
    have heq := upd_eq_iff x y s.data.toList
    rw [show (⟨Array.replicate s.size 0⟩ : ByteArray).data.toList = List.replicate s.size 0 from Array.toList_replicate, ← hreg] at c3
    obtain ⟨u, hu⟩ : ∃ u, upd x s.data.toList = u := ⟨_, rfl⟩
    obtain ⟨v, hv⟩ : ∃ v, upd y s.data.toList = v := ⟨_, rfl⟩
    rw [hu] at c1 c3 heq
    rw [hv] at c2 c3 heq
    have hx1 := bxr u v
    have hx2 := bxr x y
    obtain ⟨p, hp⟩ : ∃ p, u ^^^ v = p := ⟨_, rfl⟩
    obtain ⟨q, hq⟩ : ∃ q, x ^^^ y = q := ⟨_, rfl⟩
    rw [hp] at hx1 c3
    rw [hq] at hx2 c3
    have htest : (((u.toNat : Int) == (v.toNat : Int)) == ((x.toNat : Int) == (y.toNat : Int))) = true := by
      rw [beq_iff_eq, Bool.eq_iff_iff, beq_iff_eq, beq_iff_eq]
      constructor
      · intro e
        have : u = v := BitVec.eq_of_toNat_eq (by omega)
        rw [heq.1 this]
      · intro e
        have : x = y := BitVec.eq_of_toNat_eq (by omega)
        rw [heq.2 this]
    have c1 := Lib.hid c1
    have c2 := Lib.hid c2
    have c3 := Lib.hid c3
    clear hu hv hp hq heq hreg
    go_enter Try.func10, Try.ntmps10
    go_wp2_with fail
    refine (c1.out _ hL0).mono ?_
    rintro e w1 ⟨rfl, hb1⟩
    have hL := D.keep hL0 hb1
    go_wp2_with fail
    refine (c2.out _ hL).mono ?_
    rintro e w2 ⟨rfl, hb2⟩
    have hL := D.keep hL hb2
    have hmk := make_zero w2 s.size (by omega)
    have hcv := conv_zero w2 s.size
    have hL2 := D.alloc hL (.cells (madeCells #[.int .u8 0] s.size) 5)
    go_wp2_with fail
    refine (c3.out _ hL2).mono ?_
    rintro e w3 ⟨rfl, hb3⟩
    have hL := D.keep hL2 hb3
    go_wp2_with fail
    refine (awake_any D _ hL).mono ?_
    rintro e w7 ⟨rfl, hb7⟩
    go_wp2
    go_ret
    exact ⟨rfl, chain (chain (chain (chain hb1 hb2) (below_made w2 _)) hb3) hb7⟩
  · have hgt : (300 : Int) < (s.size : Int) := by omega
    go_enter Try.func10, Try.ntmps10
    go_wp2_with fail
    refine (awake_any D _ hL0).mono ?_
    rintro e w7 ⟨rfl, hb7⟩
    go_wp2
    go_ret
    exact ⟨rfl, hb7⟩
end Go.Proofs.Ytnafcicllcmbbaa.K3
