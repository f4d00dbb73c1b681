/- The walk of the law Gf256PowerLaws, under the package's contracts. -/
import Derived.Test.YtffnjnomckipbaaG5Law2
import Derived.Laws.OwnMore
namespace Go.Proofs.Ytffnjnomckipbaa.G5
open Go.RowKit Mem
set_option linter.unusedVariables false

theorem po_z {n : Int} (h : n ≠ 0) : po 0#8 n = 0#8 := by
  unfold po
  rw [if_pos (show (0#8 : R) = 0 from rfl), if_neg h]
  rfl
theorem po_z0 : po 0#8 0 = 1#8 := rfl
theorem pk_z (n : Int) : pk 0#8 n = decide (0 ≤ n) := by
  unfold pk
  rw [show ((0#8 : R) == 0) = true from rfl]
  rfl

set_option maxRecDepth 100000 in
set_option maxHeartbeats 1000000 in
theorem walk_powerlaws (D : Dev) (a m n : Int) (w : World) (ha : (Lit.int .u8 a).wf = true) (hm : (Lit.int .i32 m).wf = true) (hn : (Lit.int .i32 n).wf = true) :
    Calls Try.prog 9 #[.int .u8 a, .int .i32 m, .int .i32 n] w fun e w' => e = .returned (.bool true) ∧ Below w.heap.size w w' := by
  obtain ⟨m1, m2⟩ := i32_in hm
  obtain ⟨n1, n2⟩ := i32_in hn
  obtain ⟨x, rfl⟩ := u8_el ha
  have c0 := Lib.hid (alive_any D)
  have c1 := fun W => D.pow x m W (by omega) (by omega)
  have c2 := fun W => D.pow x n W (by omega) (by omega)
  have c3 := fun W => D.pow x (m + n) W (by omega) (by omega)
  rcases hx : (x == 0#8) with _ | _
  · have hx0 : ((x.toNat : Int) == 0) = false := by rw [z_is]; exact hx
    have hx1 : ((x.toNat : Int) != 0) = true := by rw [nz_is, hx]; rfl
    have hk : ∀ k : Int, pk x k = true := fun k => by unfold pk; rw [show (x == 0) = false from hx]; rfl
    rw [hk] at c1 c2 c3
    rw [po_add (ne_of hx)] at c3
    have c4 := D.mul (po x m) (po x n)
    obtain ⟨Z, hZ⟩ : ∃ Z, tms (po x m) (po x n) = Z := ⟨_, rfl⟩
    rw [hZ] at c3 c4
    clear hZ
    obtain ⟨P, hP⟩ : ∃ P, po x m = P := ⟨_, rfl⟩
    rw [hP] at c1 c4
    clear hP
    obtain ⟨Q, hQ⟩ : ∃ Q, po x n = Q := ⟨_, rfl⟩
    rw [hQ] at c2 c4
    clear hQ
    have c1 := Lib.hid c1
    have c2 := Lib.hid c2
    have c3 := Lib.hid c3
    have c4 := Lib.hid c4
    clear hx hk
    go_enter Try.func9, Try.ntmps9
    go_wp2_with fail
    refine (c0.out _).mono ?_
    rintro e w1 ⟨rfl, b0⟩
    go_wp2_with fail
    refine (c1.out _).mono ?_
    rintro e w1 ⟨rfl, b1⟩
    go_wp2_with fail
    refine (c2.out _).mono ?_
    rintro e w1 ⟨rfl, b2⟩
    go_wp2_with fail
    refine (c3.out _).mono ?_
    rintro e w1 ⟨rfl, b3⟩
    go_wp2_with fail
    refine (c4.out _).mono ?_
    rintro e w1 ⟨rfl, rfl⟩
    go_wp2
    go_ret
    exact ⟨rfl, chain (chain (chain b0 b1) b2) b3⟩
  · have hx0 : ((x.toNat : Int) == 0) = true := by rw [z_is]; exact hx
    have hx1 : ((x.toNat : Int) != 0) = false := by rw [nz_is, hx]; rfl
    obtain rfl := eq_of hx
    obtain ⟨Q, hQ⟩ : ∃ Q, po 0#8 n = Q := ⟨_, rfl⟩
    rw [hQ] at c2
    clear hQ
    obtain ⟨Z, hZ⟩ : ∃ Z, po 0#8 (m + n) = Z := ⟨_, rfl⟩
    rw [hZ] at c3
    clear hZ
    obtain ⟨B, hB⟩ : ∃ B, pk 0#8 n = B := ⟨_, rfl⟩
    rw [hB] at c2
    clear hB
    obtain ⟨C, hC⟩ : ∃ C, pk 0#8 (m + n) = C := ⟨_, rfl⟩
    rw [hC] at c3
    clear hC
    have c2 := Lib.hid c2
    have c3 := Lib.hid c3
    clear hx
    rcases Int.lt_trichotomy m 0 with h | h | h
    · have hp : po 0#8 m = 0#8 := po_z (by omega)
      have hk : pk 0#8 m = false := by rw [pk_z]; exact decide_eq_false (by omega)
      have f1 : (m == 0) = false := by rw [beq_eq_false_iff_ne]; omega
      have f2 : decide (0 < m) = false := decide_eq_false (by omega)
      have f3 : decide (m < 0) = true := decide_eq_true h
      rw [hp, hk, show bv 0#8 = .int .u8 0 from rfl] at c1
      have c1 := Lib.hid c1
      clear hp hk h
      go_enter Try.func9, Try.ntmps9
      go_wp2_with fail
      refine (c0.out _).mono ?_
      rintro e w1 ⟨rfl, b0⟩
      go_wp2_with fail
      refine (c1.out _).mono ?_
      rintro e w1 ⟨rfl, b1⟩
      go_wp2_with fail
      refine (c2.out _).mono ?_
      rintro e w1 ⟨rfl, b2⟩
      go_wp2_with fail
      refine (c3.out _).mono ?_
      rintro e w1 ⟨rfl, b3⟩
      go_wp2
      go_ret
      exact ⟨rfl, chain (chain (chain b0 b1) b2) b3⟩
    · subst h
      have hp : po 0#8 0 = 1#8 := po_z0
      have hk : pk 0#8 0 = true := by rw [pk_z]; exact decide_eq_true (by omega)
      have c3 := c3.out
      simp only [Int.zero_add] at c3
      have c3 := Lib.hid c3
      rw [hp, hk, show bv 1#8 = .int .u8 1 from rfl] at c1
      have c1 := Lib.hid c1
      clear hp hk
      go_enter Try.func9, Try.ntmps9
      go_wp2_with fail
      refine (c0.out _).mono ?_
      rintro e w1 ⟨rfl, b0⟩
      go_wp2_with fail
      refine (c1.out _).mono ?_
      rintro e w1 ⟨rfl, b1⟩
      go_wp2_with fail
      refine (c2.out _).mono ?_
      rintro e w1 ⟨rfl, b2⟩
      go_wp2_with fail
      refine (c3.out _).mono ?_
      rintro e w1 ⟨rfl, b3⟩
      go_wp2
      go_ret
      exact ⟨rfl, chain (chain (chain b0 b1) b2) b3⟩
    · have hp : po 0#8 m = 0#8 := po_z (by omega)
      have hk : pk 0#8 m = true := by rw [pk_z]; exact decide_eq_true (by omega)
      have f1 : (m == 0) = false := by rw [beq_eq_false_iff_ne]; omega
      have f2 : decide (0 < m) = true := decide_eq_true h
      rw [hp, hk, show bv 0#8 = .int .u8 0 from rfl] at c1
      have c1 := Lib.hid c1
      clear hp hk h
      go_enter Try.func9, Try.ntmps9
      go_wp2_with fail
      refine (c0.out _).mono ?_
      rintro e w1 ⟨rfl, b0⟩
      go_wp2_with fail
      refine (c1.out _).mono ?_
      rintro e w1 ⟨rfl, b1⟩
      go_wp2_with fail
      refine (c2.out _).mono ?_
      rintro e w1 ⟨rfl, b2⟩
      go_wp2_with fail
      refine (c3.out _).mono ?_
      rintro e w1 ⟨rfl, b3⟩
      go_wp2
      go_ret
      exact ⟨rfl, chain (chain (chain b0 b1) b2) b3⟩
end Go.Proofs.Ytffnjnomckipbaa.G5
