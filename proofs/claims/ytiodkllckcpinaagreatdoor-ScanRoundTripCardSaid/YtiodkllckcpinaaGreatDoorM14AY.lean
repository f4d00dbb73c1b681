/- The contracts of the reference of layer 10: check, mismatch. -/
import Derived.Test.YtiodkllckcpinaaGreatDoorM14AD
import Derived.Test.YtiodkllckcpinaaGreatDoorM14AC
import Derived.Test.YtiodkllckcpinaaGreatDoorM14AB
set_option linter.unusedVariables false
set_option linter.unusedSimpArgs false
set_option maxRecDepth 100000
namespace Go.Proofs.YtiodkllckcpinaaGreatDoor
namespace V10
open Go.RowKit Mem C9

theorem rchk (c : ByteArray) : C1.chk c.data.toList = if c.data.toList.all okC = true then 0 else 3 := rfl
set_option maxHeartbeats 4000000 in
theorem rcheck10 (c : ByteArray) (w : World) (hc : c.size ≤ 1000000) : Calls Tryz.prog 97 #[.string c] w fun e w' => e = .returned (.int .i64 (eB c)) ∧ w = w' := by
 have c1 := C1.rcheck_any c w hc
 rw [rchk] at c1
 cases ho : c.data.toList.all okC
 ·have he := eB_syn ho
  rw [ho, if_neg (by decide)] at c1
  replace c1 := Lib.hid c1
  replace he := Lib.hid he
  clear ho
  go_enter Tryz.func97, Tryz.ntmps97
  go_wp2_with fail
  refine c1.out.mono ?_
  rintro e w1 ⟨rfl, rfl⟩
  go_wp2
  go_ret
  exact ⟨(by rw [he.out]; rfl), rfl⟩
 ·rw [ho, if_pos rfl] at c1
  replace c1 := Lib.hid c1
  by_cases hodd : c.size % 2 = 1
  ·have he := Lib.hid (eB_short ho (.inl hodd))
   have q1 : (c.size : Int) % 2 = 1 := by omega
   clear ho
   go_enter Tryz.func97, Tryz.ntmps97
   go_wp2_with fail
   refine c1.out.mono ?_
   rintro e w1 ⟨rfl, rfl⟩
   go_wp2
   go_ret
   exact ⟨(by rw [he.out]; rfl), rfl⟩
  ·have q1 : (c.size : Int) % 2 = 0 := by omega
   have q1' : c.size % 2 = 0 := by omega
   by_cases hsh : c.size < 4
   ·have he := Lib.hid (eB_short ho (.inr hsh))
    have d1 : decide (c.size < 4) = true := decide_eq_true hsh
    have d2 : decide ((c.size : Int) < 4) = true := decide_eq_true (by omega)
    clear ho hodd hsh
    go_enter Tryz.func97, Tryz.ntmps97
    go_wp2_with fail
    refine c1.out.mono ?_
    rintro e w1 ⟨rfl, rfl⟩
    go_wp2
    go_ret
    exact ⟨(by rw [he.out]; rfl), rfl⟩
   ·have he := Lib.hid (eB_ok (n := (c.size - 4) / 2) ho (by omega))
    have d1 : decide (c.size < 4) = false := decide_eq_false hsh
    have d2 : decide ((c.size : Int) < 4) = false := decide_eq_false (by omega)
    clear ho hodd hsh
    go_enter Tryz.func97, Tryz.ntmps97
    go_wp2_with fail
    refine c1.out.mono ?_
    rintro e w1 ⟨rfl, rfl⟩
    go_wp2
    go_ret
    exact ⟨(by rw [he.out]; rfl), rfl⟩
theorem u8_ne' (x y : UInt8) : (x != y) = ((x.toNat : Int) != (y.toNat : Int)) := by
 rw [Bool.eq_iff_iff]
 simp [← UInt8.toNat_inj]
 omega
theorem mis_as (x : UInt8) (b : Bool) : mis x b = if (((x.toNat : Int) != 63) && ((x.toNat : Int) != ((cell b).toNat : Int))) = true then 1 else 0 := by
 unfold mis
 rw [u8_ne', u8_ne']
 rfl
set_option maxHeartbeats 4000000 in
theorem mismatch_any (c : ByteArray) (k : Nat) (a b : Bool) (w : World) (hk : 2 * k + 1 < c.size) (hc : c.size ≤ 1000000) :
  Calls Tryz.prog 100 #[.string c, .int .i64 (k : Int), .string (sb [a, b])] w fun e w' => e = .returned (.int .i64 ((mis c[2 * k] a + mis c[2 * k + 1] b : Nat) : Int)) ∧ ∃ n, w' = w.drewN n := by
 have hp : 2 * k < c.size := by omega
 have e0 := mis_as c[2 * k] a
 have e1 := mis_as c[2 * k + 1] b
 have l0 := mis_le c[2 * k] a
 have l1 := mis_le c[2 * k + 1] b
 obtain ⟨O, hO⟩ : ∃ O, sb [a, b] = O := ⟨_, rfl⟩
 have hOs : O.size = 2 := by rw [← hO]; rfl
 have o0 : ∀ h, ((O[0]'h).toNat : Int) = ((cell a).toNat : Int) := fun h => by subst hO; rfl
 have o1 : ∀ h, ((O[1]'h).toNat : Int) = ((cell b).toNat : Int) := fun h => by subst hO; rfl
 rw [hO]
 obtain ⟨I, hI⟩ : ∃ I, 2 * k = I := ⟨_, rfl⟩
 obtain ⟨J, hJ⟩ : ∃ I, 2 * k + 1 = I := ⟨_, rfl⟩
 have hkk : k ≤ 1000000 := by omega
 have p0 : I < c.size := by omega
 have p1 : J < c.size := by omega
 simp only [hJ] at e1 l1 ⊢
 simp only [hI] at e0 l0 ⊢
 have iI : 2 * (k : Int) = (I : Int) := by omega
 have iJ : (I : Int) + 1 = (J : Int) := by omega
 have b0 : (0 : Int) ≤ (I : Int) := by omega
 have b1 : (I : Int) < (c.size : Int) := by omega
 have b2 : (0 : Int) ≤ (J : Int) := by omega
 have b3 : (J : Int) < (c.size : Int) := by omega
 obtain ⟨m0, hm0⟩ : ∃ m, mis c[I] a = m := ⟨_, rfl⟩
 obtain ⟨m1, hm1⟩ : ∃ m, mis c[J] b = m := ⟨_, rfl⟩
 rw [hm0] at e0 l0 ⊢
 rw [hm1] at e1 l1 ⊢
 obtain ⟨x0, hx0⟩ : ∃ x : Int, ((c[I]).toNat : Int) = x := ⟨_, rfl⟩
 obtain ⟨x1, hx1⟩ : ∃ x : Int, ((c[J]).toNat : Int) = x := ⟨_, rfl⟩
 obtain ⟨y0, hy0⟩ : ∃ x : Int, ((cell a).toNat : Int) = x := ⟨_, rfl⟩
 obtain ⟨y1, hy1⟩ : ∃ x : Int, ((cell b).toNat : Int) = x := ⟨_, rfl⟩
 rw [hx0, hy0] at e0
 rw [hx1, hy1] at e1
 simp only [hy0] at o0
 simp only [hy1] at o1
 obtain ⟨u0, hu0⟩ : ∃ u, (x0 != 63) = u := ⟨_, rfl⟩
 obtain ⟨v0, hv0⟩ : ∃ u, (x0 != y0) = u := ⟨_, rfl⟩
 obtain ⟨u1, hu1⟩ : ∃ u, (x1 != 63) = u := ⟨_, rfl⟩
 obtain ⟨v1, hv1⟩ : ∃ u, (x1 != y1) = u := ⟨_, rfl⟩
 rw [hu0, hv0] at e0
 rw [hu1, hv1] at e1
 have z0 := o0 (by omega)
 have z1 := o1 (by omega)
 clear o0 o1 hO hI hJ hk hp hm0 hm1 hy0 hy1
 replace e0 := Lib.hid e0
 replace e1 := Lib.hid e1
 go_enter Tryz.func100, Tryz.ntmps100
 go_wp2
 go_loopw [7, 8] (fun n i wr => ∃ j : Nat, j ≤ 2 ∧ i = .int .i64 (j : Int) ∧ n = .int .i64 (if j = 0 then 0 else if j = 1 then (m0 : Int) else ((m0 + m1 : Nat) : Int)) ∧ ∃ d, wr = w.drewN d) (fun _ i _ => 2 - (intOf i).toNat)
 case atStart => exact ⟨0, by decide, rfl, rfl, 0, rfl⟩
 case round =>
  obtain ⟨j, hj, rfl, rfl, d, rfl⟩ := hrel
  have hj3 : j = 0 ∨ j = 1 ∨ j = 2 := by omega
  clear hj
  rcases hj3 with rfl | rfl | rfl
  ·cases u0 <;> cases v0
   all_goals
    have em := Lib.hid (show m0 = _ from e0.out)
    go_wp2
    go_quiet (fail)
    go_wp2
    go_roundw
    case rel => exact ⟨1, by decide, rfl, by show _ = Value.int .i64 (m0 : Int); rw [em.out]; rfl, _, rfl⟩
    case measure => simp [intOf]
  ·rw [if_neg (by decide), if_pos rfl]
   cases u1 <;> cases v1
   all_goals
    have em := Lib.hid (show m1 = _ from e1.out)
    go_wp2
    go_quiet (fail)
    go_wp2
    go_roundw
    case rel => exact ⟨2, by decide, rfl, by show _ = Value.int .i64 ((m0 + m1 : Nat) : Int); rw [em.out]; first | rfl | (congr 1), _, rfl⟩
    case measure => simp [intOf]
  ·rw [if_neg (by decide), if_neg (by decide)]
   go_wp2
   go_ret
   exact ⟨rfl, d, rfl⟩
end V10
end Go.Proofs.YtiodkllckcpinaaGreatDoor
