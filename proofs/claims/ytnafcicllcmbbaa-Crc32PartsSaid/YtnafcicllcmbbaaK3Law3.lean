/- The walk of the law Crc32Parts, under the package's contracts. -/
import Derived.Test.YtnafcicllcmbbaaK3Law2
import Derived.Deep.RegionHeld3
namespace Go.Proofs.Ytnafcicllcmbbaa.K3
open Go.RowKit Mem
set_option linter.unusedVariables false
variable {L : World → Prop}

theorem cut0 (s : ByteArray) (n : Nat) : (s.extract 0 n).data.toList = s.data.toList.take n := by simp [List.take_eq_take_min]
theorem cut1 (s : ByteArray) (n : Nat) : (s.extract n s.size).data.toList = s.data.toList.drop n := by
  simp
  exact List.take_of_length_le (by simp)
theorem cut_whole (s : ByteArray) (n : Nat) : (s.extract 0 n).data.toList ++ (s.extract n s.size).data.toList = s.data.toList := by
  rw [cut0, cut1, List.take_append_drop]

set_option maxHeartbeats 4000000 in
theorem walk_parts (D : Dev L) (a : Int) (s : ByteArray) (k : Int) (w : World) (hL0 : L w) (ha : (Lit.int .u32 a).wf = true) (hs : s.size ≤ 140737488351232) (hk : (Lit.int .u8 k).wf = true) :
    Calls Try.prog 4 #[.int .u32 a, .string s, .int .u8 k] w fun e w' => e = .returned (.bool true) ∧ Below w.heap.size w w' := by
  obtain ⟨x, rfl⟩ := u32_reg ha
  obtain ⟨hk1, hk2⟩ : 0 ≤ k ∧ k ≤ 255 := (Lit.wf_int_iff .u8 _).1 hk
  clear ha hk
  by_cases h : s.size ≤ 300
  · have hle : (s.size : Int) ≤ 300 := by omega
    obtain ⟨n, hn⟩ : ∃ n : Nat, k % ((s.size : Int) + 1) = (n : Int) := ⟨(k % ((s.size : Int) + 1)).toNat, by
      have := Int.emod_nonneg k (show ((s.size : Int) + 1) ≠ 0 by omega)
      omega⟩
    have hns : n ≤ s.size := by
      have := Int.emod_lt_of_pos k (show (0 : Int) < ((s.size : Int) + 1) by omega)
      omega
    have hw := cut_whole s n
    obtain ⟨P, hPe⟩ : ∃ P, s.extract 0 n = P := ⟨_, rfl⟩
    obtain ⟨Q, hQe⟩ : ∃ Q, s.extract n s.size = Q := ⟨_, rfl⟩
    rw [hPe, hQe] at hw
    have hPs : P.size ≤ 300 := by rw [← hPe]; simp; omega
    have hQs : Q.size ≤ 300 := by rw [← hQe]; simp; omega
    have c1 := fun W (h : L W) => D.update x P W (by omega) h
    have c2 := fun W (h : L W) => D.update (upd x P.data.toList) Q W (by omega) h
    rw [← upd_append, hw] at c2
    have c3 := fun W (h : L W) => D.update x s W (by omega) h
    have c4 := fun W (h : L W) => D.update ones s W (by omega) h
    rw [show upd ones s.data.toList = sumL s.data.toList from rfl, show ((ones.toNat : Nat) : Int) = 4294967295 by decide] at c4
    have c5 := fun A W (h : Rd W A (strVs [P.data.toList, [], Q.data.toList])) (hL : L W) => D.sum A 3 [P.data.toList, [], Q.data.toList] W (by
      intro y hy
      simp at hy
      rcases hy with rfl | rfl | rfl
      · show P.size ≤ 1000000; omega
      · simp
      · show Q.size ≤ 1000000; omega) (by simp) (by simp) (by decide) h hL
    rw [show joinL [P.data.toList, [], Q.data.toList] = s.data.toList by rw [← hw]; simp [joinL]] at c5
    have c5 : ∀ (A : Option Addr) (W : World), Rd W A (strVs [P.data.toList, [], Q.data.toList]) → L W → Calls Try.prog 14 #[.slice A 3 3] W fun e w' => e = .returned (.int .u32 ((sumL s.data.toList).toNat : Int)) ∧ Below W.heap.size W w' := c5
    have c6 := fun A W (h : Rd W A (strVs [s.data.toList])) (hL : L W) => D.sum A 1 [s.data.toList] W (by simp; show s.size ≤ 1000000; omega) (by simp) (by simp) (by decide) h hL
    rw [show joinL [s.data.toList] = s.data.toList by simp [joinL]] at c6
    have c6 : ∀ (A : Option Addr) (W : World), Rd W A (strVs [s.data.toList]) → L W → Calls Try.prog 14 #[.slice A 1 1] W fun e w' => e = .returned (.int .u32 ((sumL s.data.toList).toNat : Int)) ∧ Below W.heap.size W w' := c6
    obtain ⟨u1, hu1⟩ : ∃ u1, upd x P.data.toList = u1 := ⟨_, rfl⟩
    obtain ⟨v, hv⟩ : ∃ v, upd x s.data.toList = v := ⟨_, rfl⟩
    obtain ⟨z, hz⟩ : ∃ z, sumL s.data.toList = z := ⟨_, rfl⟩
    rw [hu1] at c1 c2
    rw [hv] at c2 c3
    rw [hz] at c4 c5 c6
    clear hu1 hv hz
    have c1 := Lib.hid c1
    have c2 := Lib.hid c2
    have c3 := Lib.hid c3
    have c4 := Lib.hid c4
    have c5 := Lib.hid c5
    have c6 := Lib.hid c6
    have hn0 : (0 : Int) ≤ (n : Int) := by omega
    have hnI : (n : Int) ≤ (s.size : Int) := by omega
    have hL := hL0
    have hB := Below.refl w.heap.size w
    clear hw
    go_enter Try.func4, Try.ntmps4
    go_wp2_with fail
    go_region_held3 (fun _ => True) (trivial) (first
      | (go_at_call 12; first
        | (with_reducible refine (c1.out _ ?_).mono ?_; (· (first | exact hL | exact D.drew hL | exact D.alloc hL _ | exact D.alloc (D.drew hL) _ | exact D.drew (D.alloc hL _) | exact D.alloc (D.alloc hL _) _)); rintro e w1 ⟨rfl, hb1⟩; have hB := chain (by first | exact hB | exact hB.drew | exact hB.alloc hB.size _ | exact (hB.drew).alloc hB.size _ | exact (hB.alloc hB.size _).drew | exact (hB.alloc hB.size _).alloc (hB.alloc hB.size _).size _) hb1; have hL := D.keep (by first | exact hL | exact D.drew hL | exact D.alloc hL _ | exact D.alloc (D.drew hL) _ | exact D.drew (D.alloc hL _) | exact D.alloc (D.alloc hL _) _) hb1)
        | (with_reducible refine (c2.out _ ?_).mono ?_; (· (first | exact hL | exact D.drew hL | exact D.alloc hL _ | exact D.alloc (D.drew hL) _ | exact D.drew (D.alloc hL _) | exact D.alloc (D.alloc hL _) _)); rintro e w1 ⟨rfl, hb1⟩; have hB := chain (by first | exact hB | exact hB.drew | exact hB.alloc hB.size _ | exact (hB.drew).alloc hB.size _ | exact (hB.alloc hB.size _).drew | exact (hB.alloc hB.size _).alloc (hB.alloc hB.size _).size _) hb1; have hL := D.keep (by first | exact hL | exact D.drew hL | exact D.alloc hL _ | exact D.alloc (D.drew hL) _ | exact D.drew (D.alloc hL _) | exact D.alloc (D.alloc hL _) _) hb1)
        | (with_reducible refine (c3.out _ ?_).mono ?_; (· (first | exact hL | exact D.drew hL | exact D.alloc hL _ | exact D.alloc (D.drew hL) _ | exact D.drew (D.alloc hL _) | exact D.alloc (D.alloc hL _) _)); rintro e w1 ⟨rfl, hb1⟩; have hB := chain (by first | exact hB | exact hB.drew | exact hB.alloc hB.size _ | exact (hB.drew).alloc hB.size _ | exact (hB.alloc hB.size _).drew | exact (hB.alloc hB.size _).alloc (hB.alloc hB.size _).size _) hb1; have hL := D.keep (by first | exact hL | exact D.drew hL | exact D.alloc hL _ | exact D.alloc (D.drew hL) _ | exact D.drew (D.alloc hL _) | exact D.alloc (D.alloc hL _) _) hb1)
        | (with_reducible refine (c4.out _ ?_).mono ?_; (· (first | exact hL | exact D.drew hL | exact D.alloc hL _ | exact D.alloc (D.drew hL) _ | exact D.drew (D.alloc hL _) | exact D.alloc (D.alloc hL _) _)); rintro e w1 ⟨rfl, hb1⟩; have hB := chain (by first | exact hB | exact hB.drew | exact hB.alloc hB.size _ | exact (hB.drew).alloc hB.size _ | exact (hB.alloc hB.size _).drew | exact (hB.alloc hB.size _).alloc (hB.alloc hB.size _).size _) hb1; have hL := D.keep (by first | exact hL | exact D.drew hL | exact D.alloc hL _ | exact D.alloc (D.drew hL) _ | exact D.drew (D.alloc hL _) | exact D.alloc (D.alloc hL _) _) hb1))
      | (go_at_call 14; first
        | (with_reducible refine (c5.out _ _ ?_ ?_).mono ?_; (· (first | exact rd_made _ _ _ _ rfl | exact rd_made_at _ _ _ _ _ rfl (by simp) | (refine Rd.below ?_ hb1; first | exact rd_made _ _ _ _ rfl | exact rd_made_at _ _ _ _ _ rfl (by simp) | (refine Rd.below ?_ (below_made _ _); first | exact rd_made _ _ _ _ rfl | exact rd_made_at _ _ _ _ _ rfl (by simp))) | (refine Rd.below ?_ (below_made _ _); first | exact rd_made _ _ _ _ rfl | exact rd_made_at _ _ _ _ _ rfl (by simp)))); (· (first | exact hL | exact D.drew hL | exact D.alloc hL _ | exact D.alloc (D.drew hL) _ | exact D.drew (D.alloc hL _) | exact D.alloc (D.alloc hL _) _)); rintro e w1 ⟨rfl, hb1⟩; have hB := chain (by first | exact hB | exact hB.drew | exact hB.alloc hB.size _ | exact (hB.drew).alloc hB.size _ | exact (hB.alloc hB.size _).drew | exact (hB.alloc hB.size _).alloc (hB.alloc hB.size _).size _) hb1; have hL := D.keep (by first | exact hL | exact D.drew hL | exact D.alloc hL _ | exact D.alloc (D.drew hL) _ | exact D.drew (D.alloc hL _) | exact D.alloc (D.alloc hL _) _) hb1)
        | (with_reducible refine (c6.out _ _ ?_ ?_).mono ?_; (· (first | exact rd_made _ _ _ _ rfl | exact rd_made_at _ _ _ _ _ rfl (by simp) | (refine Rd.below ?_ hb1; first | exact rd_made _ _ _ _ rfl | exact rd_made_at _ _ _ _ _ rfl (by simp) | (refine Rd.below ?_ (below_made _ _); first | exact rd_made _ _ _ _ rfl | exact rd_made_at _ _ _ _ _ rfl (by simp))) | (refine Rd.below ?_ (below_made _ _); first | exact rd_made _ _ _ _ rfl | exact rd_made_at _ _ _ _ _ rfl (by simp)))); (· (first | exact hL | exact D.drew hL | exact D.alloc hL _ | exact D.alloc (D.drew hL) _ | exact D.drew (D.alloc hL _) | exact D.alloc (D.alloc hL _) _)); rintro e w1 ⟨rfl, hb1⟩; have hB := chain (by first | exact hB | exact hB.drew | exact hB.alloc hB.size _ | exact (hB.drew).alloc hB.size _ | exact (hB.alloc hB.size _).drew | exact (hB.alloc hB.size _).alloc (hB.alloc hB.size _).size _) hb1; have hL := D.keep (by first | exact hL | exact D.drew hL | exact D.alloc hL _ | exact D.alloc (D.drew hL) _ | exact D.drew (D.alloc hL _) | exact D.alloc (D.alloc hL _) _) hb1))
      | (go_at_call 11; with_reducible refine (awake_any D _ ?_).mono ?_; (· (first | exact hL | exact D.drew hL | exact D.alloc hL _ | exact D.alloc (D.drew hL) _ | exact D.drew (D.alloc hL _) | exact D.alloc (D.alloc hL _) _)); rintro e w1 ⟨rfl, hb1⟩; have hB := chain (by first | exact hB | exact hB.drew | exact hB.alloc hB.size _ | exact (hB.drew).alloc hB.size _ | exact (hB.alloc hB.size _).drew | exact (hB.alloc hB.size _).alloc (hB.alloc hB.size _).size _) hb1; have hL := D.keep (by first | exact hL | exact D.drew hL | exact D.alloc hL _ | exact D.alloc (D.drew hL) _ | exact D.drew (D.alloc hL _) | exact D.alloc (D.alloc hL _) _) hb1))
    all_goals
      go_wp2
      go_ret
      exact ⟨rfl, hB⟩
  · have hgt : (300 : Int) < (s.size : Int) := by omega
    go_enter Try.func4, Try.ntmps4
    go_wp2_with fail
    refine (awake_any D _ hL0).mono ?_
    rintro e w7 ⟨rfl, hb7⟩
    go_wp2
    go_ret
    exact ⟨rfl, hb7⟩
end Go.Proofs.Ytnafcicllcmbbaa.K3
