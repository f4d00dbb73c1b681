/- The walks of the laws Blake2sHexConcatenation and Blake2sHex, under the package's contracts. -/
import Derived.Test.YtkppepdniehoiaaDoorB4Dev
namespace Go.Proofs.YtkppepdniehoiaaDoor.B4
open Go.RowKit Mem
set_option linter.unusedVariables false
variable {L : World → Prop}

theorem app_list (a b : ByteArray) : (a ++ b).data.toList = a.data.toList ++ b.data.toList := by simp
theorem app_size (a b : ByteArray) : (a ++ b).size = a.size + b.size := by simp

set_option maxHeartbeats 1000000 in
theorem walk_hexcat (D : Dev L) (a b : ByteArray) (w : World) (hL0 : L w) (ha : a.size ≤ 140737488351232) (hb : b.size ≤ 140737488351232) :
    Calls Tryd.prog 10 #[.string a, .string b] w fun e w' => e = .returned (.bool true) ∧ Below w.heap.size w w' := by
  by_cases h1 : 1000 < a.size
  · have d1 : decide ((1000 : Int) < (a.size : Int)) = true := decide_eq_true (by omega)
    go_enter Tryd.func10, Tryd.ntmps10
    go_wp2_with fail
    refine (alive_any D _ hL0).mono ?_
    rintro e w1 ⟨rfl, hb1⟩
    go_wp2
    go_ret
    exact ⟨rfl, hb1⟩
  · have d1 : decide ((1000 : Int) < (a.size : Int)) = false := decide_eq_false (by omega)
    by_cases h2 : 1000 < b.size
    · have d2 : decide ((1000 : Int) < (b.size : Int)) = true := decide_eq_true (by omega)
      go_enter Tryd.func10, Tryd.ntmps10
      go_wp2_with fail
      refine (alive_any D _ hL0).mono ?_
      rintro e w1 ⟨rfl, hb1⟩
      go_wp2
      go_ret
      exact ⟨rfl, hb1⟩
    · have d2 : decide ((1000 : Int) < (b.size : Int)) = false := decide_eq_false (by omega)
      have c1 := fun W (h : L W) => D.hex (a ++ b) W (by rw [app_size]; omega) h
      have c2 := fun W (h : L W) => D.hex a W (by omega) h
      have c3 := fun W (h : L W) => D.hex b W (by omega) h
      rw [app_list, hexL_append] at c1
      have hl1 := hexL_len a.data.toList
      have hl2 := hexL_len b.data.toList
      rw [show a.data.toList.length = a.size from rfl] at hl1
      rw [show b.data.toList.length = b.size from rfl] at hl2
      have hinj : hexL a.data.toList = hexL b.data.toList ↔ a.toList = b.toList := by
        rw [str_toList, str_toList]
        exact ⟨hexL_inj, fun e => by rw [e]⟩
      obtain ⟨X, hX⟩ : ∃ X, hexL a.data.toList = X := ⟨_, rfl⟩
      obtain ⟨Y, hY⟩ : ∃ Y, hexL b.data.toList = Y := ⟨_, rfl⟩
      rw [hX] at c1 c2 hl1 hinj
      rw [hY] at c1 c3 hl2 hinj
      have hXs : X.length ≤ 2000 := by omega
      have hYs : Y.length ≤ 2000 := by omega
      have hap := Lib.hid (sapp X Y)
      have c1 := Lib.hid c1
      have c2 := Lib.hid c2
      have c3 := Lib.hid c3
      have heq : ((X == Y) == (a.toList == b.toList)) = true := by
        rw [beq_iff_eq, Bool.eq_iff_iff, beq_iff_eq, beq_iff_eq]
        exact hinj
      have heq := Lib.hid heq
      clear hX hY hl1 hl2 hinj
      go_enter Tryd.func10, Tryd.ntmps10
      go_wp2_with fail
      refine (alive_any D _ hL0).mono ?_
      rintro e w1 ⟨rfl, hb1⟩
      have hL := D.keep hL0 hb1
      go_wp2_with fail
      refine (c1.out _ hL).mono ?_
      rintro e w2 ⟨rfl, hb2⟩
      have hL := D.keep hL hb2
      rw [← hap.out]
      go_wp2_with fail
      refine (c2.out _ hL).mono ?_
      rintro e w3 ⟨rfl, hb3⟩
      have hL := D.keep hL hb3
      go_wp2_with fail
      refine (c3.out _ hL).mono ?_
      rintro e w4 ⟨rfl, hb4⟩
      have hL := D.keep hL hb4
      go_wp2_with fail
      refine (c2.out _ hL).mono ?_
      rintro e w5 ⟨rfl, hb5⟩
      have hL := D.keep hL hb5
      go_wp2_with fail
      refine (c3.out _ hL).mono ?_
      rintro e w6 ⟨rfl, hb6⟩
      go_wp2
      go_ret
      exact ⟨ret_bool rfl, chain (chain (chain (chain (chain hb1 hb2) hb3) hb4) hb5) hb6⟩

set_option maxHeartbeats 1000000 in
theorem walk_hex (D : Dev L) (a : ByteArray) (w : World) (hL0 : L w) (ha : a.size ≤ 140737488351232) :
    Calls Tryd.prog 7 #[.string a] w fun e w' => e = .returned (.bool true) ∧ Below w.heap.size w w' := by
  by_cases h1 : 2000 < a.size
  · have d1 : decide ((2000 : Int) < (a.size : Int)) = true := decide_eq_true (by omega)
    go_enter Tryd.func7, Tryd.ntmps7
    go_wp2_with fail
    refine (alive_any D _ hL0).mono ?_
    rintro e w1 ⟨rfl, hb1⟩
    go_wp2
    go_ret
    exact ⟨rfl, hb1⟩
  · have d1 : decide ((2000 : Int) < (a.size : Int)) = false := decide_eq_false (by omega)
    have c1 := fun W (h : L W) => D.hex a W (by omega) h
    have c2 := fun W => rhex_any a W (by omega)
    have hl := hexL_len a.data.toList
    rw [show a.data.toList.length = a.size from rfl] at hl
    have hd : ∀ c, c ∈ hexL a.data.toList → _ := fun c h => hexL_digit h
    obtain ⟨B, hB⟩ : ∃ B : ByteArray, (⟨(hexL a.data.toList).toArray⟩ : ByteArray) = B := ⟨_, rfl⟩
    rw [hB] at c1 c2
    have hs : B.size = 2 * a.size := by rw [← hB, str_size]; exact hl
    have hg : ∀ k (h : k < B.size), (48 ≤ B[k].toNat ∧ B[k].toNat ≤ 57) ∨ (97 ≤ B[k].toNat ∧ B[k].toNat ≤ 102) := fun k h => hd _ (by subst hB; exact List.getElem_mem _)
    have hsz : ((B.size : Int) == 2 * (a.size : Int)) = true := by rw [beq_iff_eq]; omega
    clear hd hl
    have hsz := Lib.hid hsz
    have hg := Lib.hid hg
    have c1 := Lib.hid c1
    have c2 := Lib.hid c2
    have hBs : B.size ≤ 4000 := by omega
    clear hB
    go_enter Tryd.func7, Tryd.ntmps7
    go_wp2_with fail
    refine (alive_any D _ hL0).mono ?_
    rintro e w1 ⟨rfl, hb1⟩
    have hL := D.keep hL0 hb1
    go_wp2_with fail
    refine (c1.out _ hL).mono ?_
    rintro e w2 ⟨rfl, hb2⟩
    go_wp2
    go_loopw [4] (fun i wr => ∃ k d : Nat, k ≤ B.size ∧ i = .int .i64 k ∧ wr = w2.drewN d) (fun i _ => B.size - (intOf i).toNat)
    case atStart => exact ⟨0, 0, Nat.zero_le _, rfl, rfl⟩
    case round =>
      obtain ⟨k, d, hk, rfl, rfl⟩ := hrel
      by_cases hlt : k < B.size
      · have hk4 : k ≤ 4000 := by omega
        have i0 : (0 : Int) ≤ (k : Int) := by omega
        have i1 : (k : Int) < (B.size : Int) := by omega
        rcases hg.out k hlt with hc | hc
        · have t1 : decide ((B[k].toNat : Int) < 48) = false := decide_eq_false (by omega)
          have t2 : decide ((57 : Int) < (B[k].toNat : Int)) = false := decide_eq_false (by omega)
          go_wp2
          go_roundw
          case rel => exact ⟨k + 1, _, by omega, by go_num, rfl⟩
          case measure => simp [intOf]; omega
        · have t1 : decide ((B[k].toNat : Int) < 48) = false := decide_eq_false (by omega)
          have t2 : decide ((57 : Int) < (B[k].toNat : Int)) = true := decide_eq_true (by omega)
          have t3 : decide ((B[k].toNat : Int) < 97) = false := decide_eq_false (by omega)
          have t4 : decide ((102 : Int) < (B[k].toNat : Int)) = false := decide_eq_false (by omega)
          go_wp2
          go_roundw
          case rel => exact ⟨k + 1, _, by omega, by go_num, rfl⟩
          case measure => simp [intOf]; omega
      · go_wp2_with fail
        refine (c2.out _).mono ?_
        rintro e w3 ⟨rfl, n, rfl⟩
        go_wp2
        go_ret
        exact ⟨ret_bool rfl, chain (chain hb1 hb2) (chainN (Below.refl _ _) _)⟩
end Go.Proofs.YtkppepdniehoiaaDoor.B4
