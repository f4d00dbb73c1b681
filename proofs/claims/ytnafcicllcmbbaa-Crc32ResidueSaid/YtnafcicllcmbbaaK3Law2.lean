/- The walks of the laws Crc32Affine and Crc32Parts, under the package's contracts. -/
import Derived.Test.YtnafcicllcmbbaaK3Law1
namespace Go.Proofs.Ytnafcicllcmbbaa.K3
open Go.RowKit Mem
set_option linter.unusedVariables false
variable {L : World → Prop}

theorem sapp (a b : List UInt8) : (⟨a.toArray⟩ ++ ⟨b.toArray⟩ : ByteArray) = ⟨(a ++ b).toArray⟩ := by
  apply ByteArray.ext
  simp
theorem b8xr (x y : UInt8) : bits .xor .u8 (x.toNat : Int) (y.toNat : Int) = ((x ^^^ y).toNat : Int) := by
  rw [UInt8.toNat_xor]
  exact u8_xor_nat _ _ x.toNat_lt y.toNat_lt
theorem xz_len (l m : List UInt8) (h : l.length = m.length) : (xz l m).length = l.length := by simp [xz, h]
theorem xz_get (l m : List UInt8) (k : Nat) (h : k < (xz l m).length) (h1 : k < l.length) (h2 : k < m.length) : (xz l m)[k] = l[k] ^^^ m[k] := by simp [xz]

set_option maxHeartbeats 1000000 in
theorem xor_any (s t u : ByteArray) (w : World) (h1 : t.size = s.size) (h2 : u.size = s.size) (hs : s.size ≤ 1000) :
    Calls Try.prog 20 #[.string s, .string t, .string u] w fun e w' => e = .returned (.string ⟨(xz (xz s.data.toList t.data.toList) u.data.toList).toArray⟩) ∧ Below w.heap.size w w' := by
  have hl1 : s.data.toList.length = t.data.toList.length := h1.symm
  have hl2 : (xz s.data.toList t.data.toList).length = u.data.toList.length := by rw [xz_len _ _ hl1]; exact h2.symm
  obtain ⟨X, hX⟩ : ∃ X, xz (xz s.data.toList t.data.toList) u.data.toList = X := ⟨_, rfl⟩
  have hXl : X.length = s.size := by rw [← hX, xz_len _ _ hl2, xz_len _ _ hl1]; rfl
  have hXg : ∀ (k : Nat) (h : k < s.size), X.take (k + 1) = X.take k ++ [s[k] ^^^ t[k]'(by omega) ^^^ u[k]'(by omega)] := by
    intro k h
    rw [List.take_succ_eq_append_getElem (by omega)]
    congr 2
    subst hX
    rw [xz_get _ _ k _ (by rw [xz_len _ _ hl1]; exact h) (by show k < u.size; omega), xz_get _ _ k _ h (by show k < t.size; omega)]
    rfl
  rw [hX]
  have hXh := Lib.hid hXg
  clear hXg hX hl1 hl2
  go_enter Try.func20, Try.ntmps20
  go_wp2
  go_loopw [7, 8] (fun v i wr => ∃ k : Nat, k ≤ s.size ∧ i = .int .i64 k ∧ v = .string ⟨(X.take k).toArray⟩ ∧ Below w.heap.size w wr) (fun _ i _ => s.size - (intOf i).toNat)
  case atStart => exact ⟨0, Nat.zero_le _, rfl, rfl, Below.refl _ _⟩
  case round =>
    obtain ⟨k, hk, rfl, rfl, hb⟩ := hrel
    by_cases hlt : k < s.size
    · have ht : k < t.size := by omega
      have hu : k < u.size := by omega
      have hn := hXh.out k hlt
      have hx1 := b8xr s[k] t[k]
      obtain ⟨p, hp⟩ : ∃ p, s[k] ^^^ t[k] = p := ⟨_, rfl⟩
      rw [hp] at hx1 hn
      have hx2 := b8xr p u[k]
      obtain ⟨q, hq⟩ : ∃ q, p ^^^ u[k] = q := ⟨_, rfl⟩
      rw [hq] at hx2 hn
      have hn := Lib.hid hn
      have htk : (X.take k).length ≤ 1000 := Nat.le_trans (List.length_take_le _ _) (by omega)
      have i0 : (0 : Int) ≤ (k : Int) := by omega
      have i1 : (k : Int) < (s.size : Int) := by omega
      have i2 : (k : Int) < (t.size : Int) := by omega
      have i3 : (k : Int) < (u.size : Int) := by omega
      have hcv := conv_made_drew (P := Try.prog) wr (dst := 9) (n := 1) (l := [q]) rfl Try.underlying38 Try.underlying5 Try.underlying9 (cs := #[.int .u8 (q.toNat : Int)]) rfl
      clear hp hq
      go_wp2_with fail
      go_region
      go_wp2
      go_roundw
      case rel => exact ⟨k + 1, by omega, by go_num, by rw [hn.out, ← sapp], (hb.alloc hb.size _).drew⟩
      case measure => simp [intOf]; omega
    · have hfin := Lib.hid (show X.take k = X from List.take_of_length_le (by omega))
      go_wp2
      go_ret
      exact ⟨ret_string hfin.out, hb⟩

set_option maxHeartbeats 1000000 in
theorem walk_affine (D : Dev L) (s t u : ByteArray) (w : World) (hL0 : L w) (hs : s.size ≤ 140737488351232) (ht : t.size ≤ 140737488351232) (hu : u.size ≤ 140737488351232) :
    Calls Try.prog 7 #[.string s, .string t, .string u] w fun e w' => e = .returned (.bool true) ∧ Below w.heap.size w w' := by
  have split : (t.size < s.size ∧ t.size ≤ u.size) ∨ (t.size < s.size ∧ u.size < t.size) ∨ (s.size ≤ t.size ∧ s.size ≤ u.size) ∨ (s.size ≤ t.size ∧ u.size < s.size) := by omega
  rcases split with ⟨a1, a2⟩ | ⟨a1, a2⟩ | ⟨a1, a2⟩ | ⟨a1, a2⟩
  · obtain ⟨n, hn⟩ : ∃ n, t.size = n := ⟨_, rfl⟩
    have b2 : (t.size : Int) ≤ (u.size : Int) := by omega
    rw [hn] at a1 a2 b2
    by_cases h : n ≤ 100
    · have hd : decide ((100 : Int) < (n : Int)) = false := decide_eq_false (by omega)
      obtain ⟨S, hS⟩ : ∃ S, s.extract 0 n = S := ⟨_, rfl⟩
      obtain ⟨T, hT⟩ : ∃ T, t.extract 0 n = T := ⟨_, rfl⟩
      obtain ⟨U, hU⟩ : ∃ U, u.extract 0 n = U := ⟨_, rfl⟩
      have hSs : S.size = n := by rw [← hS]; simp; omega
      have hTs : T.size = n := by rw [← hT]; simp; omega
      have hUs : U.size = n := by rw [← hU]; simp; omega
      have c1 := fun W (h : L W) => sum1 D S W (by omega) h
      have c2 := fun W (h : L W) => sum1 D T W (by omega) h
      have c3 := fun W (h : L W) => sum1 D U W (by omega) h
      have c4 := Lib.hid (fun W => xor_any S T U W (by omega) (by omega) (by omega))
      obtain ⟨X, hX⟩ : ∃ X : List UInt8, xz (xz S.data.toList T.data.toList) U.data.toList = X := ⟨_, rfl⟩
      have hXl : X.length = n := by
        rw [← hX, xz_len _ _ (by rw [xz_len _ _ (by show S.size = T.size; omega)]; show S.size = U.size; omega), xz_len _ _ (by show S.size = T.size; omega)]
        exact hSs
      have c5 := fun W (h : L W) => sum1 D ⟨X.toArray⟩ W (by rw [str_size]; omega) h
      have haff := affine S.data.toList T.data.toList U.data.toList (by show S.size = T.size; omega) (by show T.size = U.size; omega)
      rw [hX] at c4 haff
      obtain ⟨p, hp⟩ : ∃ p, sumL S.data.toList = p := ⟨_, rfl⟩
      obtain ⟨q, hq⟩ : ∃ q, sumL T.data.toList = q := ⟨_, rfl⟩
      obtain ⟨r, hr⟩ : ∃ r, sumL U.data.toList = r := ⟨_, rfl⟩
      rw [hp, hq, hr] at haff
      rw [str_list, ← haff] at c5
      rw [hp] at c1
      rw [hq] at c2
      rw [hr] at c3
      have hx1 := bxr p q
      obtain ⟨pq, hpq⟩ : ∃ z, p ^^^ q = z := ⟨_, rfl⟩
      rw [hpq] at hx1 c5
      have hx2 := bxr pq r
      obtain ⟨z, hz⟩ : ∃ z, pq ^^^ r = z := ⟨_, rfl⟩
      rw [hz] at hx2 c5
      have c1 := Lib.hid c1
      have c2 := Lib.hid c2
      have c3 := Lib.hid c3
      have c5 := Lib.hid c5
      have hns : (n : Int) ≤ (s.size : Int) := by omega
      have hnt : (n : Int) ≤ (t.size : Int) := by omega
      have hnu : (n : Int) ≤ (u.size : Int) := by omega
      have hn0 : (0 : Int) ≤ (n : Int) := by omega
      clear hX hp hq hr hpq hz haff hSs hTs hUs hXl
      go_enter Try.func7, Try.ntmps7
      go_wp2_with fail
      go_quiet (fail)
      go_wp2_with fail
      refine (c1.out _ (D.drewN hL0 _)).mono ?_
      rintro e w1 ⟨rfl, hb1⟩
      have hL := D.keep (D.drewN hL0 _) hb1
      have hb1 := chain (chainN (Below.refl _ _) _) hb1
      go_wp2_with fail
      refine (c2.out _ hL).mono ?_
      rintro e w2 ⟨rfl, hb2⟩
      have hL := D.keep hL hb2
      go_wp2_with fail
      refine (c3.out _ hL).mono ?_
      rintro e w3 ⟨rfl, hb3⟩
      have hL := D.keep hL hb3
      go_wp2_with fail
      refine (c4.out _).mono ?_
      rintro e w4 ⟨rfl, hb4⟩
      have hL := D.keep hL hb4
      go_wp2_with fail
      refine (c5.out _ hL).mono ?_
      rintro e w5 ⟨rfl, hb5⟩
      have hL := D.keep hL hb5
      go_wp2_with fail
      refine (awake_any D _ hL).mono ?_
      rintro e w7 ⟨rfl, hb7⟩
      go_wp2
      go_ret
      exact ⟨rfl, chain (chain (chain (chain (chain hb1 hb2) hb3) hb4) hb5) hb7⟩
    · have hd : decide ((100 : Int) < (n : Int)) = true := decide_eq_true (by omega)
      go_enter Try.func7, Try.ntmps7
      go_wp2_with fail
      refine (awake_any D _ hL0).mono ?_
      rintro e w7 ⟨rfl, hb7⟩
      go_wp2
      go_ret
      exact ⟨rfl, hb7⟩
  · obtain ⟨n, hn⟩ : ∃ n, u.size = n := ⟨_, rfl⟩
    have b2 : ¬ ((t.size : Int) ≤ (u.size : Int)) := by omega
    rw [hn] at a2 b2
    by_cases h : n ≤ 100
    · have hd : decide ((100 : Int) < (n : Int)) = false := decide_eq_false (by omega)
      obtain ⟨S, hS⟩ : ∃ S, s.extract 0 n = S := ⟨_, rfl⟩
      obtain ⟨T, hT⟩ : ∃ T, t.extract 0 n = T := ⟨_, rfl⟩
      obtain ⟨U, hU⟩ : ∃ U, u.extract 0 n = U := ⟨_, rfl⟩
      have hSs : S.size = n := by rw [← hS]; simp; omega
      have hTs : T.size = n := by rw [← hT]; simp; omega
      have hUs : U.size = n := by rw [← hU]; simp; omega
      have c1 := fun W (h : L W) => sum1 D S W (by omega) h
      have c2 := fun W (h : L W) => sum1 D T W (by omega) h
      have c3 := fun W (h : L W) => sum1 D U W (by omega) h
      have c4 := Lib.hid (fun W => xor_any S T U W (by omega) (by omega) (by omega))
      obtain ⟨X, hX⟩ : ∃ X : List UInt8, xz (xz S.data.toList T.data.toList) U.data.toList = X := ⟨_, rfl⟩
      have hXl : X.length = n := by
        rw [← hX, xz_len _ _ (by rw [xz_len _ _ (by show S.size = T.size; omega)]; show S.size = U.size; omega), xz_len _ _ (by show S.size = T.size; omega)]
        exact hSs
      have c5 := fun W (h : L W) => sum1 D ⟨X.toArray⟩ W (by rw [str_size]; omega) h
      have haff := affine S.data.toList T.data.toList U.data.toList (by show S.size = T.size; omega) (by show T.size = U.size; omega)
      rw [hX] at c4 haff
      obtain ⟨p, hp⟩ : ∃ p, sumL S.data.toList = p := ⟨_, rfl⟩
      obtain ⟨q, hq⟩ : ∃ q, sumL T.data.toList = q := ⟨_, rfl⟩
      obtain ⟨r, hr⟩ : ∃ r, sumL U.data.toList = r := ⟨_, rfl⟩
      rw [hp, hq, hr] at haff
      rw [str_list, ← haff] at c5
      rw [hp] at c1
      rw [hq] at c2
      rw [hr] at c3
      have hx1 := bxr p q
      obtain ⟨pq, hpq⟩ : ∃ z, p ^^^ q = z := ⟨_, rfl⟩
      rw [hpq] at hx1 c5
      have hx2 := bxr pq r
      obtain ⟨z, hz⟩ : ∃ z, pq ^^^ r = z := ⟨_, rfl⟩
      rw [hz] at hx2 c5
      have c1 := Lib.hid c1
      have c2 := Lib.hid c2
      have c3 := Lib.hid c3
      have c5 := Lib.hid c5
      have hns : (n : Int) ≤ (s.size : Int) := by omega
      have hnt : (n : Int) ≤ (t.size : Int) := by omega
      have hnu : (n : Int) ≤ (u.size : Int) := by omega
      have hn0 : (0 : Int) ≤ (n : Int) := by omega
      clear hX hp hq hr hpq hz haff hSs hTs hUs hXl
      go_enter Try.func7, Try.ntmps7
      go_wp2_with fail
      go_quiet (fail)
      go_wp2_with fail
      refine (c1.out _ (D.drewN hL0 _)).mono ?_
      rintro e w1 ⟨rfl, hb1⟩
      have hL := D.keep (D.drewN hL0 _) hb1
      have hb1 := chain (chainN (Below.refl _ _) _) hb1
      go_wp2_with fail
      refine (c2.out _ hL).mono ?_
      rintro e w2 ⟨rfl, hb2⟩
      have hL := D.keep hL hb2
      go_wp2_with fail
      refine (c3.out _ hL).mono ?_
      rintro e w3 ⟨rfl, hb3⟩
      have hL := D.keep hL hb3
      go_wp2_with fail
      refine (c4.out _).mono ?_
      rintro e w4 ⟨rfl, hb4⟩
      have hL := D.keep hL hb4
      go_wp2_with fail
      refine (c5.out _ hL).mono ?_
      rintro e w5 ⟨rfl, hb5⟩
      have hL := D.keep hL hb5
      go_wp2_with fail
      refine (awake_any D _ hL).mono ?_
      rintro e w7 ⟨rfl, hb7⟩
      go_wp2
      go_ret
      exact ⟨rfl, chain (chain (chain (chain (chain hb1 hb2) hb3) hb4) hb5) hb7⟩
    · have hd : decide ((100 : Int) < (n : Int)) = true := decide_eq_true (by omega)
      go_enter Try.func7, Try.ntmps7
      go_wp2_with fail
      refine (awake_any D _ hL0).mono ?_
      rintro e w7 ⟨rfl, hb7⟩
      go_wp2
      go_ret
      exact ⟨rfl, hb7⟩
  · obtain ⟨n, hn⟩ : ∃ n, s.size = n := ⟨_, rfl⟩
    have b1 : ¬ t.size < s.size := by omega
    have b2 : (s.size : Int) ≤ (u.size : Int) := by omega
    rw [hn] at a1 a2 b1 b2
    by_cases h : n ≤ 100
    · have hd : decide ((100 : Int) < (n : Int)) = false := decide_eq_false (by omega)
      obtain ⟨S, hS⟩ : ∃ S, s.extract 0 n = S := ⟨_, rfl⟩
      obtain ⟨T, hT⟩ : ∃ T, t.extract 0 n = T := ⟨_, rfl⟩
      obtain ⟨U, hU⟩ : ∃ U, u.extract 0 n = U := ⟨_, rfl⟩
      have hSs : S.size = n := by rw [← hS]; simp; omega
      have hTs : T.size = n := by rw [← hT]; simp; omega
      have hUs : U.size = n := by rw [← hU]; simp; omega
      have c1 := fun W (h : L W) => sum1 D S W (by omega) h
      have c2 := fun W (h : L W) => sum1 D T W (by omega) h
      have c3 := fun W (h : L W) => sum1 D U W (by omega) h
      have c4 := Lib.hid (fun W => xor_any S T U W (by omega) (by omega) (by omega))
      obtain ⟨X, hX⟩ : ∃ X : List UInt8, xz (xz S.data.toList T.data.toList) U.data.toList = X := ⟨_, rfl⟩
      have hXl : X.length = n := by
        rw [← hX, xz_len _ _ (by rw [xz_len _ _ (by show S.size = T.size; omega)]; show S.size = U.size; omega), xz_len _ _ (by show S.size = T.size; omega)]
        exact hSs
      have c5 := fun W (h : L W) => sum1 D ⟨X.toArray⟩ W (by rw [str_size]; omega) h
      have haff := affine S.data.toList T.data.toList U.data.toList (by show S.size = T.size; omega) (by show T.size = U.size; omega)
      rw [hX] at c4 haff
      obtain ⟨p, hp⟩ : ∃ p, sumL S.data.toList = p := ⟨_, rfl⟩
      obtain ⟨q, hq⟩ : ∃ q, sumL T.data.toList = q := ⟨_, rfl⟩
      obtain ⟨r, hr⟩ : ∃ r, sumL U.data.toList = r := ⟨_, rfl⟩
      rw [hp, hq, hr] at haff
      rw [str_list, ← haff] at c5
      rw [hp] at c1
      rw [hq] at c2
      rw [hr] at c3
      have hx1 := bxr p q
      obtain ⟨pq, hpq⟩ : ∃ z, p ^^^ q = z := ⟨_, rfl⟩
      rw [hpq] at hx1 c5
      have hx2 := bxr pq r
      obtain ⟨z, hz⟩ : ∃ z, pq ^^^ r = z := ⟨_, rfl⟩
      rw [hz] at hx2 c5
      have c1 := Lib.hid c1
      have c2 := Lib.hid c2
      have c3 := Lib.hid c3
      have c5 := Lib.hid c5
      have hns : (n : Int) ≤ (s.size : Int) := by omega
      have hnt : (n : Int) ≤ (t.size : Int) := by omega
      have hnu : (n : Int) ≤ (u.size : Int) := by omega
      have hn0 : (0 : Int) ≤ (n : Int) := by omega
      clear hX hp hq hr hpq hz haff hSs hTs hUs hXl
      go_enter Try.func7, Try.ntmps7
      go_wp2_with fail
      go_quiet (fail)
      go_wp2_with fail
      refine (c1.out _ (D.drewN hL0 _)).mono ?_
      rintro e w1 ⟨rfl, hb1⟩
      have hL := D.keep (D.drewN hL0 _) hb1
      have hb1 := chain (chainN (Below.refl _ _) _) hb1
      go_wp2_with fail
      refine (c2.out _ hL).mono ?_
      rintro e w2 ⟨rfl, hb2⟩
      have hL := D.keep hL hb2
      go_wp2_with fail
      refine (c3.out _ hL).mono ?_
      rintro e w3 ⟨rfl, hb3⟩
      have hL := D.keep hL hb3
      go_wp2_with fail
      refine (c4.out _).mono ?_
      rintro e w4 ⟨rfl, hb4⟩
      have hL := D.keep hL hb4
      go_wp2_with fail
      refine (c5.out _ hL).mono ?_
      rintro e w5 ⟨rfl, hb5⟩
      have hL := D.keep hL hb5
      go_wp2_with fail
      refine (awake_any D _ hL).mono ?_
      rintro e w7 ⟨rfl, hb7⟩
      go_wp2
      go_ret
      exact ⟨rfl, chain (chain (chain (chain (chain hb1 hb2) hb3) hb4) hb5) hb7⟩
    · have hd : decide ((100 : Int) < (n : Int)) = true := decide_eq_true (by omega)
      go_enter Try.func7, Try.ntmps7
      go_wp2_with fail
      refine (awake_any D _ hL0).mono ?_
      rintro e w7 ⟨rfl, hb7⟩
      go_wp2
      go_ret
      exact ⟨rfl, hb7⟩
  · obtain ⟨n, hn⟩ : ∃ n, u.size = n := ⟨_, rfl⟩
    have b1 : ¬ t.size < s.size := by omega
    have b2 : ¬ ((s.size : Int) ≤ (u.size : Int)) := by omega
    rw [hn] at a2 b2
    by_cases h : n ≤ 100
    · have hd : decide ((100 : Int) < (n : Int)) = false := decide_eq_false (by omega)
      obtain ⟨S, hS⟩ : ∃ S, s.extract 0 n = S := ⟨_, rfl⟩
      obtain ⟨T, hT⟩ : ∃ T, t.extract 0 n = T := ⟨_, rfl⟩
      obtain ⟨U, hU⟩ : ∃ U, u.extract 0 n = U := ⟨_, rfl⟩
      have hSs : S.size = n := by rw [← hS]; simp; omega
      have hTs : T.size = n := by rw [← hT]; simp; omega
      have hUs : U.size = n := by rw [← hU]; simp; omega
      have c1 := fun W (h : L W) => sum1 D S W (by omega) h
      have c2 := fun W (h : L W) => sum1 D T W (by omega) h
      have c3 := fun W (h : L W) => sum1 D U W (by omega) h
      have c4 := Lib.hid (fun W => xor_any S T U W (by omega) (by omega) (by omega))
      obtain ⟨X, hX⟩ : ∃ X : List UInt8, xz (xz S.data.toList T.data.toList) U.data.toList = X := ⟨_, rfl⟩
      have hXl : X.length = n := by
        rw [← hX, xz_len _ _ (by rw [xz_len _ _ (by show S.size = T.size; omega)]; show S.size = U.size; omega), xz_len _ _ (by show S.size = T.size; omega)]
        exact hSs
      have c5 := fun W (h : L W) => sum1 D ⟨X.toArray⟩ W (by rw [str_size]; omega) h
      have haff := affine S.data.toList T.data.toList U.data.toList (by show S.size = T.size; omega) (by show T.size = U.size; omega)
      rw [hX] at c4 haff
      obtain ⟨p, hp⟩ : ∃ p, sumL S.data.toList = p := ⟨_, rfl⟩
      obtain ⟨q, hq⟩ : ∃ q, sumL T.data.toList = q := ⟨_, rfl⟩
      obtain ⟨r, hr⟩ : ∃ r, sumL U.data.toList = r := ⟨_, rfl⟩
      rw [hp, hq, hr] at haff
      rw [str_list, ← haff] at c5
      rw [hp] at c1
      rw [hq] at c2
      rw [hr] at c3
      have hx1 := bxr p q
      obtain ⟨pq, hpq⟩ : ∃ z, p ^^^ q = z := ⟨_, rfl⟩
      rw [hpq] at hx1 c5
      have hx2 := bxr pq r
      obtain ⟨z, hz⟩ : ∃ z, pq ^^^ r = z := ⟨_, rfl⟩
      rw [hz] at hx2 c5
      have c1 := Lib.hid c1
      have c2 := Lib.hid c2
      have c3 := Lib.hid c3
      have c5 := Lib.hid c5
      have hns : (n : Int) ≤ (s.size : Int) := by omega
      have hnt : (n : Int) ≤ (t.size : Int) := by omega
      have hnu : (n : Int) ≤ (u.size : Int) := by omega
      have hn0 : (0 : Int) ≤ (n : Int) := by omega
      clear hX hp hq hr hpq hz haff hSs hTs hUs hXl
      go_enter Try.func7, Try.ntmps7
      go_wp2_with fail
      go_quiet (fail)
      go_wp2_with fail
      refine (c1.out _ (D.drewN hL0 _)).mono ?_
      rintro e w1 ⟨rfl, hb1⟩
      have hL := D.keep (D.drewN hL0 _) hb1
      have hb1 := chain (chainN (Below.refl _ _) _) hb1
      go_wp2_with fail
      refine (c2.out _ hL).mono ?_
      rintro e w2 ⟨rfl, hb2⟩
      have hL := D.keep hL hb2
      go_wp2_with fail
      refine (c3.out _ hL).mono ?_
      rintro e w3 ⟨rfl, hb3⟩
      have hL := D.keep hL hb3
      go_wp2_with fail
      refine (c4.out _).mono ?_
      rintro e w4 ⟨rfl, hb4⟩
      have hL := D.keep hL hb4
      go_wp2_with fail
      refine (c5.out _ hL).mono ?_
      rintro e w5 ⟨rfl, hb5⟩
      have hL := D.keep hL hb5
      go_wp2_with fail
      refine (awake_any D _ hL).mono ?_
      rintro e w7 ⟨rfl, hb7⟩
      go_wp2
      go_ret
      exact ⟨rfl, chain (chain (chain (chain (chain hb1 hb2) hb3) hb4) hb5) hb7⟩
    · have hd : decide ((100 : Int) < (n : Int)) = true := decide_eq_true (by omega)
      go_enter Try.func7, Try.ntmps7
      go_wp2_with fail
      refine (awake_any D _ hL0).mono ?_
      rintro e w7 ⟨rfl, hb7⟩
      go_wp2
      go_ret
      exact ⟨rfl, hb7⟩
end Go.Proofs.Ytnafcicllcmbbaa.K3
