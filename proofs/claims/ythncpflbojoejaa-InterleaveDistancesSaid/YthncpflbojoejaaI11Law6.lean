/- The walk of the law InterleaveDistances, under the package's contracts and those of layer 1. -/
import Derived.Test.YthncpflbojoejaaI11Dev
import Derived.Test.YthncpflbojoejaaC1OwnDist
import Derived.Test.YthncpflbojoejaaC1OwnUnr
namespace Go.Proofs.Ythncpflbojoejaa.I11
open Go.RowKit Mem
set_option linter.unusedVariables false
set_option linter.unusedSimpArgs false

theorem ext_list (a : ByteArray) (n : Nat) : (a.extract 0 n).data.toList = a.data.toList.take n := by
  rw [ByteArray.data_extract, Array.toList_extract]
  simp [List.extract]
theorem ext_all (a : ByteArray) : a.extract 0 a.size = a := by
  refine str_eq ?_
  rw [ext_list]
  exact List.take_of_length_le (by simp)
theorem chk_ok {l : List UInt8} : C1.chk l = 0 ↔ l.all C1.okB = true := by
  unfold C1.chk
  split
  · next h => exact ⟨fun _ => h, fun _ => rfl⟩
  · next h => exact ⟨fun e => absurd e (by decide), fun e => absurd e h⟩
theorem chk_take {l : List UInt8} (h : C1.chk l = 0) (n : Nat) : C1.chk (l.take n) = 0 := by
  rw [chk_ok, List.all_eq_true] at *
  exact fun x hx => h x (List.mem_of_mem_take hx)
theorem chk_il {r : Nat} (hr : 1 ≤ r) {l : List UInt8} (h : C1.chk l = 0) : C1.chk (il r l) = 0 := by
  rw [chk_ok, List.all_eq_true] at *
  exact fun x hx => h x ((perm_il hr l).mem_iff.1 hx)
theorem dis_il {r : Nat} (hr : 1 ≤ r) (a b : List UInt8) (h : a.length = b.length) : C1.dis (il r a) (il r b) = C1.dis a b := by
  unfold C1.dis
  exact ((zip_il hr a b h).filter _).length_eq
theorem unr_il {r : Nat} (hr : 1 ≤ r) (a : List UInt8) : C1.unr (il r a) = C1.unr a := by
  unfold C1.unr
  exact ((perm_il hr a).filter _).length_eq
theorem iS_list (c : ByteArray) {r : Nat} (hr : 1 ≤ r) : (iS c (r : Int)).data.toList = il r c.data.toList := by rw [iS_at hr]
/-- What the law asks of the two strings, of equal length. -/
structure Facts (A B X Y : ByteArray) (d u : Nat) : Prop where
  n1 : C1.disN A.data.toList B.data.toList = (d : Int)
  e1 : C1.disE A.data.toList B.data.toList = 0
  n2 : C1.disN X.data.toList Y.data.toList = (d : Int)
  e2 : C1.disE X.data.toList Y.data.toList = 0
  u1 : C1.unr A.data.toList = u
  u2 : C1.unr X.data.toList = u
theorem facts {A B X Y : ByteArray} {r : Nat} (hr : 1 ≤ r) (ha : C1.chk A.data.toList = 0) (hb : C1.chk B.data.toList = 0) (hl : A.size = B.size) (hX : iS A (r : Int) = X) (hY : iS B (r : Int) = Y) : Facts A B X Y (C1.dis A.data.toList B.data.toList) (C1.unr A.data.toList) := by
  have lX := iS_list A hr
  have lY := iS_list B hr
  rw [hX] at lX
  rw [hY] at lY
  have hL : A.data.toList.length = B.data.toList.length := by rw [size_list, size_list, hl]
  have hL2 : (il r A.data.toList).length = (il r B.data.toList).length := by rw [il_len, il_len, hL]
  refine ⟨?_, C1.disE_eq ha hb hL, ?_, ?_, rfl, ?_⟩
  · unfold C1.disN
    rw [if_pos ⟨ha, hb, hL⟩]
  · unfold C1.disN
    rw [lX, lY, if_pos ⟨chk_il hr ha, chk_il hr hb, hL2⟩, dis_il hr _ _ hL]
  · rw [lX, lY]
    exact C1.disE_eq (chk_il hr ha) (chk_il hr hb) hL2
  · rw [lX, unr_il hr]
set_option maxRecDepth 100000 in
set_option maxHeartbeats 8000000 in
theorem walk_distances (D : Dev) (a b : ByteArray) (r : Int) (w : World) (ha : a.size ≤ 140737488351232) (hb0 : b.size ≤ 140737488351232) (wr : (Lit.int .i64 r).wf = true) :
    Calls Try.prog 10 #[.string a, .string b, .int .i64 r] w fun e w' => e = .returned (.bool true) ∧ Below w.heap.size w w' := by
  have cA := Lib.hid (fun W => awake_any D W)
  have kA := fun W => C1.check_wide a W ha
  have kB := fun W => C1.check_wide b W hb0
  obtain ⟨r1, r2⟩ : -9223372036854775808 ≤ r ∧ r ≤ 9223372036854775807 := (Lit.wf_int_iff .i64 _).1 wr
  clear wr
  have hmn : ∃ n, (n = b.size ∧ n < a.size) ∨ (n = a.size ∧ n ≤ b.size) := by
    by_cases h : b.size < a.size
    · exact ⟨_, .inl ⟨rfl, h⟩⟩
    · exact ⟨_, .inr ⟨rfl, by omega⟩⟩
  obtain ⟨n, hmn⟩ := hmn
  by_cases ok : n ≤ 900 ∧ 1 ≤ r ∧ C1.chk a.data.toList = 0 ∧ C1.chk b.data.toList = 0
  · obtain ⟨o1, o2, o3, o4⟩ := ok
    rw [o3] at kA
    rw [o4] at kB
    obtain ⟨R, rfl⟩ : ∃ I : Nat, r = I := ⟨r.toNat, by omega⟩
    have hR : 1 ≤ R := by omega
    have d2 : decide ((R : Int) < 1) = false := decide_eq_false (by omega)
    have sA : (a.extract 0 n).size = n := by rw [ByteArray.size_extract]; omega
    have sB : (b.extract 0 n).size = n := by rw [ByteArray.size_extract]; omega
    have hcA : C1.chk (a.extract 0 n).data.toList = 0 := by rw [ext_list]; exact chk_take o3 n
    have hcB : C1.chk (b.extract 0 n).data.toList = 0 := by rw [ext_list]; exact chk_take o4 n
    obtain ⟨A, hA⟩ : ∃ A, a.extract 0 n = A := ⟨_, rfl⟩
    obtain ⟨B, hB⟩ : ∃ A, b.extract 0 n = A := ⟨_, rfl⟩
    rw [hA] at sA hcA
    rw [hB] at sB hcB
    have sX := iS_size A hR
    have sY := iS_size B hR
    obtain ⟨X, hX⟩ : ∃ X, iS A (R : Int) = X := ⟨_, rfl⟩
    obtain ⟨Y, hY⟩ : ∃ X, iS B (R : Int) = X := ⟨_, rfl⟩
    have hF := facts hR hcA hcB (by rw [sA, sB]) hX hY
    rw [hX] at sX
    rw [hY] at sY
    obtain ⟨d, hd⟩ : ∃ d, C1.dis A.data.toList B.data.toList = d := ⟨_, rfl⟩
    obtain ⟨u, hu⟩ : ∃ d, C1.unr A.data.toList = d := ⟨_, rfl⟩
    rw [hd, hu] at hF
    have c1 := fun W => D.inter_as (c := A) (by omega) r1 r2 hX (p_ok hR) W
    have c2 := fun W => D.inter_as (c := B) (by omega) r1 r2 hY (p_ok hR) W
    have c3 := fun W => C1.distance_any A B W (by omega) (by omega)
    have c4 := fun W => C1.distance_any X Y W (by omega) (by omega)
    have c5 := fun W => C1.unreadable_any A W (by omega)
    have c6 := fun W => C1.unreadable_any X W (by omega)
    rw [hF.n1, hF.e1] at c3
    rw [hF.n2, hF.e2] at c4
    rw [hF.u1] at c5
    rw [hF.u2] at c6
    replace c1 := Lib.hid c1
    replace c2 := Lib.hid c2
    replace c3 := Lib.hid c3
    replace c4 := Lib.hid c4
    replace c5 := Lib.hid c5
    replace c6 := Lib.hid c6
    replace kA := Lib.hid kA
    replace kB := Lib.hid kB
    clear hF hX hY hd hu sX sY o2 o3 o4 hcA hcB sA sB
    have dn : decide ((900 : Int) < (n : Int)) = false := decide_eq_false (by omega)
    have dn' : decide (900 < n) = false := decide_eq_false (by omega)
    have n0 : (0 : Int) ≤ (n : Int) := by omega
    have na : (n : Int) ≤ (a.size : Int) := by omega
    have nb : (n : Int) ≤ (b.size : Int) := by omega
    rcases hmn with ⟨hn, hlt⟩ | ⟨hn, hle⟩
    all_goals
      first
        | have m1 : decide ((b.size : Int) < (a.size : Int)) = true := decide_eq_true (by omega)
        | have m1 : decide ((b.size : Int) < (a.size : Int)) = false := decide_eq_false (by omega)
      first
        | have m2 : b.size < a.size := by omega
        | have m2 : ¬ b.size < a.size := by omega
      subst hn
      first | rw [ext_all] at hA | rw [ext_all] at hB
      subst hA
      subst hB
      go_enter Try.func10, Try.ntmps10
      go_wp2_with (go_at_call 18; first | ((with_reducible refine (kA.out _).mono ?_); rintro e w' ⟨rfl, rfl⟩) | ((with_reducible refine (kB.out _).mono ?_); rintro e w' ⟨rfl, rfl⟩))
      with_reducible refine (c1.out _).mono ?_
      rintro e w1 ⟨rfl, hB⟩
      go_wp2_with fail
      with_reducible refine (c2.out _).mono ?_
      rintro e w2 ⟨rfl, hb⟩
      replace hB := chain hB hb
      clear hb c1 c2 kA kB
      go_wp2_with fail
      go_region_held3 (fun _ => True) (trivial) (first | (go_at_call 19; (with_reducible refine (c3.out _).mono ?_); rintro e w3 ⟨rfl, q3, rfl⟩))
      replace hB : Below w.heap.size w (w2.drewN (1 + q3)) := chainN hB _
      obtain ⟨W, hW⟩ : ∃ W, w2.drewN (1 + q3) = W := ⟨_, rfl⟩
      rw [hW] at hB ⊢
      clear hW c3
      go_wp2_with fail
      refine (c4.out _).mono ?_
      rintro e w4 ⟨rfl, q4, rfl⟩
      replace hB : Below w.heap.size w (W.drewN q4) := chainN hB _
      obtain ⟨W1, hW⟩ : ∃ W1, W.drewN q4 = W1 := ⟨_, rfl⟩
      rw [hW] at hB ⊢
      clear hW c4
      have keep0 := Below.refl W1.heap.size W1
      have keep1 : ∀ W, Below W1.heap.size W1 W → Below W1.heap.size W1 (World.drew W) := fun W h => chainN h 1
      have keep2 : ∀ W n, Below W1.heap.size W1 W → Below W1.heap.size W1 (World.drewN W n) := fun W n h => chainN h n
      go_wp2_with fail
      go_region_held3 (fun W => Below W1.heap.size W1 W) (first | exact keep0 | exact keep1 _ keep0 | exact chain ‹_› ‹_› | exact keep2 _ _ ‹_› | assumption) (first | (go_at_call 20; first | ((with_reducible refine (c5.out _).mono ?_); rintro e w' ⟨rfl, rfl⟩) | ((with_reducible refine (c6.out _).mono ?_); rintro e w' ⟨rfl, rfl⟩)) | (go_at_call 11; (with_reducible refine (cA.out _).mono ?_); rintro e3 w10 ⟨rfl, hb3⟩))
      go_wp2
      go_ret
      exact ⟨rfl, chain (chainN hB 1) hb3⟩
  · by_cases g1 : n ≤ 900
    · by_cases g2 : 1 ≤ r
      · rcases C1.chk_cases a.data.toList with g3 | g3
        · rcases C1.chk_cases b.data.toList with g4 | g4
          · exact absurd ⟨g1, g2, g3, g4⟩ ok
          · rw [g3] at kA
            rw [g4] at kB
            replace kA := Lib.hid kA
            replace kB := Lib.hid kB
            have dn : decide ((900 : Int) < (n : Int)) = false := decide_eq_false (by omega)
            have dn' : decide (900 < n) = false := decide_eq_false (by omega)
            have d2 : decide (r < 1) = false := decide_eq_false (by omega)
            clear ok g3 g4
            rcases hmn with ⟨hn, hlt⟩ | ⟨hn, hle⟩
            all_goals
              first
                | have m1 : decide ((b.size : Int) < (a.size : Int)) = true := decide_eq_true (by omega)
                | have m1 : decide ((b.size : Int) < (a.size : Int)) = false := decide_eq_false (by omega)
              first
                | have m2 : b.size < a.size := by omega
                | have m2 : ¬ b.size < a.size := by omega
              subst hn
              go_enter Try.func10, Try.ntmps10
              go_wp2_with (first | (go_at_call 18; first | ((with_reducible refine (kA.out _).mono ?_); rintro e w' ⟨rfl, rfl⟩) | ((with_reducible refine (kB.out _).mono ?_); rintro e w' ⟨rfl, rfl⟩)) | (go_at_call 11; (with_reducible refine (cA.out _).mono ?_); rintro e w5 ⟨rfl, hB⟩))
              go_ret
              exact ⟨rfl, hB⟩
        · rw [g3] at kA
          replace kA := Lib.hid kA
          replace kB := Lib.hid kB
          have dn : decide ((900 : Int) < (n : Int)) = false := decide_eq_false (by omega)
          have dn' : decide (900 < n) = false := decide_eq_false (by omega)
          have d2 : decide (r < 1) = false := decide_eq_false (by omega)
          clear ok g3
          rcases hmn with ⟨hn, hlt⟩ | ⟨hn, hle⟩
          all_goals
            first
              | have m1 : decide ((b.size : Int) < (a.size : Int)) = true := decide_eq_true (by omega)
              | have m1 : decide ((b.size : Int) < (a.size : Int)) = false := decide_eq_false (by omega)
            first
              | have m2 : b.size < a.size := by omega
              | have m2 : ¬ b.size < a.size := by omega
            subst hn
            go_enter Try.func10, Try.ntmps10
            go_wp2_with (first | (go_at_call 18; first | ((with_reducible refine (kA.out _).mono ?_); rintro e w' ⟨rfl, rfl⟩) | ((with_reducible refine (kB.out _).mono ?_); rintro e w' ⟨rfl, rfl⟩)) | (go_at_call 11; (with_reducible refine (cA.out _).mono ?_); rintro e w5 ⟨rfl, hB⟩))
            go_ret
            exact ⟨rfl, hB⟩
      · replace kA := Lib.hid kA
        replace kB := Lib.hid kB
        have dn : decide ((900 : Int) < (n : Int)) = false := decide_eq_false (by omega)
        have dn' : decide (900 < n) = false := decide_eq_false (by omega)
        have d2 : decide (r < 1) = true := decide_eq_true (by omega)
        clear ok
        rcases hmn with ⟨hn, hlt⟩ | ⟨hn, hle⟩
        all_goals
          first
            | have m1 : decide ((b.size : Int) < (a.size : Int)) = true := decide_eq_true (by omega)
            | have m1 : decide ((b.size : Int) < (a.size : Int)) = false := decide_eq_false (by omega)
          first
            | have m2 : b.size < a.size := by omega
            | have m2 : ¬ b.size < a.size := by omega
          subst hn
          go_enter Try.func10, Try.ntmps10
          go_wp2_with (first | (go_at_call 18; first | ((with_reducible refine (kA.out _).mono ?_); rintro e w' ⟨rfl, rfl⟩) | ((with_reducible refine (kB.out _).mono ?_); rintro e w' ⟨rfl, rfl⟩)) | (go_at_call 11; (with_reducible refine (cA.out _).mono ?_); rintro e w5 ⟨rfl, hB⟩))
          go_ret
          exact ⟨rfl, hB⟩
    · replace kA := Lib.hid kA
      replace kB := Lib.hid kB
      have dn : decide ((900 : Int) < (n : Int)) = true := decide_eq_true (by omega)
      have dn' : decide (900 < n) = true := decide_eq_true (by omega)
      clear ok
      rcases hmn with ⟨hn, hlt⟩ | ⟨hn, hle⟩
      all_goals
        first
          | have m1 : decide ((b.size : Int) < (a.size : Int)) = true := decide_eq_true (by omega)
          | have m1 : decide ((b.size : Int) < (a.size : Int)) = false := decide_eq_false (by omega)
        first
          | have m2 : b.size < a.size := by omega
          | have m2 : ¬ b.size < a.size := by omega
        subst hn
        go_enter Try.func10, Try.ntmps10
        go_wp2_with (first | (go_at_call 18; first | ((with_reducible refine (kA.out _).mono ?_); rintro e w' ⟨rfl, rfl⟩) | ((with_reducible refine (kB.out _).mono ?_); rintro e w' ⟨rfl, rfl⟩)) | (go_at_call 11; (with_reducible refine (cA.out _).mono ?_); rintro e w5 ⟨rfl, hB⟩))
        go_ret
        exact ⟨rfl, hB⟩
end Go.Proofs.Ythncpflbojoejaa.I11
