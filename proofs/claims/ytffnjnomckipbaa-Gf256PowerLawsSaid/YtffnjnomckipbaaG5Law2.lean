/- The walks of the laws Gf256Division, Gf256Exponents and Gf256Frobenius, under the package's contracts. -/
import Derived.Test.YtffnjnomckipbaaG5Dev
import Derived.Laws.OwnMore
namespace Go.Proofs.Ytffnjnomckipbaa.G5
open Go.RowKit Mem
set_option linter.unusedVariables false

theorem nz_is (x : R) : ((x.toNat : Int) != 0) = !(x == 0#8) := by rw [bne, bv_eq1 x 0#8 |> (show ((x.toNat : Int) == 0) = (x == 0#8) from ·)]
theorem z_is (x : R) : ((x.toNat : Int) == 0) = (x == 0#8) := bv_eq1 x 0#8
theorem tms_z (x y : R) : (tms x y == 0#8) = ((x == 0#8) || (y == 0#8)) := by
  rw [Bool.eq_iff_iff]
  simpa using tms_zero_iff x y
theorem ne_of {x : R} (h : (x == 0#8) = false) : x ≠ 0 := by simpa using h
theorem eq_of {x : R} (h : (x == 0#8) = true) : x = 0#8 := by simpa using h

set_option maxRecDepth 100000 in
set_option maxHeartbeats 1000000 in
theorem walk_division (D : Dev) (a b : Int) (w : World) (ha : (Lit.int .u8 a).wf = true) (hb : (Lit.int .u8 b).wf = true) :
    Calls Try.prog 6 #[.int .u8 a, .int .u8 b] w fun e w' => e = .returned (.bool true) ∧ Below w.heap.size w w' := by
  obtain ⟨x, rfl⟩ := u8_el ha
  obtain ⟨y, rfl⟩ := u8_el hb
  have c0 := Lib.hid (alive_any D)
  have c1 := D.mul x y
  have c2 := D.div (tms x y) y
  have hT0 := tms_z x y
  rw [← z_is] at hT0
  rcases hy : (y == 0#8) with _ | _
  · rcases hx : (x == 0#8) with _ | _
    · have hy0 : ((y.toNat : Int) == 0) = false := by rw [z_is]; exact hy
      have hy1 : ((y.toNat : Int) != 0) = true := by rw [nz_is, hy]; rfl
      have hx0 : ((x.toNat : Int) == 0) = false := by rw [z_is]; exact hx
      have hx1 : ((x.toNat : Int) != 0) = true := by rw [nz_is, hx]; rfl
      rw [hx, hy] at hT0
      rw [hy] at c2
      rw [dv_tms x (ne_of hy)] at c2
      obtain ⟨T, hT⟩ : ∃ T, tms x y = T := ⟨_, rfl⟩
      rw [hT] at c1 c2 hT0
      clear hT
      have c1 := Lib.hid c1
      have c2 := Lib.hid c2
      clear hx hy
      have hT0 : ((T.toNat : Int) == 0) = false := hT0
      go_enter Try.func6, Try.ntmps6
      go_wp2_with fail
      refine (c0.out _).mono ?_
      rintro e w1 ⟨rfl, b0⟩
      go_wp2_with fail
      refine (c1.out _).mono ?_
      rintro e w1 ⟨rfl, rfl⟩
      go_wp2_with fail
      refine (c2.out _).mono ?_
      rintro e w1 ⟨rfl, b2⟩
      go_wp2
      go_ret
      exact ⟨rfl, chain b0 b2⟩
    · have hy0 : ((y.toNat : Int) == 0) = false := by rw [z_is]; exact hy
      have hy1 : ((y.toNat : Int) != 0) = true := by rw [nz_is, hy]; rfl
      have hx0 : ((x.toNat : Int) == 0) = true := by rw [z_is]; exact hx
      have hx1 : ((x.toNat : Int) != 0) = false := by rw [nz_is, hx]; rfl
      rw [hx, hy] at hT0
      rw [hy] at c2
      rw [dv_tms x (ne_of hy)] at c2
      obtain ⟨T, hT⟩ : ∃ T, tms x y = T := ⟨_, rfl⟩
      rw [hT] at c1 c2 hT0
      clear hT
      have c1 := Lib.hid c1
      have c2 := Lib.hid c2
      clear hx hy
      have hT0 : ((T.toNat : Int) == 0) = true := hT0
      go_enter Try.func6, Try.ntmps6
      go_wp2_with fail
      refine (c0.out _).mono ?_
      rintro e w1 ⟨rfl, b0⟩
      go_wp2_with fail
      refine (c1.out _).mono ?_
      rintro e w1 ⟨rfl, rfl⟩
      go_wp2_with fail
      refine (c2.out _).mono ?_
      rintro e w1 ⟨rfl, b2⟩
      go_wp2
      go_ret
      exact ⟨rfl, chain b0 b2⟩
  · rcases hx : (x == 0#8) with _ | _
    · have hy0 : ((y.toNat : Int) == 0) = true := by rw [z_is]; exact hy
      have hy1 : ((y.toNat : Int) != 0) = false := by rw [nz_is, hy]; rfl
      have hx0 : ((x.toNat : Int) == 0) = false := by rw [z_is]; exact hx
      have hx1 : ((x.toNat : Int) != 0) = true := by rw [nz_is, hx]; rfl
      rw [hx, hy] at hT0
      rw [hy] at c2
      rw [show dv (tms x y) y = 0#8 from (by rw [eq_of hy]; rfl), show bv 0#8 = .int .u8 0 from rfl] at c2
      obtain ⟨T, hT⟩ : ∃ T, tms x y = T := ⟨_, rfl⟩
      rw [hT] at c1 c2 hT0
      clear hT
      have c1 := Lib.hid c1
      have c2 := Lib.hid c2
      clear hx hy
      have hT0 : ((T.toNat : Int) == 0) = true := hT0
      go_enter Try.func6, Try.ntmps6
      go_wp2_with fail
      refine (c0.out _).mono ?_
      rintro e w1 ⟨rfl, b0⟩
      go_wp2_with fail
      refine (c1.out _).mono ?_
      rintro e w1 ⟨rfl, rfl⟩
      go_wp2_with fail
      refine (c2.out _).mono ?_
      rintro e w1 ⟨rfl, b2⟩
      go_wp2
      go_ret
      exact ⟨rfl, chain b0 b2⟩
    · have hy0 : ((y.toNat : Int) == 0) = true := by rw [z_is]; exact hy
      have hy1 : ((y.toNat : Int) != 0) = false := by rw [nz_is, hy]; rfl
      have hx0 : ((x.toNat : Int) == 0) = true := by rw [z_is]; exact hx
      have hx1 : ((x.toNat : Int) != 0) = false := by rw [nz_is, hx]; rfl
      rw [hx, hy] at hT0
      rw [hy] at c2
      rw [show dv (tms x y) y = 0#8 from (by rw [eq_of hy]; rfl), show bv 0#8 = .int .u8 0 from rfl] at c2
      obtain ⟨T, hT⟩ : ∃ T, tms x y = T := ⟨_, rfl⟩
      rw [hT] at c1 c2 hT0
      clear hT
      have c1 := Lib.hid c1
      have c2 := Lib.hid c2
      clear hx hy
      have hT0 : ((T.toNat : Int) == 0) = true := hT0
      go_enter Try.func6, Try.ntmps6
      go_wp2_with fail
      refine (c0.out _).mono ?_
      rintro e w1 ⟨rfl, b0⟩
      go_wp2_with fail
      refine (c1.out _).mono ?_
      rintro e w1 ⟨rfl, rfl⟩
      go_wp2_with fail
      refine (c2.out _).mono ?_
      rintro e w1 ⟨rfl, b2⟩
      go_wp2
      go_ret
      exact ⟨rfl, chain b0 b2⟩

set_option maxRecDepth 100000 in
set_option maxHeartbeats 1000000 in
theorem walk_exponents (D : Dev) (m n a : Int) (w : World) (hm : (Lit.int .i32 m).wf = true) (hn : (Lit.int .i32 n).wf = true) (ha : (Lit.int .u8 a).wf = true) :
    Calls Try.prog 7 #[.int .i32 m, .int .i32 n, .int .u8 a] w fun e w' => e = .returned (.bool true) ∧ Below w.heap.size w w' := by
  obtain ⟨m1, m2⟩ := i32_in hm
  obtain ⟨n1, n2⟩ := i32_in hn
  obtain ⟨x, rfl⟩ := u8_el ha
  have c0 := Lib.hid (alive_any D)
  have c1 := fun W => D.exp (m + n) W (by omega) (by omega)
  have c2 := fun W => D.exp m W (by omega) (by omega)
  have c3 := fun W => D.exp n W (by omega) (by omega)
  have c4 := fun W => D.mul (ex m) (ex n) W
  rw [← ex_add] at c4
  have c5 := fun W => D.exp (m + 255) W (by omega) (by omega)
  rw [ex_period] at c5
  have hE0 : (((ex m).toNat : Int) == 0) = false := by
    rw [z_is, beq_eq_false_iff_ne]
    exact ex_ne m
  have c6 := fun W => D.log x W
  obtain ⟨G, hG⟩ : ∃ G, ex (m + n) = G := ⟨_, rfl⟩
  rw [hG] at c1 c4
  clear hG
  obtain ⟨E, hE⟩ : ∃ E, ex m = E := ⟨_, rfl⟩
  rw [hE] at c2 c4 c5 hE0
  clear hE
  obtain ⟨F, hF⟩ : ∃ F, ex n = F := ⟨_, rfl⟩
  rw [hF] at c3 c4
  clear hF
  have c1 := Lib.hid c1
  have c2 := Lib.hid c2
  have c3 := Lib.hid c3
  have c4 := Lib.hid c4
  have c5 := Lib.hid c5
  rcases hx : (x == 0#8) with _ | _
  · have hx0 : ((x.toNat : Int) == 0) = false := by rw [z_is]; exact hx
    have hx1 : ((x.toNat : Int) != 0) = true := by rw [nz_is, hx]; rfl
    rw [hx] at c6
    have hl : lo x = lg x := by unfold lo; rw [if_neg (ne_of hx)]
    have hlt := lg_lt (ne_of hx)
    have hg := ex_lg (ne_of hx)
    rw [hl] at c6
    obtain ⟨K, hK⟩ : ∃ K, lg x = K := ⟨_, rfl⟩
    rw [hK] at c6 hlt hg
    clear hK
    have k1 : (0 : Int) ≤ (K : Int) := by omega
    have k2 : (K : Int) < 255 := by omega
    have c7 := fun W => D.exp (K : Int) W (by omega) (by omega)
    rw [hg] at c7
    have c6 := Lib.hid c6
    have c7 := Lib.hid c7
    clear hx hl hg
    go_enter Try.func7, Try.ntmps7
    go_wp2_with fail
    refine (c0.out _).mono ?_
    rintro e w1 ⟨rfl, b0⟩
    go_wp2_with fail
    refine (c1.out _).mono ?_
    rintro e w1 ⟨rfl, b1⟩
    go_wp2_with fail
    refine (c2.out _).mono ?_
    rintro e w1 ⟨rfl, b2⟩
    go_wp2_with fail
    refine (c3.out _).mono ?_
    rintro e w1 ⟨rfl, b3⟩
    go_wp2_with fail
    refine (c4.out _).mono ?_
    rintro e w1 ⟨rfl, rfl⟩
    go_wp2_with fail
    refine (c5.out _).mono ?_
    rintro e w1 ⟨rfl, b5⟩
    go_wp2_with fail
    refine (c2.out _).mono ?_
    rintro e w1 ⟨rfl, b6⟩
    go_wp2_with fail
    refine (c2.out _).mono ?_
    rintro e w1 ⟨rfl, b7⟩
    go_wp2_with fail
    refine (c6.out _).mono ?_
    rintro e w1 ⟨rfl, rfl⟩
    go_wp2_with fail
    refine (c7.out _).mono ?_
    rintro e w1 ⟨rfl, b8⟩
    go_wp2
    go_ret
    exact ⟨rfl, chain (chain (chain (chain (chain (chain (chain b0 b1) b2) b3) b5) b6) b7) b8⟩
  · have hx0 : ((x.toNat : Int) == 0) = true := by rw [z_is]; exact hx
    have hx1 : ((x.toNat : Int) != 0) = false := by rw [nz_is, hx]; rfl
    rw [hx] at c6
    have hl : lo x = 0 := by unfold lo; rw [if_pos (show x = 0 from eq_of hx)]
    rw [hl] at c6
    have c6 := Lib.hid c6
    clear hx hl
    go_enter Try.func7, Try.ntmps7
    go_wp2_with fail
    refine (c0.out _).mono ?_
    rintro e w1 ⟨rfl, b0⟩
    go_wp2_with fail
    refine (c1.out _).mono ?_
    rintro e w1 ⟨rfl, b1⟩
    go_wp2_with fail
    refine (c2.out _).mono ?_
    rintro e w1 ⟨rfl, b2⟩
    go_wp2_with fail
    refine (c3.out _).mono ?_
    rintro e w1 ⟨rfl, b3⟩
    go_wp2_with fail
    refine (c4.out _).mono ?_
    rintro e w1 ⟨rfl, rfl⟩
    go_wp2_with fail
    refine (c5.out _).mono ?_
    rintro e w1 ⟨rfl, b5⟩
    go_wp2_with fail
    refine (c2.out _).mono ?_
    rintro e w1 ⟨rfl, b6⟩
    go_wp2_with fail
    refine (c2.out _).mono ?_
    rintro e w1 ⟨rfl, b7⟩
    go_wp2_with fail
    refine (c6.out _).mono ?_
    rintro e w1 ⟨rfl, rfl⟩
    go_wp2
    go_ret
    exact ⟨rfl, chain (chain (chain (chain (chain (chain b0 b1) b2) b3) b5) b6) b7⟩

set_option maxRecDepth 100000 in
set_option maxHeartbeats 1000000 in
theorem walk_frobenius (D : Dev) (a b : Int) (w : World) (ha : (Lit.int .u8 a).wf = true) (hb : (Lit.int .u8 b).wf = true) :
    Calls Try.prog 8 #[.int .u8 a, .int .u8 b] w fun e w' => e = .returned (.bool true) ∧ Below w.heap.size w w' := by
  obtain ⟨x, rfl⟩ := u8_el ha
  obtain ⟨y, rfl⟩ := u8_el hb
  have hk : ∀ z : R, pk z 2 = true := fun z => by unfold pk; rw [decide_eq_true (by decide), Bool.or_true]
  have hk2 : ∀ z : R, pk z 256 = true := fun z => by unfold pk; rw [decide_eq_true (by decide), Bool.or_true]
  have c0 := Lib.hid (alive_any D)
  have c1 := D.add x y
  have c2 := fun W => D.pow (x ^^^ y) 2 W (by decide) (by decide)
  rw [po_two, frob, hk] at c2
  have c3 := fun W => D.pow x 2 W (by decide) (by decide)
  rw [po_two, hk] at c3
  have c4 := fun W => D.pow y 2 W (by decide) (by decide)
  rw [po_two, hk] at c4
  have c5 := fun W => D.pow x 256 W (by decide) (by decide)
  rw [po_256, hk2] at c5
  have c6 := D.add (tms x x) (tms y y)
  have c7 := D.mul x x
  clear hk hk2
  obtain ⟨S, hS⟩ : ∃ S, x ^^^ y = S := ⟨_, rfl⟩
  rw [hS] at c1 c2
  clear hS
  obtain ⟨Z, hZ⟩ : ∃ Z, tms x x ^^^ tms y y = Z := ⟨_, rfl⟩
  rw [hZ] at c2 c6
  clear hZ
  obtain ⟨U, hU⟩ : ∃ U, tms x x = U := ⟨_, rfl⟩
  rw [hU] at c3 c6 c7
  clear hU
  obtain ⟨V, hV⟩ : ∃ V, tms y y = V := ⟨_, rfl⟩
  rw [hV] at c4 c6
  clear hV
  have c1 := Lib.hid c1
  have c2 := Lib.hid c2
  have c3 := Lib.hid c3
  have c4 := Lib.hid c4
  have c5 := Lib.hid c5
  have c6 := Lib.hid c6
  have c7 := Lib.hid c7
  go_enter Try.func8, Try.ntmps8
  go_wp2_with fail
  refine (c0.out _).mono ?_
  rintro e w1 ⟨rfl, b0⟩
  go_wp2_with fail
  refine (c1.out _).mono ?_
  rintro e w1 ⟨rfl, rfl⟩
  go_wp2_with fail
  refine (c2.out _).mono ?_
  rintro e w1 ⟨rfl, b2⟩
  go_wp2_with fail
  refine (c3.out _).mono ?_
  rintro e w1 ⟨rfl, b3⟩
  go_wp2_with fail
  refine (c4.out _).mono ?_
  rintro e w1 ⟨rfl, b4⟩
  go_wp2_with fail
  refine (c5.out _).mono ?_
  rintro e w1 ⟨rfl, b5⟩
  go_wp2_with fail
  refine (c6.out _).mono ?_
  rintro e w1 ⟨rfl, rfl⟩
  go_wp2_with fail
  refine (c7.out _).mono ?_
  rintro e w1 ⟨rfl, rfl⟩
  go_wp2
  go_ret
  exact ⟨rfl, chain (chain (chain (chain b0 b2) b3) b4) b5⟩
end Go.Proofs.Ytffnjnomckipbaa.G5
