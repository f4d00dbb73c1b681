/- MachineArithmetic, walked. -/
import Derived.Test.YtfdlgdgjbfoogaaDoorM17Alive
import Derived.Test.YtfdlgdgjbfoogaaDoorM17PAri
import Derived.Test.YtfdlgdgjbfoogaaDoorM17Lit
import Derived.Test.YtfdlgdgjbfoogaaDoorM17Law8
import Derived.Laws.BitsAllLaws
import Derived.Deep.Cut
namespace Go.Proofs.YtfdlgdgjbfoogaaDoor.M17
set_option maxRecDepth 100000
open Go.RowKit Mem
set_option linter.unusedVariables false
set_option linter.unusedSimpArgs false

theorem lit_len (n : Nat) (h : n < 4294967296) : (⟨((digs n).map UInt8.ofNat).toArray⟩ : ByteArray).size ≤ 10 := by
  show ((digs n).map UInt8.ofNat).toArray.size ≤ 10
  rw [List.size_toArray, List.length_map]
  exact digs_small n h
theorem lit_back (n : Nat) : (⟨((digs n).map UInt8.ofNat).toArray⟩ : ByteArray).data.toList.map UInt8.toNat = digs n := digs_back n
theorem ba_app (A B : ByteArray) : (A ++ B).data.toList = A.data.toList ++ B.data.toList := by simp
theorem ba_size (A B : ByteArray) : (A ++ B).size = A.size + B.size := by simp
/-- Four bytes just written down, as a string. -/
theorem four_conv (W : World) (a b c d : UInt8) : (convert 37 9 (.slice (some ⟨W.heap.size, 0, none⟩) 4 4)).run Tryd.prog (W.alloc (.cells #[.int .u8 (a.toNat : Int), .int .u8 (b.toNat : Int), .int .u8 (c.toNat : Int), .int .u8 (d.toNat : Int)] 5)) = .ok (.string ⟨#[a, b, c, d]⟩) (W.alloc (.cells #[.int .u8 (a.toNat : Int), .int .u8 (b.toNat : Int), .int .u8 (c.toNat : Int), .int .u8 (d.toNat : Int)] 5)) := by
  have h : BAt (W.alloc (.cells #[.int .u8 (a.toNat : Int), .int .u8 (b.toNat : Int), .int .u8 (c.toNat : Int), .int .u8 (d.toNat : Int)] 5)) W.heap.size [a, b, c, d] := by
    intro j hj
    have hb : Blk 5 (W.alloc (.cells #[.int .u8 (a.toNat : Int), .int .u8 (b.toNat : Int), .int .u8 (c.toNat : Int), .int .u8 (d.toNat : Int)] 5)) W.heap.size [.int .u8 (a.toNat : Int), .int .u8 (b.toNat : Int), .int .u8 (c.toNat : Int), .int .u8 (d.toNat : Int)] := Blk.new W _ _
    have hj' : j < 4 := by simpa using hj
    refine ⟨?_, hb.frz j⟩
    rw [hb.cell j]
    match j, hj' with
    | 0, _ => rfl
    | 1, _ => rfl
    | 2, _ => rfl
    | 3, _ => rfl
  exact h.conv rfl Tryd.underlying37 Tryd.underlying5 Tryd.underlying9
theorem four_conv' (W : World) (x : Obj) (a b c d : UInt8) : (convert 37 9 (.slice (some ⟨W.heap.size + 1, 0, none⟩) 4 4)).run Tryd.prog ((W.alloc x).alloc (.cells #[.int .u8 (a.toNat : Int), .int .u8 (b.toNat : Int), .int .u8 (c.toNat : Int), .int .u8 (d.toNat : Int)] 5)) = .ok (.string ⟨#[a, b, c, d]⟩) ((W.alloc x).alloc (.cells #[.int .u8 (a.toNat : Int), .int .u8 (b.toNat : Int), .int .u8 (c.toNat : Int), .int .u8 (d.toNat : Int)] 5)) := by
  have := four_conv (W.alloc x) a b c d
  rwa [World.size_alloc] at this
section
variable {a b : Nat} {y : UInt8} {w : World}
set_option maxHeartbeats 8000000 in
theorem arith_0 (ha : a < 4294967296) (hb : b < 4294967296) (hL : Laid w) (hj : y.toNat % 7 = 0) :
    Calls Tryd.prog 4 #[.int .u32 (a : Int), .int .u32 (b : Int), .int .u8 (y.toNat : Int)] w fun e w' => e = .returned (.bool true) ∧ Below w.heap.size w w' := by
  have cA := Lib.hid (alive_any w)
  have y1 : (0 : Int) ≤ (y.toNat : Int) := by omega
  have y2 : (y.toNat : Int) ≤ 255 := by have := UInt8.toNat_lt y; omega
  have t1 : (y.toNat : Int).tmod 7 = 0 := by rw [Int.tmod_eq_emod_of_nonneg (by omega)]; omega
  have t2 : (y.toNat : Int) % 7 = 0 := by omega
  have hsg : (ByteArray.mk #[43, 45, 42, 47, 37, 94, 60]).extract 0 1 = ⟨#[43]⟩ := by decide +kernel
  have cL1 := fun W (h : Laid W) => lit_any a ha W h
  have cL2 := fun W (h : Laid W) => lit_any b hb W h
  have l1 := lit_len a ha
  have l2 := lit_len b hb
  have k1 := lit_back a
  have k2 := lit_back b
  obtain ⟨D1, hD1⟩ : ∃ D : ByteArray, ⟨((digs a).map UInt8.ofNat).toArray⟩ = D := ⟨_, rfl⟩
  obtain ⟨D2, hD2⟩ : ∃ D : ByteArray, ⟨((digs b).map UInt8.ofNat).toArray⟩ = D := ⟨_, rfl⟩
  rw [hD1] at cL1 l1 k1
  rw [hD2] at cL2 l2 k2
  obtain ⟨M1, hM1⟩ : ∃ M : ByteArray, D1 ++ ⟨#[32]⟩ = M := ⟨_, rfl⟩
  obtain ⟨M2, hM2⟩ : ∃ M : ByteArray, M1 ++ D2 = M := ⟨_, rfl⟩
  obtain ⟨M3, hM3⟩ : ∃ M : ByteArray, M2 ++ ⟨#[43]⟩ = M := ⟨_, rfl⟩
  obtain ⟨M4, hM4⟩ : ∃ M : ByteArray, M3 ++ ⟨#[49, 48, 48, 48, 33, 49, 48, 48, 48, 64, 46, 49, 48, 48, 48, 64, 50, 53, 54, 47, 46, 49, 48, 48, 48, 64, 54, 53, 53, 51, 54, 47, 46, 49, 48, 48, 48, 64, 49, 54, 55, 55, 55, 50, 49, 54, 47, 46, 36]⟩ = M := ⟨_, rfl⟩
  have s1 : M1.size ≤ 11 := by rw [← hM1, ba_size, show (ByteArray.mk #[32]).size = 1 from rfl]; omega
  have s2 : M2.size ≤ 21 := by rw [← hM2, ba_size]; omega
  have s3 : M3.size ≤ 22 := by rw [← hM3, ba_size, show (ByteArray.mk #[43]).size = 1 from rfl]; omega
  have s4 : M4.size ≤ 71 := by rw [← hM4, ba_size, show (ByteArray.mk #[49, 48, 48, 48, 33, 49, 48, 48, 48, 64, 46, 49, 48, 48, 48, 64, 50, 53, 54, 47, 46, 49, 48, 48, 48, 64, 54, 53, 53, 51, 54, 47, 46, 49, 48, 48, 48, 64, 49, 54, 55, 55, 55, 50, 49, 54, 47, 46, 36]).size = 49 from rfl]; omega
  have hM : M4.data.toList.map UInt8.toNat = ariT a b 43 := by
    rw [← hM4, ba_app, ← hM3, ba_app, ← hM2, ba_app, ← hM1, ba_app, List.map_append, List.map_append, List.map_append, List.map_append, k1, k2]
    unfold ariT
    simp only [List.append_assoc]
    rfl
  obtain ⟨n, hn⟩ := ari_ans ha hb (c := 43) (by unfold Sgn; omega) M4 hM
  have cF := fun (W : World) => Run_own (txts_one W 500 M4 (fit_small _ _ (by decide) (by decide) (by omega))) (inp_none _) 500 200
  rw [hn] at cF
  replace cL1 := Lib.hid cL1
  replace cL2 := Lib.hid cL2
  replace hL := Lib.hid hL
  clear hD1 hD2 k1 k2 hM hn hj
  rcases Bool.eq_false_or_eq_true ((b : Int) == 0) with hb0 | hb0
  · obtain ⟨v, hv⟩ : ∃ v, (a + b) % 4294967296 = v := ⟨_, rfl⟩
    have e1 : ((a : Int) + (b : Int)) % 4294967296 = (v : Int) := by omega
    have hvl : v < 4294967296 := by omega
    rw [show op2 43 a b = some v from congrArg some hv] at cF
    unfold outV out4 at cF
    dsimp only at cF
    rw [show ((0 : Nat) : Int) = 0 from rfl] at cF
    obtain ⟨ns, hns⟩ : ∃ q : Int, (n : Int) = q := ⟨_, rfl⟩
    rw [hns] at cF
    have v0 : (0 : Int) ≤ (v : Int) := by omega
    have v1 : (v : Int) < 4294967296 := by omega
    obtain ⟨z0, hz0⟩ : ∃ z : UInt8, UInt8.ofNat v = z := ⟨_, rfl⟩
    obtain ⟨z1, hz1⟩ : ∃ z : UInt8, UInt8.ofNat (v / 256) = z := ⟨_, rfl⟩
    obtain ⟨z2, hz2⟩ : ∃ z : UInt8, UInt8.ofNat (v / 65536) = z := ⟨_, rfl⟩
    obtain ⟨z3, hz3⟩ : ∃ z : UInt8, UInt8.ofNat (v / 16777216) = z := ⟨_, rfl⟩
    have q0 : (v : Int) % 256 = (z0.toNat : Int) := by rw [← hz0]; simp
    have q1 : (v : Int) / 256 % 256 = (z1.toNat : Int) := by rw [← hz1]; simp
    have q2 : (v : Int) / 65536 % 256 = (z2.toNat : Int) := by rw [← hz2]; simp
    have q3 : (v : Int) / 16777216 % 256 = (z3.toNat : Int) := by rw [← hz3]; simp
    have p0 : IntKind.u8.wrap (v : Int) = (z0.toNat : Int) := by rw [IntKind.wrap_u8]; exact q0
    have p1 : IntKind.u8.wrap ((v : Int) / 256) = (z1.toNat : Int) := by rw [IntKind.wrap_u8]; exact q1
    have p2 : IntKind.u8.wrap ((v : Int) / 65536) = (z2.toNat : Int) := by rw [IntKind.wrap_u8]; exact q2
    have p3 : IntKind.u8.wrap ((v : Int) / 16777216) = (z3.toNat : Int) := by rw [IntKind.wrap_u8]; exact q3
    rw [hz0, hz1, hz2, hz3] at cF
    have cv := fun W x => four_conv' W x z0 z1 z2 z3
    obtain ⟨O, hO⟩ : ∃ O : ByteArray, ⟨#[z0, z1, z2, z3]⟩ = O := ⟨_, rfl⟩
    rw [hO] at cv
    rw [show (⟨[z0, z1, z2, z3].toArray⟩ : ByteArray) = O from hO] at cF
    have hOO : (O.toList == O.toList) = true := beq_self_eq_true _
    replace cF := Lib.hid cF
    clear hz0 hz1 hz2 hz3 hO hns hv
    go_enter Tryd.func4, Tryd.ntmps4
    go_wp2_with fail
    refine (cA.out).mono ?_
    rintro e w1 ⟨rfl, hb1⟩
    have hL1 := Lib.hid (hL.out.below hb1)
    replace hb1 := Lib.hid hb1
    go_wp2_with fail
    refine (cL1.out _ hL1.out).mono ?_
    rintro e w2 ⟨rfl, hb2⟩
    have hL2 := Lib.hid (hL1.out.below hb2)
    have hb3 := Lib.hid (chain hb1.out hb2)
    clear hb1 hb2 cA cL1 hL1 hL
    go_wp2_with fail
    refine (cL2.out _ hL2.out).mono ?_
    rintro e w3 ⟨rfl, hb4⟩
    have hb5 := Lib.hid (chain hb3.out hb4)
    clear hb3 hb4 cL2 hL2
    go_wp2_with fail
    refine (cF.out _).mono ?_
    rintro e w4 ⟨rfl, hb6⟩
    have hb7 := Lib.hid (chain hb5.out (chain (boxed w3 _) hb6))
    clear hb5 hb6 cF
    have hb8 := Lib.hid (hb7.out.trans ((boxed w4 (.cells #[.string O, .int .i64 0, .int .i64 ns] 31)).mono hb7.out.size))
    obtain ⟨d0, d1, d2⟩ := z3s (Blk.new w4 31 [.string O, .int .i64 0, .int .i64 ns])
    go_wp2
    first | go_ret | skip
    exact ⟨rfl, hb8.out.trans ((boxed _ _).mono (by first | exact hb8.out.size | (have := hb8.out.size; simp at this ⊢; omega)))⟩
  · obtain ⟨v, hv⟩ : ∃ v, (a + b) % 4294967296 = v := ⟨_, rfl⟩
    have e1 : ((a : Int) + (b : Int)) % 4294967296 = (v : Int) := by omega
    have hvl : v < 4294967296 := by omega
    rw [show op2 43 a b = some v from congrArg some hv] at cF
    unfold outV out4 at cF
    dsimp only at cF
    rw [show ((0 : Nat) : Int) = 0 from rfl] at cF
    obtain ⟨ns, hns⟩ : ∃ q : Int, (n : Int) = q := ⟨_, rfl⟩
    rw [hns] at cF
    have v0 : (0 : Int) ≤ (v : Int) := by omega
    have v1 : (v : Int) < 4294967296 := by omega
    obtain ⟨z0, hz0⟩ : ∃ z : UInt8, UInt8.ofNat v = z := ⟨_, rfl⟩
    obtain ⟨z1, hz1⟩ : ∃ z : UInt8, UInt8.ofNat (v / 256) = z := ⟨_, rfl⟩
    obtain ⟨z2, hz2⟩ : ∃ z : UInt8, UInt8.ofNat (v / 65536) = z := ⟨_, rfl⟩
    obtain ⟨z3, hz3⟩ : ∃ z : UInt8, UInt8.ofNat (v / 16777216) = z := ⟨_, rfl⟩
    have q0 : (v : Int) % 256 = (z0.toNat : Int) := by rw [← hz0]; simp
    have q1 : (v : Int) / 256 % 256 = (z1.toNat : Int) := by rw [← hz1]; simp
    have q2 : (v : Int) / 65536 % 256 = (z2.toNat : Int) := by rw [← hz2]; simp
    have q3 : (v : Int) / 16777216 % 256 = (z3.toNat : Int) := by rw [← hz3]; simp
    have p0 : IntKind.u8.wrap (v : Int) = (z0.toNat : Int) := by rw [IntKind.wrap_u8]; exact q0
    have p1 : IntKind.u8.wrap ((v : Int) / 256) = (z1.toNat : Int) := by rw [IntKind.wrap_u8]; exact q1
    have p2 : IntKind.u8.wrap ((v : Int) / 65536) = (z2.toNat : Int) := by rw [IntKind.wrap_u8]; exact q2
    have p3 : IntKind.u8.wrap ((v : Int) / 16777216) = (z3.toNat : Int) := by rw [IntKind.wrap_u8]; exact q3
    rw [hz0, hz1, hz2, hz3] at cF
    have cv := fun W x => four_conv' W x z0 z1 z2 z3
    obtain ⟨O, hO⟩ : ∃ O : ByteArray, ⟨#[z0, z1, z2, z3]⟩ = O := ⟨_, rfl⟩
    rw [hO] at cv
    rw [show (⟨[z0, z1, z2, z3].toArray⟩ : ByteArray) = O from hO] at cF
    have hOO : (O.toList == O.toList) = true := beq_self_eq_true _
    replace cF := Lib.hid cF
    clear hz0 hz1 hz2 hz3 hO hns hv
    go_enter Tryd.func4, Tryd.ntmps4
    go_wp2_with fail
    refine (cA.out).mono ?_
    rintro e w1 ⟨rfl, hb1⟩
    have hL1 := Lib.hid (hL.out.below hb1)
    replace hb1 := Lib.hid hb1
    go_wp2_with fail
    refine (cL1.out _ hL1.out).mono ?_
    rintro e w2 ⟨rfl, hb2⟩
    have hL2 := Lib.hid (hL1.out.below hb2)
    have hb3 := Lib.hid (chain hb1.out hb2)
    clear hb1 hb2 cA cL1 hL1 hL
    go_wp2_with fail
    refine (cL2.out _ hL2.out).mono ?_
    rintro e w3 ⟨rfl, hb4⟩
    have hb5 := Lib.hid (chain hb3.out hb4)
    clear hb3 hb4 cL2 hL2
    go_wp2_with fail
    refine (cF.out _).mono ?_
    rintro e w4 ⟨rfl, hb6⟩
    have hb7 := Lib.hid (chain hb5.out (chain (boxed w3 _) hb6))
    clear hb5 hb6 cF
    have hb8 := Lib.hid (hb7.out.trans ((boxed w4 (.cells #[.string O, .int .i64 0, .int .i64 ns] 31)).mono hb7.out.size))
    obtain ⟨d0, d1, d2⟩ := z3s (Blk.new w4 31 [.string O, .int .i64 0, .int .i64 ns])
    go_wp2
    first | go_ret | skip
    exact ⟨rfl, hb8.out.trans ((boxed _ _).mono (by first | exact hb8.out.size | (have := hb8.out.size; simp at this ⊢; omega)))⟩
set_option maxHeartbeats 8000000 in
theorem arith_1 (ha : a < 4294967296) (hb : b < 4294967296) (hL : Laid w) (hj : y.toNat % 7 = 1) :
    Calls Tryd.prog 4 #[.int .u32 (a : Int), .int .u32 (b : Int), .int .u8 (y.toNat : Int)] w fun e w' => e = .returned (.bool true) ∧ Below w.heap.size w w' := by
  have cA := Lib.hid (alive_any w)
  have y1 : (0 : Int) ≤ (y.toNat : Int) := by omega
  have y2 : (y.toNat : Int) ≤ 255 := by have := UInt8.toNat_lt y; omega
  have t1 : (y.toNat : Int).tmod 7 = 1 := by rw [Int.tmod_eq_emod_of_nonneg (by omega)]; omega
  have t2 : (y.toNat : Int) % 7 = 1 := by omega
  have hsg : (ByteArray.mk #[43, 45, 42, 47, 37, 94, 60]).extract 1 2 = ⟨#[45]⟩ := by decide +kernel
  have cL1 := fun W (h : Laid W) => lit_any a ha W h
  have cL2 := fun W (h : Laid W) => lit_any b hb W h
  have l1 := lit_len a ha
  have l2 := lit_len b hb
  have k1 := lit_back a
  have k2 := lit_back b
  obtain ⟨D1, hD1⟩ : ∃ D : ByteArray, ⟨((digs a).map UInt8.ofNat).toArray⟩ = D := ⟨_, rfl⟩
  obtain ⟨D2, hD2⟩ : ∃ D : ByteArray, ⟨((digs b).map UInt8.ofNat).toArray⟩ = D := ⟨_, rfl⟩
  rw [hD1] at cL1 l1 k1
  rw [hD2] at cL2 l2 k2
  obtain ⟨M1, hM1⟩ : ∃ M : ByteArray, D1 ++ ⟨#[32]⟩ = M := ⟨_, rfl⟩
  obtain ⟨M2, hM2⟩ : ∃ M : ByteArray, M1 ++ D2 = M := ⟨_, rfl⟩
  obtain ⟨M3, hM3⟩ : ∃ M : ByteArray, M2 ++ ⟨#[45]⟩ = M := ⟨_, rfl⟩
  obtain ⟨M4, hM4⟩ : ∃ M : ByteArray, M3 ++ ⟨#[49, 48, 48, 48, 33, 49, 48, 48, 48, 64, 46, 49, 48, 48, 48, 64, 50, 53, 54, 47, 46, 49, 48, 48, 48, 64, 54, 53, 53, 51, 54, 47, 46, 49, 48, 48, 48, 64, 49, 54, 55, 55, 55, 50, 49, 54, 47, 46, 36]⟩ = M := ⟨_, rfl⟩
  have s1 : M1.size ≤ 11 := by rw [← hM1, ba_size, show (ByteArray.mk #[32]).size = 1 from rfl]; omega
  have s2 : M2.size ≤ 21 := by rw [← hM2, ba_size]; omega
  have s3 : M3.size ≤ 22 := by rw [← hM3, ba_size, show (ByteArray.mk #[45]).size = 1 from rfl]; omega
  have s4 : M4.size ≤ 71 := by rw [← hM4, ba_size, show (ByteArray.mk #[49, 48, 48, 48, 33, 49, 48, 48, 48, 64, 46, 49, 48, 48, 48, 64, 50, 53, 54, 47, 46, 49, 48, 48, 48, 64, 54, 53, 53, 51, 54, 47, 46, 49, 48, 48, 48, 64, 49, 54, 55, 55, 55, 50, 49, 54, 47, 46, 36]).size = 49 from rfl]; omega
  have hM : M4.data.toList.map UInt8.toNat = ariT a b 45 := by
    rw [← hM4, ba_app, ← hM3, ba_app, ← hM2, ba_app, ← hM1, ba_app, List.map_append, List.map_append, List.map_append, List.map_append, k1, k2]
    unfold ariT
    simp only [List.append_assoc]
    rfl
  obtain ⟨n, hn⟩ := ari_ans ha hb (c := 45) (by unfold Sgn; omega) M4 hM
  have cF := fun (W : World) => Run_own (txts_one W 500 M4 (fit_small _ _ (by decide) (by decide) (by omega))) (inp_none _) 500 200
  rw [hn] at cF
  replace cL1 := Lib.hid cL1
  replace cL2 := Lib.hid cL2
  replace hL := Lib.hid hL
  clear hD1 hD2 k1 k2 hM hn hj
  rcases Bool.eq_false_or_eq_true ((b : Int) == 0) with hb0 | hb0
  · obtain ⟨v, hv⟩ : ∃ v, (a + 4294967296 - b) % 4294967296 = v := ⟨_, rfl⟩
    have e1 : ((a : Int) - (b : Int)) % 4294967296 = (v : Int) := by omega
    have hvl : v < 4294967296 := by omega
    rw [show op2 45 a b = some v from congrArg some hv] at cF
    unfold outV out4 at cF
    dsimp only at cF
    rw [show ((0 : Nat) : Int) = 0 from rfl] at cF
    obtain ⟨ns, hns⟩ : ∃ q : Int, (n : Int) = q := ⟨_, rfl⟩
    rw [hns] at cF
    have v0 : (0 : Int) ≤ (v : Int) := by omega
    have v1 : (v : Int) < 4294967296 := by omega
    obtain ⟨z0, hz0⟩ : ∃ z : UInt8, UInt8.ofNat v = z := ⟨_, rfl⟩
    obtain ⟨z1, hz1⟩ : ∃ z : UInt8, UInt8.ofNat (v / 256) = z := ⟨_, rfl⟩
    obtain ⟨z2, hz2⟩ : ∃ z : UInt8, UInt8.ofNat (v / 65536) = z := ⟨_, rfl⟩
    obtain ⟨z3, hz3⟩ : ∃ z : UInt8, UInt8.ofNat (v / 16777216) = z := ⟨_, rfl⟩
    have q0 : (v : Int) % 256 = (z0.toNat : Int) := by rw [← hz0]; simp
    have q1 : (v : Int) / 256 % 256 = (z1.toNat : Int) := by rw [← hz1]; simp
    have q2 : (v : Int) / 65536 % 256 = (z2.toNat : Int) := by rw [← hz2]; simp
    have q3 : (v : Int) / 16777216 % 256 = (z3.toNat : Int) := by rw [← hz3]; simp
    have p0 : IntKind.u8.wrap (v : Int) = (z0.toNat : Int) := by rw [IntKind.wrap_u8]; exact q0
    have p1 : IntKind.u8.wrap ((v : Int) / 256) = (z1.toNat : Int) := by rw [IntKind.wrap_u8]; exact q1
    have p2 : IntKind.u8.wrap ((v : Int) / 65536) = (z2.toNat : Int) := by rw [IntKind.wrap_u8]; exact q2
    have p3 : IntKind.u8.wrap ((v : Int) / 16777216) = (z3.toNat : Int) := by rw [IntKind.wrap_u8]; exact q3
    rw [hz0, hz1, hz2, hz3] at cF
    have cv := fun W x => four_conv' W x z0 z1 z2 z3
    obtain ⟨O, hO⟩ : ∃ O : ByteArray, ⟨#[z0, z1, z2, z3]⟩ = O := ⟨_, rfl⟩
    rw [hO] at cv
    rw [show (⟨[z0, z1, z2, z3].toArray⟩ : ByteArray) = O from hO] at cF
    have hOO : (O.toList == O.toList) = true := beq_self_eq_true _
    replace cF := Lib.hid cF
    clear hz0 hz1 hz2 hz3 hO hns hv
    go_enter Tryd.func4, Tryd.ntmps4
    go_wp2_with fail
    refine (cA.out).mono ?_
    rintro e w1 ⟨rfl, hb1⟩
    have hL1 := Lib.hid (hL.out.below hb1)
    replace hb1 := Lib.hid hb1
    go_wp2_with fail
    refine (cL1.out _ hL1.out).mono ?_
    rintro e w2 ⟨rfl, hb2⟩
    have hL2 := Lib.hid (hL1.out.below hb2)
    have hb3 := Lib.hid (chain hb1.out hb2)
    clear hb1 hb2 cA cL1 hL1 hL
    go_wp2_with fail
    refine (cL2.out _ hL2.out).mono ?_
    rintro e w3 ⟨rfl, hb4⟩
    have hb5 := Lib.hid (chain hb3.out hb4)
    clear hb3 hb4 cL2 hL2
    go_wp2_with fail
    refine (cF.out _).mono ?_
    rintro e w4 ⟨rfl, hb6⟩
    have hb7 := Lib.hid (chain hb5.out (chain (boxed w3 _) hb6))
    clear hb5 hb6 cF
    have hb8 := Lib.hid (hb7.out.trans ((boxed w4 (.cells #[.string O, .int .i64 0, .int .i64 ns] 31)).mono hb7.out.size))
    obtain ⟨d0, d1, d2⟩ := z3s (Blk.new w4 31 [.string O, .int .i64 0, .int .i64 ns])
    go_wp2
    first | go_ret | skip
    exact ⟨rfl, hb8.out.trans ((boxed _ _).mono (by first | exact hb8.out.size | (have := hb8.out.size; simp at this ⊢; omega)))⟩
  · obtain ⟨v, hv⟩ : ∃ v, (a + 4294967296 - b) % 4294967296 = v := ⟨_, rfl⟩
    have e1 : ((a : Int) - (b : Int)) % 4294967296 = (v : Int) := by omega
    have hvl : v < 4294967296 := by omega
    rw [show op2 45 a b = some v from congrArg some hv] at cF
    unfold outV out4 at cF
    dsimp only at cF
    rw [show ((0 : Nat) : Int) = 0 from rfl] at cF
    obtain ⟨ns, hns⟩ : ∃ q : Int, (n : Int) = q := ⟨_, rfl⟩
    rw [hns] at cF
    have v0 : (0 : Int) ≤ (v : Int) := by omega
    have v1 : (v : Int) < 4294967296 := by omega
    obtain ⟨z0, hz0⟩ : ∃ z : UInt8, UInt8.ofNat v = z := ⟨_, rfl⟩
    obtain ⟨z1, hz1⟩ : ∃ z : UInt8, UInt8.ofNat (v / 256) = z := ⟨_, rfl⟩
    obtain ⟨z2, hz2⟩ : ∃ z : UInt8, UInt8.ofNat (v / 65536) = z := ⟨_, rfl⟩
    obtain ⟨z3, hz3⟩ : ∃ z : UInt8, UInt8.ofNat (v / 16777216) = z := ⟨_, rfl⟩
    have q0 : (v : Int) % 256 = (z0.toNat : Int) := by rw [← hz0]; simp
    have q1 : (v : Int) / 256 % 256 = (z1.toNat : Int) := by rw [← hz1]; simp
    have q2 : (v : Int) / 65536 % 256 = (z2.toNat : Int) := by rw [← hz2]; simp
    have q3 : (v : Int) / 16777216 % 256 = (z3.toNat : Int) := by rw [← hz3]; simp
    have p0 : IntKind.u8.wrap (v : Int) = (z0.toNat : Int) := by rw [IntKind.wrap_u8]; exact q0
    have p1 : IntKind.u8.wrap ((v : Int) / 256) = (z1.toNat : Int) := by rw [IntKind.wrap_u8]; exact q1
    have p2 : IntKind.u8.wrap ((v : Int) / 65536) = (z2.toNat : Int) := by rw [IntKind.wrap_u8]; exact q2
    have p3 : IntKind.u8.wrap ((v : Int) / 16777216) = (z3.toNat : Int) := by rw [IntKind.wrap_u8]; exact q3
    rw [hz0, hz1, hz2, hz3] at cF
    have cv := fun W x => four_conv' W x z0 z1 z2 z3
    obtain ⟨O, hO⟩ : ∃ O : ByteArray, ⟨#[z0, z1, z2, z3]⟩ = O := ⟨_, rfl⟩
    rw [hO] at cv
    rw [show (⟨[z0, z1, z2, z3].toArray⟩ : ByteArray) = O from hO] at cF
    have hOO : (O.toList == O.toList) = true := beq_self_eq_true _
    replace cF := Lib.hid cF
    clear hz0 hz1 hz2 hz3 hO hns hv
    go_enter Tryd.func4, Tryd.ntmps4
    go_wp2_with fail
    refine (cA.out).mono ?_
    rintro e w1 ⟨rfl, hb1⟩
    have hL1 := Lib.hid (hL.out.below hb1)
    replace hb1 := Lib.hid hb1
    go_wp2_with fail
    refine (cL1.out _ hL1.out).mono ?_
    rintro e w2 ⟨rfl, hb2⟩
    have hL2 := Lib.hid (hL1.out.below hb2)
    have hb3 := Lib.hid (chain hb1.out hb2)
    clear hb1 hb2 cA cL1 hL1 hL
    go_wp2_with fail
    refine (cL2.out _ hL2.out).mono ?_
    rintro e w3 ⟨rfl, hb4⟩
    have hb5 := Lib.hid (chain hb3.out hb4)
    clear hb3 hb4 cL2 hL2
    go_wp2_with fail
    refine (cF.out _).mono ?_
    rintro e w4 ⟨rfl, hb6⟩
    have hb7 := Lib.hid (chain hb5.out (chain (boxed w3 _) hb6))
    clear hb5 hb6 cF
    have hb8 := Lib.hid (hb7.out.trans ((boxed w4 (.cells #[.string O, .int .i64 0, .int .i64 ns] 31)).mono hb7.out.size))
    obtain ⟨d0, d1, d2⟩ := z3s (Blk.new w4 31 [.string O, .int .i64 0, .int .i64 ns])
    go_wp2
    first | go_ret | skip
    exact ⟨rfl, hb8.out.trans ((boxed _ _).mono (by first | exact hb8.out.size | (have := hb8.out.size; simp at this ⊢; omega)))⟩
set_option maxHeartbeats 8000000 in
theorem arith_2 (ha : a < 4294967296) (hb : b < 4294967296) (hL : Laid w) (hj : y.toNat % 7 = 2) :
    Calls Tryd.prog 4 #[.int .u32 (a : Int), .int .u32 (b : Int), .int .u8 (y.toNat : Int)] w fun e w' => e = .returned (.bool true) ∧ Below w.heap.size w w' := by
  have cA := Lib.hid (alive_any w)
  have y1 : (0 : Int) ≤ (y.toNat : Int) := by omega
  have y2 : (y.toNat : Int) ≤ 255 := by have := UInt8.toNat_lt y; omega
  have t1 : (y.toNat : Int).tmod 7 = 2 := by rw [Int.tmod_eq_emod_of_nonneg (by omega)]; omega
  have t2 : (y.toNat : Int) % 7 = 2 := by omega
  have hsg : (ByteArray.mk #[43, 45, 42, 47, 37, 94, 60]).extract 2 3 = ⟨#[42]⟩ := by decide +kernel
  have cL1 := fun W (h : Laid W) => lit_any a ha W h
  have cL2 := fun W (h : Laid W) => lit_any b hb W h
  have l1 := lit_len a ha
  have l2 := lit_len b hb
  have k1 := lit_back a
  have k2 := lit_back b
  obtain ⟨D1, hD1⟩ : ∃ D : ByteArray, ⟨((digs a).map UInt8.ofNat).toArray⟩ = D := ⟨_, rfl⟩
  obtain ⟨D2, hD2⟩ : ∃ D : ByteArray, ⟨((digs b).map UInt8.ofNat).toArray⟩ = D := ⟨_, rfl⟩
  rw [hD1] at cL1 l1 k1
  rw [hD2] at cL2 l2 k2
  obtain ⟨M1, hM1⟩ : ∃ M : ByteArray, D1 ++ ⟨#[32]⟩ = M := ⟨_, rfl⟩
  obtain ⟨M2, hM2⟩ : ∃ M : ByteArray, M1 ++ D2 = M := ⟨_, rfl⟩
  obtain ⟨M3, hM3⟩ : ∃ M : ByteArray, M2 ++ ⟨#[42]⟩ = M := ⟨_, rfl⟩
  obtain ⟨M4, hM4⟩ : ∃ M : ByteArray, M3 ++ ⟨#[49, 48, 48, 48, 33, 49, 48, 48, 48, 64, 46, 49, 48, 48, 48, 64, 50, 53, 54, 47, 46, 49, 48, 48, 48, 64, 54, 53, 53, 51, 54, 47, 46, 49, 48, 48, 48, 64, 49, 54, 55, 55, 55, 50, 49, 54, 47, 46, 36]⟩ = M := ⟨_, rfl⟩
  have s1 : M1.size ≤ 11 := by rw [← hM1, ba_size, show (ByteArray.mk #[32]).size = 1 from rfl]; omega
  have s2 : M2.size ≤ 21 := by rw [← hM2, ba_size]; omega
  have s3 : M3.size ≤ 22 := by rw [← hM3, ba_size, show (ByteArray.mk #[42]).size = 1 from rfl]; omega
  have s4 : M4.size ≤ 71 := by rw [← hM4, ba_size, show (ByteArray.mk #[49, 48, 48, 48, 33, 49, 48, 48, 48, 64, 46, 49, 48, 48, 48, 64, 50, 53, 54, 47, 46, 49, 48, 48, 48, 64, 54, 53, 53, 51, 54, 47, 46, 49, 48, 48, 48, 64, 49, 54, 55, 55, 55, 50, 49, 54, 47, 46, 36]).size = 49 from rfl]; omega
  have hM : M4.data.toList.map UInt8.toNat = ariT a b 42 := by
    rw [← hM4, ba_app, ← hM3, ba_app, ← hM2, ba_app, ← hM1, ba_app, List.map_append, List.map_append, List.map_append, List.map_append, k1, k2]
    unfold ariT
    simp only [List.append_assoc]
    rfl
  obtain ⟨n, hn⟩ := ari_ans ha hb (c := 42) (by unfold Sgn; omega) M4 hM
  have cF := fun (W : World) => Run_own (txts_one W 500 M4 (fit_small _ _ (by decide) (by decide) (by omega))) (inp_none _) 500 200
  rw [hn] at cF
  replace cL1 := Lib.hid cL1
  replace cL2 := Lib.hid cL2
  replace hL := Lib.hid hL
  clear hD1 hD2 k1 k2 hM hn hj
  rcases Bool.eq_false_or_eq_true ((b : Int) == 0) with hb0 | hb0
  · obtain ⟨v, hv⟩ : ∃ v, a * b % 4294967296 = v := ⟨_, rfl⟩
    have e1 : ((a : Int) * (b : Int)) % 4294967296 = (v : Int) := by rw [← hv]; simp
    have hvl : v < 4294967296 := by rw [← hv]; exact Nat.mod_lt _ (by decide)
    rw [show op2 42 a b = some v from congrArg some hv] at cF
    unfold outV out4 at cF
    dsimp only at cF
    rw [show ((0 : Nat) : Int) = 0 from rfl] at cF
    obtain ⟨ns, hns⟩ : ∃ q : Int, (n : Int) = q := ⟨_, rfl⟩
    rw [hns] at cF
    have v0 : (0 : Int) ≤ (v : Int) := by omega
    have v1 : (v : Int) < 4294967296 := by omega
    obtain ⟨z0, hz0⟩ : ∃ z : UInt8, UInt8.ofNat v = z := ⟨_, rfl⟩
    obtain ⟨z1, hz1⟩ : ∃ z : UInt8, UInt8.ofNat (v / 256) = z := ⟨_, rfl⟩
    obtain ⟨z2, hz2⟩ : ∃ z : UInt8, UInt8.ofNat (v / 65536) = z := ⟨_, rfl⟩
    obtain ⟨z3, hz3⟩ : ∃ z : UInt8, UInt8.ofNat (v / 16777216) = z := ⟨_, rfl⟩
    have q0 : (v : Int) % 256 = (z0.toNat : Int) := by rw [← hz0]; simp
    have q1 : (v : Int) / 256 % 256 = (z1.toNat : Int) := by rw [← hz1]; simp
    have q2 : (v : Int) / 65536 % 256 = (z2.toNat : Int) := by rw [← hz2]; simp
    have q3 : (v : Int) / 16777216 % 256 = (z3.toNat : Int) := by rw [← hz3]; simp
    have p0 : IntKind.u8.wrap (v : Int) = (z0.toNat : Int) := by rw [IntKind.wrap_u8]; exact q0
    have p1 : IntKind.u8.wrap ((v : Int) / 256) = (z1.toNat : Int) := by rw [IntKind.wrap_u8]; exact q1
    have p2 : IntKind.u8.wrap ((v : Int) / 65536) = (z2.toNat : Int) := by rw [IntKind.wrap_u8]; exact q2
    have p3 : IntKind.u8.wrap ((v : Int) / 16777216) = (z3.toNat : Int) := by rw [IntKind.wrap_u8]; exact q3
    rw [hz0, hz1, hz2, hz3] at cF
    have cv := fun W x => four_conv' W x z0 z1 z2 z3
    obtain ⟨O, hO⟩ : ∃ O : ByteArray, ⟨#[z0, z1, z2, z3]⟩ = O := ⟨_, rfl⟩
    rw [hO] at cv
    rw [show (⟨[z0, z1, z2, z3].toArray⟩ : ByteArray) = O from hO] at cF
    have hOO : (O.toList == O.toList) = true := beq_self_eq_true _
    replace cF := Lib.hid cF
    clear hz0 hz1 hz2 hz3 hO hns hv
    go_enter Tryd.func4, Tryd.ntmps4
    go_wp2_with fail
    refine (cA.out).mono ?_
    rintro e w1 ⟨rfl, hb1⟩
    have hL1 := Lib.hid (hL.out.below hb1)
    replace hb1 := Lib.hid hb1
    go_wp2_with fail
    refine (cL1.out _ hL1.out).mono ?_
    rintro e w2 ⟨rfl, hb2⟩
    have hL2 := Lib.hid (hL1.out.below hb2)
    have hb3 := Lib.hid (chain hb1.out hb2)
    clear hb1 hb2 cA cL1 hL1 hL
    go_wp2_with fail
    refine (cL2.out _ hL2.out).mono ?_
    rintro e w3 ⟨rfl, hb4⟩
    have hb5 := Lib.hid (chain hb3.out hb4)
    clear hb3 hb4 cL2 hL2
    go_wp2_with fail
    refine (cF.out _).mono ?_
    rintro e w4 ⟨rfl, hb6⟩
    have hb7 := Lib.hid (chain hb5.out (chain (boxed w3 _) hb6))
    clear hb5 hb6 cF
    have hb8 := Lib.hid (hb7.out.trans ((boxed w4 (.cells #[.string O, .int .i64 0, .int .i64 ns] 31)).mono hb7.out.size))
    obtain ⟨d0, d1, d2⟩ := z3s (Blk.new w4 31 [.string O, .int .i64 0, .int .i64 ns])
    go_wp2
    first | go_ret | skip
    exact ⟨rfl, hb8.out.trans ((boxed _ _).mono (by first | exact hb8.out.size | (have := hb8.out.size; simp at this ⊢; omega)))⟩
  · obtain ⟨v, hv⟩ : ∃ v, a * b % 4294967296 = v := ⟨_, rfl⟩
    have e1 : ((a : Int) * (b : Int)) % 4294967296 = (v : Int) := by rw [← hv]; simp
    have hvl : v < 4294967296 := by rw [← hv]; exact Nat.mod_lt _ (by decide)
    rw [show op2 42 a b = some v from congrArg some hv] at cF
    unfold outV out4 at cF
    dsimp only at cF
    rw [show ((0 : Nat) : Int) = 0 from rfl] at cF
    obtain ⟨ns, hns⟩ : ∃ q : Int, (n : Int) = q := ⟨_, rfl⟩
    rw [hns] at cF
    have v0 : (0 : Int) ≤ (v : Int) := by omega
    have v1 : (v : Int) < 4294967296 := by omega
    obtain ⟨z0, hz0⟩ : ∃ z : UInt8, UInt8.ofNat v = z := ⟨_, rfl⟩
    obtain ⟨z1, hz1⟩ : ∃ z : UInt8, UInt8.ofNat (v / 256) = z := ⟨_, rfl⟩
    obtain ⟨z2, hz2⟩ : ∃ z : UInt8, UInt8.ofNat (v / 65536) = z := ⟨_, rfl⟩
    obtain ⟨z3, hz3⟩ : ∃ z : UInt8, UInt8.ofNat (v / 16777216) = z := ⟨_, rfl⟩
    have q0 : (v : Int) % 256 = (z0.toNat : Int) := by rw [← hz0]; simp
    have q1 : (v : Int) / 256 % 256 = (z1.toNat : Int) := by rw [← hz1]; simp
    have q2 : (v : Int) / 65536 % 256 = (z2.toNat : Int) := by rw [← hz2]; simp
    have q3 : (v : Int) / 16777216 % 256 = (z3.toNat : Int) := by rw [← hz3]; simp
    have p0 : IntKind.u8.wrap (v : Int) = (z0.toNat : Int) := by rw [IntKind.wrap_u8]; exact q0
    have p1 : IntKind.u8.wrap ((v : Int) / 256) = (z1.toNat : Int) := by rw [IntKind.wrap_u8]; exact q1
    have p2 : IntKind.u8.wrap ((v : Int) / 65536) = (z2.toNat : Int) := by rw [IntKind.wrap_u8]; exact q2
    have p3 : IntKind.u8.wrap ((v : Int) / 16777216) = (z3.toNat : Int) := by rw [IntKind.wrap_u8]; exact q3
    rw [hz0, hz1, hz2, hz3] at cF
    have cv := fun W x => four_conv' W x z0 z1 z2 z3
    obtain ⟨O, hO⟩ : ∃ O : ByteArray, ⟨#[z0, z1, z2, z3]⟩ = O := ⟨_, rfl⟩
    rw [hO] at cv
    rw [show (⟨[z0, z1, z2, z3].toArray⟩ : ByteArray) = O from hO] at cF
    have hOO : (O.toList == O.toList) = true := beq_self_eq_true _
    replace cF := Lib.hid cF
    clear hz0 hz1 hz2 hz3 hO hns hv
    go_enter Tryd.func4, Tryd.ntmps4
    go_wp2_with fail
    refine (cA.out).mono ?_
    rintro e w1 ⟨rfl, hb1⟩
    have hL1 := Lib.hid (hL.out.below hb1)
    replace hb1 := Lib.hid hb1
    go_wp2_with fail
    refine (cL1.out _ hL1.out).mono ?_
    rintro e w2 ⟨rfl, hb2⟩
    have hL2 := Lib.hid (hL1.out.below hb2)
    have hb3 := Lib.hid (chain hb1.out hb2)
    clear hb1 hb2 cA cL1 hL1 hL
    go_wp2_with fail
    refine (cL2.out _ hL2.out).mono ?_
    rintro e w3 ⟨rfl, hb4⟩
    have hb5 := Lib.hid (chain hb3.out hb4)
    clear hb3 hb4 cL2 hL2
    go_wp2_with fail
    refine (cF.out _).mono ?_
    rintro e w4 ⟨rfl, hb6⟩
    have hb7 := Lib.hid (chain hb5.out (chain (boxed w3 _) hb6))
    clear hb5 hb6 cF
    have hb8 := Lib.hid (hb7.out.trans ((boxed w4 (.cells #[.string O, .int .i64 0, .int .i64 ns] 31)).mono hb7.out.size))
    obtain ⟨d0, d1, d2⟩ := z3s (Blk.new w4 31 [.string O, .int .i64 0, .int .i64 ns])
    go_wp2
    first | go_ret | skip
    exact ⟨rfl, hb8.out.trans ((boxed _ _).mono (by first | exact hb8.out.size | (have := hb8.out.size; simp at this ⊢; omega)))⟩
set_option maxHeartbeats 8000000 in
theorem arith_3 (ha : a < 4294967296) (hb : b < 4294967296) (hL : Laid w) (hj : y.toNat % 7 = 3) :
    Calls Tryd.prog 4 #[.int .u32 (a : Int), .int .u32 (b : Int), .int .u8 (y.toNat : Int)] w fun e w' => e = .returned (.bool true) ∧ Below w.heap.size w w' := by
  have cA := Lib.hid (alive_any w)
  have y1 : (0 : Int) ≤ (y.toNat : Int) := by omega
  have y2 : (y.toNat : Int) ≤ 255 := by have := UInt8.toNat_lt y; omega
  have t1 : (y.toNat : Int).tmod 7 = 3 := by rw [Int.tmod_eq_emod_of_nonneg (by omega)]; omega
  have t2 : (y.toNat : Int) % 7 = 3 := by omega
  have hsg : (ByteArray.mk #[43, 45, 42, 47, 37, 94, 60]).extract 3 4 = ⟨#[47]⟩ := by decide +kernel
  have cL1 := fun W (h : Laid W) => lit_any a ha W h
  have cL2 := fun W (h : Laid W) => lit_any b hb W h
  have l1 := lit_len a ha
  have l2 := lit_len b hb
  have k1 := lit_back a
  have k2 := lit_back b
  obtain ⟨D1, hD1⟩ : ∃ D : ByteArray, ⟨((digs a).map UInt8.ofNat).toArray⟩ = D := ⟨_, rfl⟩
  obtain ⟨D2, hD2⟩ : ∃ D : ByteArray, ⟨((digs b).map UInt8.ofNat).toArray⟩ = D := ⟨_, rfl⟩
  rw [hD1] at cL1 l1 k1
  rw [hD2] at cL2 l2 k2
  obtain ⟨M1, hM1⟩ : ∃ M : ByteArray, D1 ++ ⟨#[32]⟩ = M := ⟨_, rfl⟩
  obtain ⟨M2, hM2⟩ : ∃ M : ByteArray, M1 ++ D2 = M := ⟨_, rfl⟩
  obtain ⟨M3, hM3⟩ : ∃ M : ByteArray, M2 ++ ⟨#[47]⟩ = M := ⟨_, rfl⟩
  obtain ⟨M4, hM4⟩ : ∃ M : ByteArray, M3 ++ ⟨#[49, 48, 48, 48, 33, 49, 48, 48, 48, 64, 46, 49, 48, 48, 48, 64, 50, 53, 54, 47, 46, 49, 48, 48, 48, 64, 54, 53, 53, 51, 54, 47, 46, 49, 48, 48, 48, 64, 49, 54, 55, 55, 55, 50, 49, 54, 47, 46, 36]⟩ = M := ⟨_, rfl⟩
  have s1 : M1.size ≤ 11 := by rw [← hM1, ba_size, show (ByteArray.mk #[32]).size = 1 from rfl]; omega
  have s2 : M2.size ≤ 21 := by rw [← hM2, ba_size]; omega
  have s3 : M3.size ≤ 22 := by rw [← hM3, ba_size, show (ByteArray.mk #[47]).size = 1 from rfl]; omega
  have s4 : M4.size ≤ 71 := by rw [← hM4, ba_size, show (ByteArray.mk #[49, 48, 48, 48, 33, 49, 48, 48, 48, 64, 46, 49, 48, 48, 48, 64, 50, 53, 54, 47, 46, 49, 48, 48, 48, 64, 54, 53, 53, 51, 54, 47, 46, 49, 48, 48, 48, 64, 49, 54, 55, 55, 55, 50, 49, 54, 47, 46, 36]).size = 49 from rfl]; omega
  have hM : M4.data.toList.map UInt8.toNat = ariT a b 47 := by
    rw [← hM4, ba_app, ← hM3, ba_app, ← hM2, ba_app, ← hM1, ba_app, List.map_append, List.map_append, List.map_append, List.map_append, k1, k2]
    unfold ariT
    simp only [List.append_assoc]
    rfl
  obtain ⟨n, hn⟩ := ari_ans ha hb (c := 47) (by unfold Sgn; omega) M4 hM
  have cF := fun (W : World) => Run_own (txts_one W 500 M4 (fit_small _ _ (by decide) (by decide) (by omega))) (inp_none _) 500 200
  rw [hn] at cF
  replace cL1 := Lib.hid cL1
  replace cL2 := Lib.hid cL2
  replace hL := Lib.hid hL
  clear hD1 hD2 k1 k2 hM hn hj
  by_cases hb0 : b = 0
  · subst hb0
    rw [show op2 47 a 0 = none from rfl] at cF
    rw [show ((0 : Nat) : Int) = 0 from rfl] at cL2 ⊢
    unfold outV at cF
    dsimp only at cF
    rw [show ((12 : Nat) : Int) = 12 from rfl] at cF
    obtain ⟨ns, hns⟩ : ∃ q : Int, (n : Int) = q := ⟨_, rfl⟩
    rw [hns] at cF
    replace cF := Lib.hid cF
    clear hns
    go_enter Tryd.func4, Tryd.ntmps4
    go_wp2_with fail
    refine (cA.out).mono ?_
    rintro e w1 ⟨rfl, hb1⟩
    have hL1 := Lib.hid (hL.out.below hb1)
    replace hb1 := Lib.hid hb1
    go_wp2_with fail
    refine (cL1.out _ hL1.out).mono ?_
    rintro e w2 ⟨rfl, hb2⟩
    have hL2 := Lib.hid (hL1.out.below hb2)
    have hb3 := Lib.hid (chain hb1.out hb2)
    clear hb1 hb2 cA cL1 hL1 hL
    go_wp2_with fail
    refine (cL2.out _ hL2.out).mono ?_
    rintro e w3 ⟨rfl, hb4⟩
    have hb5 := Lib.hid (chain hb3.out hb4)
    clear hb3 hb4 cL2 hL2
    go_wp2_with fail
    refine (cF.out _).mono ?_
    rintro e w4 ⟨rfl, hb6⟩
    have hb7 := Lib.hid (chain hb5.out (chain (boxed w3 _) hb6))
    clear hb5 hb6 cF
    go_wp2
    first | go_ret | skip
    exact ⟨rfl, hb7.out.trans ((boxed w4 _).mono hb7.out.size)⟩
  · obtain ⟨v, hv⟩ : ∃ v, a / b = v := ⟨_, rfl⟩
    have b0 : ((b : Int) == 0) = false := by simpa using hb0
    have b1 : ¬ (b : Int) = 0 := by omega
    have e0 : (a : Int) / (b : Int) = (v : Int) := by rw [← hv]; simp
    have e1 : (a : Int).tdiv (b : Int) = (v : Int) := by rw [← hv]; exact (Int.ofNat_tdiv a b).symm
    have hvl : v < 4294967296 := by rw [← hv]; exact Nat.lt_of_le_of_lt (Nat.div_le_self _ _) ha
    have e2 : IntKind.u32.wrap (v : Int) = (v : Int) := by rw [IntKind.wrap_u32]; omega
    have e3 : (v : Int) % 4294967296 = (v : Int) := by omega
    rw [show op2 47 a b = some v from (if_neg hb0).trans (congrArg some hv)] at cF
    unfold outV out4 at cF
    dsimp only at cF
    rw [show ((0 : Nat) : Int) = 0 from rfl] at cF
    obtain ⟨ns, hns⟩ : ∃ q : Int, (n : Int) = q := ⟨_, rfl⟩
    rw [hns] at cF
    have v0 : (0 : Int) ≤ (v : Int) := by omega
    have v1 : (v : Int) < 4294967296 := by omega
    obtain ⟨z0, hz0⟩ : ∃ z : UInt8, UInt8.ofNat v = z := ⟨_, rfl⟩
    obtain ⟨z1, hz1⟩ : ∃ z : UInt8, UInt8.ofNat (v / 256) = z := ⟨_, rfl⟩
    obtain ⟨z2, hz2⟩ : ∃ z : UInt8, UInt8.ofNat (v / 65536) = z := ⟨_, rfl⟩
    obtain ⟨z3, hz3⟩ : ∃ z : UInt8, UInt8.ofNat (v / 16777216) = z := ⟨_, rfl⟩
    have q0 : (v : Int) % 256 = (z0.toNat : Int) := by rw [← hz0]; simp
    have q1 : (v : Int) / 256 % 256 = (z1.toNat : Int) := by rw [← hz1]; simp
    have q2 : (v : Int) / 65536 % 256 = (z2.toNat : Int) := by rw [← hz2]; simp
    have q3 : (v : Int) / 16777216 % 256 = (z3.toNat : Int) := by rw [← hz3]; simp
    have p0 : IntKind.u8.wrap (v : Int) = (z0.toNat : Int) := by rw [IntKind.wrap_u8]; exact q0
    have p1 : IntKind.u8.wrap ((v : Int) / 256) = (z1.toNat : Int) := by rw [IntKind.wrap_u8]; exact q1
    have p2 : IntKind.u8.wrap ((v : Int) / 65536) = (z2.toNat : Int) := by rw [IntKind.wrap_u8]; exact q2
    have p3 : IntKind.u8.wrap ((v : Int) / 16777216) = (z3.toNat : Int) := by rw [IntKind.wrap_u8]; exact q3
    rw [hz0, hz1, hz2, hz3] at cF
    have cv := fun W x => four_conv' W x z0 z1 z2 z3
    obtain ⟨O, hO⟩ : ∃ O : ByteArray, ⟨#[z0, z1, z2, z3]⟩ = O := ⟨_, rfl⟩
    rw [hO] at cv
    rw [show (⟨[z0, z1, z2, z3].toArray⟩ : ByteArray) = O from hO] at cF
    have hOO : (O.toList == O.toList) = true := beq_self_eq_true _
    replace cF := Lib.hid cF
    clear hz0 hz1 hz2 hz3 hO hns hv
    go_enter Tryd.func4, Tryd.ntmps4
    go_wp2_with fail
    refine (cA.out).mono ?_
    rintro e w1 ⟨rfl, hb1⟩
    have hL1 := Lib.hid (hL.out.below hb1)
    replace hb1 := Lib.hid hb1
    go_wp2_with fail
    refine (cL1.out _ hL1.out).mono ?_
    rintro e w2 ⟨rfl, hb2⟩
    have hL2 := Lib.hid (hL1.out.below hb2)
    have hb3 := Lib.hid (chain hb1.out hb2)
    clear hb1 hb2 cA cL1 hL1 hL
    go_wp2_with fail
    refine (cL2.out _ hL2.out).mono ?_
    rintro e w3 ⟨rfl, hb4⟩
    have hb5 := Lib.hid (chain hb3.out hb4)
    clear hb3 hb4 cL2 hL2
    go_wp2_with fail
    refine (cF.out _).mono ?_
    rintro e w4 ⟨rfl, hb6⟩
    have hb7 := Lib.hid (chain hb5.out (chain (boxed w3 _) hb6))
    clear hb5 hb6 cF
    have hb8 := Lib.hid (hb7.out.trans ((boxed w4 (.cells #[.string O, .int .i64 0, .int .i64 ns] 31)).mono hb7.out.size))
    obtain ⟨d0, d1, d2⟩ := z3s (Blk.new w4 31 [.string O, .int .i64 0, .int .i64 ns])
    go_wp2
    first | go_ret | skip
    exact ⟨rfl, hb8.out.trans ((boxed _ _).mono (by first | exact hb8.out.size | (have := hb8.out.size; simp at this ⊢; omega)))⟩
set_option maxHeartbeats 8000000 in
theorem arith_4 (ha : a < 4294967296) (hb : b < 4294967296) (hL : Laid w) (hj : y.toNat % 7 = 4) :
    Calls Tryd.prog 4 #[.int .u32 (a : Int), .int .u32 (b : Int), .int .u8 (y.toNat : Int)] w fun e w' => e = .returned (.bool true) ∧ Below w.heap.size w w' := by
  have cA := Lib.hid (alive_any w)
  have y1 : (0 : Int) ≤ (y.toNat : Int) := by omega
  have y2 : (y.toNat : Int) ≤ 255 := by have := UInt8.toNat_lt y; omega
  have t1 : (y.toNat : Int).tmod 7 = 4 := by rw [Int.tmod_eq_emod_of_nonneg (by omega)]; omega
  have t2 : (y.toNat : Int) % 7 = 4 := by omega
  have hsg : (ByteArray.mk #[43, 45, 42, 47, 37, 94, 60]).extract 4 5 = ⟨#[37]⟩ := by decide +kernel
  have cL1 := fun W (h : Laid W) => lit_any a ha W h
  have cL2 := fun W (h : Laid W) => lit_any b hb W h
  have l1 := lit_len a ha
  have l2 := lit_len b hb
  have k1 := lit_back a
  have k2 := lit_back b
  obtain ⟨D1, hD1⟩ : ∃ D : ByteArray, ⟨((digs a).map UInt8.ofNat).toArray⟩ = D := ⟨_, rfl⟩
  obtain ⟨D2, hD2⟩ : ∃ D : ByteArray, ⟨((digs b).map UInt8.ofNat).toArray⟩ = D := ⟨_, rfl⟩
  rw [hD1] at cL1 l1 k1
  rw [hD2] at cL2 l2 k2
  obtain ⟨M1, hM1⟩ : ∃ M : ByteArray, D1 ++ ⟨#[32]⟩ = M := ⟨_, rfl⟩
  obtain ⟨M2, hM2⟩ : ∃ M : ByteArray, M1 ++ D2 = M := ⟨_, rfl⟩
  obtain ⟨M3, hM3⟩ : ∃ M : ByteArray, M2 ++ ⟨#[37]⟩ = M := ⟨_, rfl⟩
  obtain ⟨M4, hM4⟩ : ∃ M : ByteArray, M3 ++ ⟨#[49, 48, 48, 48, 33, 49, 48, 48, 48, 64, 46, 49, 48, 48, 48, 64, 50, 53, 54, 47, 46, 49, 48, 48, 48, 64, 54, 53, 53, 51, 54, 47, 46, 49, 48, 48, 48, 64, 49, 54, 55, 55, 55, 50, 49, 54, 47, 46, 36]⟩ = M := ⟨_, rfl⟩
  have s1 : M1.size ≤ 11 := by rw [← hM1, ba_size, show (ByteArray.mk #[32]).size = 1 from rfl]; omega
  have s2 : M2.size ≤ 21 := by rw [← hM2, ba_size]; omega
  have s3 : M3.size ≤ 22 := by rw [← hM3, ba_size, show (ByteArray.mk #[37]).size = 1 from rfl]; omega
  have s4 : M4.size ≤ 71 := by rw [← hM4, ba_size, show (ByteArray.mk #[49, 48, 48, 48, 33, 49, 48, 48, 48, 64, 46, 49, 48, 48, 48, 64, 50, 53, 54, 47, 46, 49, 48, 48, 48, 64, 54, 53, 53, 51, 54, 47, 46, 49, 48, 48, 48, 64, 49, 54, 55, 55, 55, 50, 49, 54, 47, 46, 36]).size = 49 from rfl]; omega
  have hM : M4.data.toList.map UInt8.toNat = ariT a b 37 := by
    rw [← hM4, ba_app, ← hM3, ba_app, ← hM2, ba_app, ← hM1, ba_app, List.map_append, List.map_append, List.map_append, List.map_append, k1, k2]
    unfold ariT
    simp only [List.append_assoc]
    rfl
  obtain ⟨n, hn⟩ := ari_ans ha hb (c := 37) (by unfold Sgn; omega) M4 hM
  have cF := fun (W : World) => Run_own (txts_one W 500 M4 (fit_small _ _ (by decide) (by decide) (by omega))) (inp_none _) 500 200
  rw [hn] at cF
  replace cL1 := Lib.hid cL1
  replace cL2 := Lib.hid cL2
  replace hL := Lib.hid hL
  clear hD1 hD2 k1 k2 hM hn hj
  by_cases hb0 : b = 0
  · subst hb0
    rw [show op2 37 a 0 = none from rfl] at cF
    rw [show ((0 : Nat) : Int) = 0 from rfl] at cL2 ⊢
    unfold outV at cF
    dsimp only at cF
    rw [show ((12 : Nat) : Int) = 12 from rfl] at cF
    obtain ⟨ns, hns⟩ : ∃ q : Int, (n : Int) = q := ⟨_, rfl⟩
    rw [hns] at cF
    replace cF := Lib.hid cF
    clear hns
    go_enter Tryd.func4, Tryd.ntmps4
    go_wp2_with fail
    refine (cA.out).mono ?_
    rintro e w1 ⟨rfl, hb1⟩
    have hL1 := Lib.hid (hL.out.below hb1)
    replace hb1 := Lib.hid hb1
    go_wp2_with fail
    refine (cL1.out _ hL1.out).mono ?_
    rintro e w2 ⟨rfl, hb2⟩
    have hL2 := Lib.hid (hL1.out.below hb2)
    have hb3 := Lib.hid (chain hb1.out hb2)
    clear hb1 hb2 cA cL1 hL1 hL
    go_wp2_with fail
    refine (cL2.out _ hL2.out).mono ?_
    rintro e w3 ⟨rfl, hb4⟩
    have hb5 := Lib.hid (chain hb3.out hb4)
    clear hb3 hb4 cL2 hL2
    go_wp2_with fail
    refine (cF.out _).mono ?_
    rintro e w4 ⟨rfl, hb6⟩
    have hb7 := Lib.hid (chain hb5.out (chain (boxed w3 _) hb6))
    clear hb5 hb6 cF
    go_wp2
    first | go_ret | skip
    exact ⟨rfl, hb7.out.trans ((boxed w4 _).mono hb7.out.size)⟩
  · obtain ⟨v, hv⟩ : ∃ v, a % b = v := ⟨_, rfl⟩
    have b0 : ((b : Int) == 0) = false := by simpa using hb0
    have b1 : ¬ (b : Int) = 0 := by omega
    have e0 : (a : Int) % (b : Int) = (v : Int) := by rw [← hv]; simp
    have e1 : (a : Int).tmod (b : Int) = (v : Int) := by rw [← hv]; exact (Int.ofNat_tmod a b).symm
    have hvl : v < 4294967296 := by rw [← hv]; exact Nat.lt_of_le_of_lt (Nat.mod_le _ _) ha
    have e2 : IntKind.u32.wrap (v : Int) = (v : Int) := by rw [IntKind.wrap_u32]; omega
    have e3 : (v : Int) % 4294967296 = (v : Int) := by omega
    rw [show op2 37 a b = some v from (if_neg hb0).trans (congrArg some hv)] at cF
    unfold outV out4 at cF
    dsimp only at cF
    rw [show ((0 : Nat) : Int) = 0 from rfl] at cF
    obtain ⟨ns, hns⟩ : ∃ q : Int, (n : Int) = q := ⟨_, rfl⟩
    rw [hns] at cF
    have v0 : (0 : Int) ≤ (v : Int) := by omega
    have v1 : (v : Int) < 4294967296 := by omega
    obtain ⟨z0, hz0⟩ : ∃ z : UInt8, UInt8.ofNat v = z := ⟨_, rfl⟩
    obtain ⟨z1, hz1⟩ : ∃ z : UInt8, UInt8.ofNat (v / 256) = z := ⟨_, rfl⟩
    obtain ⟨z2, hz2⟩ : ∃ z : UInt8, UInt8.ofNat (v / 65536) = z := ⟨_, rfl⟩
    obtain ⟨z3, hz3⟩ : ∃ z : UInt8, UInt8.ofNat (v / 16777216) = z := ⟨_, rfl⟩
    have q0 : (v : Int) % 256 = (z0.toNat : Int) := by rw [← hz0]; simp
    have q1 : (v : Int) / 256 % 256 = (z1.toNat : Int) := by rw [← hz1]; simp
    have q2 : (v : Int) / 65536 % 256 = (z2.toNat : Int) := by rw [← hz2]; simp
    have q3 : (v : Int) / 16777216 % 256 = (z3.toNat : Int) := by rw [← hz3]; simp
    have p0 : IntKind.u8.wrap (v : Int) = (z0.toNat : Int) := by rw [IntKind.wrap_u8]; exact q0
    have p1 : IntKind.u8.wrap ((v : Int) / 256) = (z1.toNat : Int) := by rw [IntKind.wrap_u8]; exact q1
    have p2 : IntKind.u8.wrap ((v : Int) / 65536) = (z2.toNat : Int) := by rw [IntKind.wrap_u8]; exact q2
    have p3 : IntKind.u8.wrap ((v : Int) / 16777216) = (z3.toNat : Int) := by rw [IntKind.wrap_u8]; exact q3
    rw [hz0, hz1, hz2, hz3] at cF
    have cv := fun W x => four_conv' W x z0 z1 z2 z3
    obtain ⟨O, hO⟩ : ∃ O : ByteArray, ⟨#[z0, z1, z2, z3]⟩ = O := ⟨_, rfl⟩
    rw [hO] at cv
    rw [show (⟨[z0, z1, z2, z3].toArray⟩ : ByteArray) = O from hO] at cF
    have hOO : (O.toList == O.toList) = true := beq_self_eq_true _
    replace cF := Lib.hid cF
    clear hz0 hz1 hz2 hz3 hO hns hv
    go_enter Tryd.func4, Tryd.ntmps4
    go_wp2_with fail
    refine (cA.out).mono ?_
    rintro e w1 ⟨rfl, hb1⟩
    have hL1 := Lib.hid (hL.out.below hb1)
    replace hb1 := Lib.hid hb1
    go_wp2_with fail
    refine (cL1.out _ hL1.out).mono ?_
    rintro e w2 ⟨rfl, hb2⟩
    have hL2 := Lib.hid (hL1.out.below hb2)
    have hb3 := Lib.hid (chain hb1.out hb2)
    clear hb1 hb2 cA cL1 hL1 hL
    go_wp2_with fail
    refine (cL2.out _ hL2.out).mono ?_
    rintro e w3 ⟨rfl, hb4⟩
    have hb5 := Lib.hid (chain hb3.out hb4)
    clear hb3 hb4 cL2 hL2
    go_wp2_with fail
    refine (cF.out _).mono ?_
    rintro e w4 ⟨rfl, hb6⟩
    have hb7 := Lib.hid (chain hb5.out (chain (boxed w3 _) hb6))
    clear hb5 hb6 cF
    have hb8 := Lib.hid (hb7.out.trans ((boxed w4 (.cells #[.string O, .int .i64 0, .int .i64 ns] 31)).mono hb7.out.size))
    obtain ⟨d0, d1, d2⟩ := z3s (Blk.new w4 31 [.string O, .int .i64 0, .int .i64 ns])
    go_wp2
    first | go_ret | skip
    exact ⟨rfl, hb8.out.trans ((boxed _ _).mono (by first | exact hb8.out.size | (have := hb8.out.size; simp at this ⊢; omega)))⟩
set_option maxHeartbeats 8000000 in
theorem arith_5 (ha : a < 4294967296) (hb : b < 4294967296) (hL : Laid w) (hj : y.toNat % 7 = 5) :
    Calls Tryd.prog 4 #[.int .u32 (a : Int), .int .u32 (b : Int), .int .u8 (y.toNat : Int)] w fun e w' => e = .returned (.bool true) ∧ Below w.heap.size w w' := by
  have cA := Lib.hid (alive_any w)
  have y1 : (0 : Int) ≤ (y.toNat : Int) := by omega
  have y2 : (y.toNat : Int) ≤ 255 := by have := UInt8.toNat_lt y; omega
  have t1 : (y.toNat : Int).tmod 7 = 5 := by rw [Int.tmod_eq_emod_of_nonneg (by omega)]; omega
  have t2 : (y.toNat : Int) % 7 = 5 := by omega
  have hsg : (ByteArray.mk #[43, 45, 42, 47, 37, 94, 60]).extract 5 6 = ⟨#[94]⟩ := by decide +kernel
  have cL1 := fun W (h : Laid W) => lit_any a ha W h
  have cL2 := fun W (h : Laid W) => lit_any b hb W h
  have l1 := lit_len a ha
  have l2 := lit_len b hb
  have k1 := lit_back a
  have k2 := lit_back b
  obtain ⟨D1, hD1⟩ : ∃ D : ByteArray, ⟨((digs a).map UInt8.ofNat).toArray⟩ = D := ⟨_, rfl⟩
  obtain ⟨D2, hD2⟩ : ∃ D : ByteArray, ⟨((digs b).map UInt8.ofNat).toArray⟩ = D := ⟨_, rfl⟩
  rw [hD1] at cL1 l1 k1
  rw [hD2] at cL2 l2 k2
  obtain ⟨M1, hM1⟩ : ∃ M : ByteArray, D1 ++ ⟨#[32]⟩ = M := ⟨_, rfl⟩
  obtain ⟨M2, hM2⟩ : ∃ M : ByteArray, M1 ++ D2 = M := ⟨_, rfl⟩
  obtain ⟨M3, hM3⟩ : ∃ M : ByteArray, M2 ++ ⟨#[94]⟩ = M := ⟨_, rfl⟩
  obtain ⟨M4, hM4⟩ : ∃ M : ByteArray, M3 ++ ⟨#[49, 48, 48, 48, 33, 49, 48, 48, 48, 64, 46, 49, 48, 48, 48, 64, 50, 53, 54, 47, 46, 49, 48, 48, 48, 64, 54, 53, 53, 51, 54, 47, 46, 49, 48, 48, 48, 64, 49, 54, 55, 55, 55, 50, 49, 54, 47, 46, 36]⟩ = M := ⟨_, rfl⟩
  have s1 : M1.size ≤ 11 := by rw [← hM1, ba_size, show (ByteArray.mk #[32]).size = 1 from rfl]; omega
  have s2 : M2.size ≤ 21 := by rw [← hM2, ba_size]; omega
  have s3 : M3.size ≤ 22 := by rw [← hM3, ba_size, show (ByteArray.mk #[94]).size = 1 from rfl]; omega
  have s4 : M4.size ≤ 71 := by rw [← hM4, ba_size, show (ByteArray.mk #[49, 48, 48, 48, 33, 49, 48, 48, 48, 64, 46, 49, 48, 48, 48, 64, 50, 53, 54, 47, 46, 49, 48, 48, 48, 64, 54, 53, 53, 51, 54, 47, 46, 49, 48, 48, 48, 64, 49, 54, 55, 55, 55, 50, 49, 54, 47, 46, 36]).size = 49 from rfl]; omega
  have hM : M4.data.toList.map UInt8.toNat = ariT a b 94 := by
    rw [← hM4, ba_app, ← hM3, ba_app, ← hM2, ba_app, ← hM1, ba_app, List.map_append, List.map_append, List.map_append, List.map_append, k1, k2]
    unfold ariT
    simp only [List.append_assoc]
    rfl
  obtain ⟨n, hn⟩ := ari_ans ha hb (c := 94) (by unfold Sgn; omega) M4 hM
  have cF := fun (W : World) => Run_own (txts_one W 500 M4 (fit_small _ _ (by decide) (by decide) (by omega))) (inp_none _) 500 200
  rw [hn] at cF
  replace cL1 := Lib.hid cL1
  replace cL2 := Lib.hid cL2
  replace hL := Lib.hid hL
  clear hD1 hD2 k1 k2 hM hn hj
  rcases Bool.eq_false_or_eq_true ((b : Int) == 0) with hb0 | hb0
  · obtain ⟨v, hv⟩ : ∃ v, a ^^^ b = v := ⟨_, rfl⟩
    have e1 := u32_xor_nat a b ha hb
    rw [hv] at e1
    have hvl : v < 4294967296 := by rw [← hv]; exact Nat.xor_lt_two_pow (n := 32) ha hb
    rw [show op2 94 a b = some v from congrArg some hv] at cF
    unfold outV out4 at cF
    dsimp only at cF
    rw [show ((0 : Nat) : Int) = 0 from rfl] at cF
    obtain ⟨ns, hns⟩ : ∃ q : Int, (n : Int) = q := ⟨_, rfl⟩
    rw [hns] at cF
    have v0 : (0 : Int) ≤ (v : Int) := by omega
    have v1 : (v : Int) < 4294967296 := by omega
    obtain ⟨z0, hz0⟩ : ∃ z : UInt8, UInt8.ofNat v = z := ⟨_, rfl⟩
    obtain ⟨z1, hz1⟩ : ∃ z : UInt8, UInt8.ofNat (v / 256) = z := ⟨_, rfl⟩
    obtain ⟨z2, hz2⟩ : ∃ z : UInt8, UInt8.ofNat (v / 65536) = z := ⟨_, rfl⟩
    obtain ⟨z3, hz3⟩ : ∃ z : UInt8, UInt8.ofNat (v / 16777216) = z := ⟨_, rfl⟩
    have q0 : (v : Int) % 256 = (z0.toNat : Int) := by rw [← hz0]; simp
    have q1 : (v : Int) / 256 % 256 = (z1.toNat : Int) := by rw [← hz1]; simp
    have q2 : (v : Int) / 65536 % 256 = (z2.toNat : Int) := by rw [← hz2]; simp
    have q3 : (v : Int) / 16777216 % 256 = (z3.toNat : Int) := by rw [← hz3]; simp
    have p0 : IntKind.u8.wrap (v : Int) = (z0.toNat : Int) := by rw [IntKind.wrap_u8]; exact q0
    have p1 : IntKind.u8.wrap ((v : Int) / 256) = (z1.toNat : Int) := by rw [IntKind.wrap_u8]; exact q1
    have p2 : IntKind.u8.wrap ((v : Int) / 65536) = (z2.toNat : Int) := by rw [IntKind.wrap_u8]; exact q2
    have p3 : IntKind.u8.wrap ((v : Int) / 16777216) = (z3.toNat : Int) := by rw [IntKind.wrap_u8]; exact q3
    rw [hz0, hz1, hz2, hz3] at cF
    have cv := fun W x => four_conv' W x z0 z1 z2 z3
    obtain ⟨O, hO⟩ : ∃ O : ByteArray, ⟨#[z0, z1, z2, z3]⟩ = O := ⟨_, rfl⟩
    rw [hO] at cv
    rw [show (⟨[z0, z1, z2, z3].toArray⟩ : ByteArray) = O from hO] at cF
    have hOO : (O.toList == O.toList) = true := beq_self_eq_true _
    replace cF := Lib.hid cF
    clear hz0 hz1 hz2 hz3 hO hns hv
    go_enter Tryd.func4, Tryd.ntmps4
    go_wp2_with fail
    refine (cA.out).mono ?_
    rintro e w1 ⟨rfl, hb1⟩
    have hL1 := Lib.hid (hL.out.below hb1)
    replace hb1 := Lib.hid hb1
    go_wp2_with fail
    refine (cL1.out _ hL1.out).mono ?_
    rintro e w2 ⟨rfl, hb2⟩
    have hL2 := Lib.hid (hL1.out.below hb2)
    have hb3 := Lib.hid (chain hb1.out hb2)
    clear hb1 hb2 cA cL1 hL1 hL
    go_wp2_with fail
    refine (cL2.out _ hL2.out).mono ?_
    rintro e w3 ⟨rfl, hb4⟩
    have hb5 := Lib.hid (chain hb3.out hb4)
    clear hb3 hb4 cL2 hL2
    go_wp2_with fail
    refine (cF.out _).mono ?_
    rintro e w4 ⟨rfl, hb6⟩
    have hb7 := Lib.hid (chain hb5.out (chain (boxed w3 _) hb6))
    clear hb5 hb6 cF
    have hb8 := Lib.hid (hb7.out.trans ((boxed w4 (.cells #[.string O, .int .i64 0, .int .i64 ns] 31)).mono hb7.out.size))
    obtain ⟨d0, d1, d2⟩ := z3s (Blk.new w4 31 [.string O, .int .i64 0, .int .i64 ns])
    go_wp2
    first | go_ret | skip
    exact ⟨rfl, hb8.out.trans ((boxed _ _).mono (by first | exact hb8.out.size | (have := hb8.out.size; simp at this ⊢; omega)))⟩
  · obtain ⟨v, hv⟩ : ∃ v, a ^^^ b = v := ⟨_, rfl⟩
    have e1 := u32_xor_nat a b ha hb
    rw [hv] at e1
    have hvl : v < 4294967296 := by rw [← hv]; exact Nat.xor_lt_two_pow (n := 32) ha hb
    rw [show op2 94 a b = some v from congrArg some hv] at cF
    unfold outV out4 at cF
    dsimp only at cF
    rw [show ((0 : Nat) : Int) = 0 from rfl] at cF
    obtain ⟨ns, hns⟩ : ∃ q : Int, (n : Int) = q := ⟨_, rfl⟩
    rw [hns] at cF
    have v0 : (0 : Int) ≤ (v : Int) := by omega
    have v1 : (v : Int) < 4294967296 := by omega
    obtain ⟨z0, hz0⟩ : ∃ z : UInt8, UInt8.ofNat v = z := ⟨_, rfl⟩
    obtain ⟨z1, hz1⟩ : ∃ z : UInt8, UInt8.ofNat (v / 256) = z := ⟨_, rfl⟩
    obtain ⟨z2, hz2⟩ : ∃ z : UInt8, UInt8.ofNat (v / 65536) = z := ⟨_, rfl⟩
    obtain ⟨z3, hz3⟩ : ∃ z : UInt8, UInt8.ofNat (v / 16777216) = z := ⟨_, rfl⟩
    have q0 : (v : Int) % 256 = (z0.toNat : Int) := by rw [← hz0]; simp
    have q1 : (v : Int) / 256 % 256 = (z1.toNat : Int) := by rw [← hz1]; simp
    have q2 : (v : Int) / 65536 % 256 = (z2.toNat : Int) := by rw [← hz2]; simp
    have q3 : (v : Int) / 16777216 % 256 = (z3.toNat : Int) := by rw [← hz3]; simp
    have p0 : IntKind.u8.wrap (v : Int) = (z0.toNat : Int) := by rw [IntKind.wrap_u8]; exact q0
    have p1 : IntKind.u8.wrap ((v : Int) / 256) = (z1.toNat : Int) := by rw [IntKind.wrap_u8]; exact q1
    have p2 : IntKind.u8.wrap ((v : Int) / 65536) = (z2.toNat : Int) := by rw [IntKind.wrap_u8]; exact q2
    have p3 : IntKind.u8.wrap ((v : Int) / 16777216) = (z3.toNat : Int) := by rw [IntKind.wrap_u8]; exact q3
    rw [hz0, hz1, hz2, hz3] at cF
    have cv := fun W x => four_conv' W x z0 z1 z2 z3
    obtain ⟨O, hO⟩ : ∃ O : ByteArray, ⟨#[z0, z1, z2, z3]⟩ = O := ⟨_, rfl⟩
    rw [hO] at cv
    rw [show (⟨[z0, z1, z2, z3].toArray⟩ : ByteArray) = O from hO] at cF
    have hOO : (O.toList == O.toList) = true := beq_self_eq_true _
    replace cF := Lib.hid cF
    clear hz0 hz1 hz2 hz3 hO hns hv
    go_enter Tryd.func4, Tryd.ntmps4
    go_wp2_with fail
    refine (cA.out).mono ?_
    rintro e w1 ⟨rfl, hb1⟩
    have hL1 := Lib.hid (hL.out.below hb1)
    replace hb1 := Lib.hid hb1
    go_wp2_with fail
    refine (cL1.out _ hL1.out).mono ?_
    rintro e w2 ⟨rfl, hb2⟩
    have hL2 := Lib.hid (hL1.out.below hb2)
    have hb3 := Lib.hid (chain hb1.out hb2)
    clear hb1 hb2 cA cL1 hL1 hL
    go_wp2_with fail
    refine (cL2.out _ hL2.out).mono ?_
    rintro e w3 ⟨rfl, hb4⟩
    have hb5 := Lib.hid (chain hb3.out hb4)
    clear hb3 hb4 cL2 hL2
    go_wp2_with fail
    refine (cF.out _).mono ?_
    rintro e w4 ⟨rfl, hb6⟩
    have hb7 := Lib.hid (chain hb5.out (chain (boxed w3 _) hb6))
    clear hb5 hb6 cF
    have hb8 := Lib.hid (hb7.out.trans ((boxed w4 (.cells #[.string O, .int .i64 0, .int .i64 ns] 31)).mono hb7.out.size))
    obtain ⟨d0, d1, d2⟩ := z3s (Blk.new w4 31 [.string O, .int .i64 0, .int .i64 ns])
    go_wp2
    first | go_ret | skip
    exact ⟨rfl, hb8.out.trans ((boxed _ _).mono (by first | exact hb8.out.size | (have := hb8.out.size; simp at this ⊢; omega)))⟩
set_option maxHeartbeats 8000000 in
theorem arith_6 (ha : a < 4294967296) (hb : b < 4294967296) (hL : Laid w) (hj : y.toNat % 7 = 6) :
    Calls Tryd.prog 4 #[.int .u32 (a : Int), .int .u32 (b : Int), .int .u8 (y.toNat : Int)] w fun e w' => e = .returned (.bool true) ∧ Below w.heap.size w w' := by
  have cA := Lib.hid (alive_any w)
  have y1 : (0 : Int) ≤ (y.toNat : Int) := by omega
  have y2 : (y.toNat : Int) ≤ 255 := by have := UInt8.toNat_lt y; omega
  have t1 : (y.toNat : Int).tmod 7 = 6 := by rw [Int.tmod_eq_emod_of_nonneg (by omega)]; omega
  have t2 : (y.toNat : Int) % 7 = 6 := by omega
  have hsg : (ByteArray.mk #[43, 45, 42, 47, 37, 94, 60]).extract 6 7 = ⟨#[60]⟩ := by decide +kernel
  have cL1 := fun W (h : Laid W) => lit_any a ha W h
  have cL2 := fun W (h : Laid W) => lit_any b hb W h
  have l1 := lit_len a ha
  have l2 := lit_len b hb
  have k1 := lit_back a
  have k2 := lit_back b
  obtain ⟨D1, hD1⟩ : ∃ D : ByteArray, ⟨((digs a).map UInt8.ofNat).toArray⟩ = D := ⟨_, rfl⟩
  obtain ⟨D2, hD2⟩ : ∃ D : ByteArray, ⟨((digs b).map UInt8.ofNat).toArray⟩ = D := ⟨_, rfl⟩
  rw [hD1] at cL1 l1 k1
  rw [hD2] at cL2 l2 k2
  obtain ⟨M1, hM1⟩ : ∃ M : ByteArray, D1 ++ ⟨#[32]⟩ = M := ⟨_, rfl⟩
  obtain ⟨M2, hM2⟩ : ∃ M : ByteArray, M1 ++ D2 = M := ⟨_, rfl⟩
  obtain ⟨M3, hM3⟩ : ∃ M : ByteArray, M2 ++ ⟨#[60]⟩ = M := ⟨_, rfl⟩
  obtain ⟨M4, hM4⟩ : ∃ M : ByteArray, M3 ++ ⟨#[49, 48, 48, 48, 33, 49, 48, 48, 48, 64, 46, 49, 48, 48, 48, 64, 50, 53, 54, 47, 46, 49, 48, 48, 48, 64, 54, 53, 53, 51, 54, 47, 46, 49, 48, 48, 48, 64, 49, 54, 55, 55, 55, 50, 49, 54, 47, 46, 36]⟩ = M := ⟨_, rfl⟩
  have s1 : M1.size ≤ 11 := by rw [← hM1, ba_size, show (ByteArray.mk #[32]).size = 1 from rfl]; omega
  have s2 : M2.size ≤ 21 := by rw [← hM2, ba_size]; omega
  have s3 : M3.size ≤ 22 := by rw [← hM3, ba_size, show (ByteArray.mk #[60]).size = 1 from rfl]; omega
  have s4 : M4.size ≤ 71 := by rw [← hM4, ba_size, show (ByteArray.mk #[49, 48, 48, 48, 33, 49, 48, 48, 48, 64, 46, 49, 48, 48, 48, 64, 50, 53, 54, 47, 46, 49, 48, 48, 48, 64, 54, 53, 53, 51, 54, 47, 46, 49, 48, 48, 48, 64, 49, 54, 55, 55, 55, 50, 49, 54, 47, 46, 36]).size = 49 from rfl]; omega
  have hM : M4.data.toList.map UInt8.toNat = ariT a b 60 := by
    rw [← hM4, ba_app, ← hM3, ba_app, ← hM2, ba_app, ← hM1, ba_app, List.map_append, List.map_append, List.map_append, List.map_append, k1, k2]
    unfold ariT
    simp only [List.append_assoc]
    rfl
  obtain ⟨n, hn⟩ := ari_ans ha hb (c := 60) (by unfold Sgn; omega) M4 hM
  have cF := fun (W : World) => Run_own (txts_one W 500 M4 (fit_small _ _ (by decide) (by decide) (by omega))) (inp_none _) 500 200
  rw [hn] at cF
  replace cL1 := Lib.hid cL1
  replace cL2 := Lib.hid cL2
  replace hL := Lib.hid hL
  clear hD1 hD2 k1 k2 hM hn hj
  by_cases hab : a < b
  · have t : decide (a < b) = true := decide_eq_true hab
    have hb0 : ((b : Int) == 0) = false := by simp; omega
    rw [show op2 60 a b = some 1 from congrArg some (if_pos hab)] at cF
    unfold outV out4 at cF
    dsimp only at cF
    rw [show ((0 : Nat) : Int) = 0 from rfl] at cF
    obtain ⟨ns, hns⟩ : ∃ q : Int, (n : Int) = q := ⟨_, rfl⟩
    rw [hns] at cF
    have cv := fun W x => four_conv' W x 1 0 0 0
    obtain ⟨O, hO⟩ : ∃ O : ByteArray, ⟨#[1, 0, 0, 0]⟩ = O := ⟨_, rfl⟩
    rw [hO] at cv
    simp only [show ((1 : UInt8).toNat : Int) = 1 from rfl, show ((0 : UInt8).toNat : Int) = 0 from rfl] at cv
    rw [show (⟨[UInt8.ofNat 1, UInt8.ofNat (1 / 256), UInt8.ofNat (1 / 65536), UInt8.ofNat (1 / 16777216)].toArray⟩ : ByteArray) = O from hO] at cF
    have hOO : (O.toList == O.toList) = true := beq_self_eq_true _
    replace cF := Lib.hid cF
    clear hO hns
    go_enter Tryd.func4, Tryd.ntmps4
    go_wp2_with fail
    refine (cA.out).mono ?_
    rintro e w1 ⟨rfl, hb1⟩
    have hL1 := Lib.hid (hL.out.below hb1)
    replace hb1 := Lib.hid hb1
    go_wp2_with fail
    refine (cL1.out _ hL1.out).mono ?_
    rintro e w2 ⟨rfl, hb2⟩
    have hL2 := Lib.hid (hL1.out.below hb2)
    have hb3 := Lib.hid (chain hb1.out hb2)
    clear hb1 hb2 cA cL1 hL1 hL
    go_wp2_with fail
    refine (cL2.out _ hL2.out).mono ?_
    rintro e w3 ⟨rfl, hb4⟩
    have hb5 := Lib.hid (chain hb3.out hb4)
    clear hb3 hb4 cL2 hL2
    go_wp2_with fail
    refine (cF.out _).mono ?_
    rintro e w4 ⟨rfl, hb6⟩
    have hb7 := Lib.hid (chain hb5.out (chain (boxed w3 _) hb6))
    clear hb5 hb6 cF
    have hb8 := Lib.hid (hb7.out.trans ((boxed w4 (.cells #[.string O, .int .i64 0, .int .i64 ns] 31)).mono hb7.out.size))
    obtain ⟨d0, d1, d2⟩ := z3s (Blk.new w4 31 [.string O, .int .i64 0, .int .i64 ns])
    go_wp2
    first | go_ret | skip
    exact ⟨rfl, hb8.out.trans ((boxed _ _).mono (by first | exact hb8.out.size | (have := hb8.out.size; simp at this ⊢; omega)))⟩
  · have t : decide (a < b) = false := decide_eq_false hab
    rcases Bool.eq_false_or_eq_true ((b : Int) == 0) with hb0 | hb0
    · rw [show op2 60 a b = some 0 from congrArg some (if_neg hab)] at cF
      unfold outV out4 at cF
      dsimp only at cF
      rw [show ((0 : Nat) : Int) = 0 from rfl] at cF
      obtain ⟨ns, hns⟩ : ∃ q : Int, (n : Int) = q := ⟨_, rfl⟩
      rw [hns] at cF
      have cv := fun W x => four_conv' W x 0 0 0 0
      obtain ⟨O, hO⟩ : ∃ O : ByteArray, ⟨#[0, 0, 0, 0]⟩ = O := ⟨_, rfl⟩
      rw [hO] at cv
      simp only [show ((0 : UInt8).toNat : Int) = 0 from rfl] at cv
      rw [show (⟨[UInt8.ofNat 0, UInt8.ofNat (0 / 256), UInt8.ofNat (0 / 65536), UInt8.ofNat (0 / 16777216)].toArray⟩ : ByteArray) = O from hO] at cF
      have hOO : (O.toList == O.toList) = true := beq_self_eq_true _
      replace cF := Lib.hid cF
      clear hO hns
      go_enter Tryd.func4, Tryd.ntmps4
      go_wp2_with fail
      refine (cA.out).mono ?_
      rintro e w1 ⟨rfl, hb1⟩
      have hL1 := Lib.hid (hL.out.below hb1)
      replace hb1 := Lib.hid hb1
      go_wp2_with fail
      refine (cL1.out _ hL1.out).mono ?_
      rintro e w2 ⟨rfl, hb2⟩
      have hL2 := Lib.hid (hL1.out.below hb2)
      have hb3 := Lib.hid (chain hb1.out hb2)
      clear hb1 hb2 cA cL1 hL1 hL
      go_wp2_with fail
      refine (cL2.out _ hL2.out).mono ?_
      rintro e w3 ⟨rfl, hb4⟩
      have hb5 := Lib.hid (chain hb3.out hb4)
      clear hb3 hb4 cL2 hL2
      go_wp2_with fail
      refine (cF.out _).mono ?_
      rintro e w4 ⟨rfl, hb6⟩
      have hb7 := Lib.hid (chain hb5.out (chain (boxed w3 _) hb6))
      clear hb5 hb6 cF
      have hb8 := Lib.hid (hb7.out.trans ((boxed w4 (.cells #[.string O, .int .i64 0, .int .i64 ns] 31)).mono hb7.out.size))
      obtain ⟨d0, d1, d2⟩ := z3s (Blk.new w4 31 [.string O, .int .i64 0, .int .i64 ns])
      go_wp2
      first | go_ret | skip
      exact ⟨rfl, hb8.out.trans ((boxed _ _).mono (by first | exact hb8.out.size | (have := hb8.out.size; simp at this ⊢; omega)))⟩
    · rw [show op2 60 a b = some 0 from congrArg some (if_neg hab)] at cF
      unfold outV out4 at cF
      dsimp only at cF
      rw [show ((0 : Nat) : Int) = 0 from rfl] at cF
      obtain ⟨ns, hns⟩ : ∃ q : Int, (n : Int) = q := ⟨_, rfl⟩
      rw [hns] at cF
      have cv := fun W x => four_conv' W x 0 0 0 0
      obtain ⟨O, hO⟩ : ∃ O : ByteArray, ⟨#[0, 0, 0, 0]⟩ = O := ⟨_, rfl⟩
      rw [hO] at cv
      simp only [show ((0 : UInt8).toNat : Int) = 0 from rfl] at cv
      rw [show (⟨[UInt8.ofNat 0, UInt8.ofNat (0 / 256), UInt8.ofNat (0 / 65536), UInt8.ofNat (0 / 16777216)].toArray⟩ : ByteArray) = O from hO] at cF
      have hOO : (O.toList == O.toList) = true := beq_self_eq_true _
      replace cF := Lib.hid cF
      clear hO hns
      go_enter Tryd.func4, Tryd.ntmps4
      go_wp2_with fail
      refine (cA.out).mono ?_
      rintro e w1 ⟨rfl, hb1⟩
      have hL1 := Lib.hid (hL.out.below hb1)
      replace hb1 := Lib.hid hb1
      go_wp2_with fail
      refine (cL1.out _ hL1.out).mono ?_
      rintro e w2 ⟨rfl, hb2⟩
      have hL2 := Lib.hid (hL1.out.below hb2)
      have hb3 := Lib.hid (chain hb1.out hb2)
      clear hb1 hb2 cA cL1 hL1 hL
      go_wp2_with fail
      refine (cL2.out _ hL2.out).mono ?_
      rintro e w3 ⟨rfl, hb4⟩
      have hb5 := Lib.hid (chain hb3.out hb4)
      clear hb3 hb4 cL2 hL2
      go_wp2_with fail
      refine (cF.out _).mono ?_
      rintro e w4 ⟨rfl, hb6⟩
      have hb7 := Lib.hid (chain hb5.out (chain (boxed w3 _) hb6))
      clear hb5 hb6 cF
      have hb8 := Lib.hid (hb7.out.trans ((boxed w4 (.cells #[.string O, .int .i64 0, .int .i64 ns] 31)).mono hb7.out.size))
      obtain ⟨d0, d1, d2⟩ := z3s (Blk.new w4 31 [.string O, .int .i64 0, .int .i64 ns])
      go_wp2
      first | go_ret | skip
      exact ⟨rfl, hb8.out.trans ((boxed _ _).mono (by first | exact hb8.out.size | (have := hb8.out.size; simp at this ⊢; omega)))⟩
end
/-- The same at what the reading says. -/
theorem row_arith (x z : Int) (k : Int) (w : World) (hL : Laid w) (q0 : (Lit.int .u32 x).wf = true) (q1 : (Lit.int .u32 z).wf = true) (q2 : (Lit.int .u8 k).wf = true) : Calls Tryd.prog 4 #[.int .u32 x, .int .u32 z, .int .u8 k] w fun e w' => e = .returned (.bool true) ∧ Below w.heap.size w w' := by
  have h0 : 0 ≤ x ∧ x ≤ 4294967295 := (Lit.wf_int_iff .u32 _).1 q0
  have h1 : 0 ≤ z ∧ z ≤ 4294967295 := (Lit.wf_int_iff .u32 _).1 q1
  have h8 : 0 ≤ k ∧ k ≤ 255 := (Lit.wf_int_iff .u8 _).1 q2
  obtain ⟨a, rfl⟩ : ∃ a : Nat, x = (a : Int) := ⟨x.toNat, by omega⟩
  obtain ⟨b, rfl⟩ : ∃ b : Nat, z = (b : Int) := ⟨z.toNat, by omega⟩
  have e : k = ((UInt8.ofNat k.toNat).toNat : Int) := by
    rw [UInt8.toNat_ofNat_of_lt' (by show k.toNat < 256; omega)]
    omega
  rw [e]
  obtain ⟨y, hy⟩ : ∃ y, UInt8.ofNat k.toNat = y := ⟨_, rfl⟩
  rw [hy]
  have ha : a < 4294967296 := by omega
  have hb : b < 4294967296 := by omega
  have h7 : y.toNat % 7 = 0 ∨ y.toNat % 7 = 1 ∨ y.toNat % 7 = 2 ∨ y.toNat % 7 = 3 ∨ y.toNat % 7 = 4 ∨ y.toNat % 7 = 5 ∨ y.toNat % 7 = 6 := by omega
  rcases h7 with h | h | h | h | h | h | h
  · exact arith_0 ha hb hL h
  · exact arith_1 ha hb hL h
  · exact arith_2 ha hb hL h
  · exact arith_3 ha hb hL h
  · exact arith_4 ha hb hL h
  · exact arith_5 ha hb hL h
  · exact arith_6 ha hb hL h
end Go.Proofs.YtfdlgdgjbfoogaaDoor.M17
