/- Contracts of the landed package's rotation and mixing, and of math/bits.Len and powerBelow. -/
import Derived.Test.YtkppepdniehoiaaDoorB4Dev
import Derived.Test.YtkppepdniehoiaaDoorB4Ref2
namespace Go.Proofs.YtkppepdniehoiaaDoor.B4
open Go.RowKit Mem
set_option linter.unusedVariables false

/-- What mix returns: the four elements. -/
def mx (p q r s x y : R) : R × R × R × R :=
  let a := p + q + x
  let d := ror (s ^^^ a) 16
  let c := r + d
  let b := ror (q ^^^ c) 12
  let a := a + b + y
  let d := ror (d ^^^ a) 8
  let c := c + d
  let b := ror (b ^^^ c) 7
  (a, b, c, d)
theorem mx_of {p q r s x y a1 d1 c1 b1 a2 d2 c2 b2 : R} (h1 : p + q + x = a1) (h2 : ror (s ^^^ a1) 16 = d1) (h3 : r + d1 = c1) (h4 : ror (q ^^^ c1) 12 = b1) (h5 : a1 + b1 + y = a2) (h6 : ror (d1 ^^^ a2) 8 = d2) (h7 : c1 + d2 = c2) (h8 : ror (b1 ^^^ c2) 7 = b2) :
    mx p q r s x y = (a2, b2, c2, d2) := by
  subst h1 h2 h3 h4 h5 h6 h7 h8
  rfl
theorem g_set (v : List R) (i j : Nat) (x : R) (hi : i < v.length) : g (v.set i x) j = if i = j then x else g v j := by
  unfold g
  by_cases h : i = j
  · subst h
    simp [List.getD, hi]
  · simp [List.getD, List.getElem?_set_ne h, h]
theorem g_ext {u v : List R} (hl : u.length = v.length) (h : ∀ j, g u j = g v j) : u = v := by
  apply List.ext_getElem hl
  intro i h1 h2
  have := h i
  simpa [g, List.getD, h1, h2] using this
/-- The four elements that mix changes, laid back. -/
def putL (v : List R) (a b c d : Nat) (m : R × R × R × R) : List R := (((v.set a m.1).set b m.2.1).set c m.2.2.1).set d m.2.2.2
theorem mixL_mx (v : List R) (a b c d : Nat) (x y : R) (ha : a < v.length) (hb : b < v.length) (hc : c < v.length) (hd : d < v.length) (hab : a ≠ b) (hac : a ≠ c) (had : a ≠ d) (hbc : b ≠ c) (hbd : b ≠ d) (hcd : c ≠ d) :
    mixL v a b c d x y = putL v a b c d (mx (g v a) (g v b) (g v c) (g v d) x y) := by
  apply g_ext
  · simp [mixL, putL]
  · intro j
    simp only [mixL, putL, mx, g_set, List.length_set, ha, hb, hc, hd, hab, hac, had, hbc, hbd, hcd, Ne.symm hab, Ne.symm hac, Ne.symm had, Ne.symm hbc, Ne.symm hbd, Ne.symm hcd, if_false, if_true]
    by_cases h1 : a = j <;> by_cases h2 : b = j <;> by_cases h3 : c = j <;> by_cases h4 : d = j <;> simp_all

theorem rol_bits (x : R) (r : Nat) : bits .or .u32 ((x.toNat : Int) * 2 ^ (32 - r) % 4294967296) ((x.toNat : Int) / 2 ^ r) = ((ror x r).toNat : Int) := by
  rw [← shr_nat, ← shl_nat, bor]
  congr 1
  unfold ror
  rw [BitVec.or_comm]
theorem and31_16 : bits .and .u64 (IntKind.u64.wrap (-16)) 31 = 16 := by decide
set_option maxHeartbeats 400000 in
theorem rol16 (x : R) (w : World) : Calls Tryd.prog 39 #[.int .u32 (x.toNat : Int), .int .i64 (-16)] w fun e w' => e = .returned (.int .u32 ((ror x 16).toNat : Int)) ∧ w = w' := by
  have hx := x.isLt
  have hb := rol_bits x 16
  have h31 := and31_16
  obtain ⟨y, hy⟩ : ∃ y, ror x 16 = y := ⟨_, rfl⟩
  rw [hy] at hb ⊢
  have hb := Lib.hid hb
  go_enter Tryd.func39, Tryd.ntmps39
  go_wp2
  go_ret
  exact ⟨ret_i (by rw [← hb.out]; rfl), rfl⟩
set_option maxHeartbeats 400000 in
theorem orot16 (x : R) (w : World) : Calls Tryd.prog 38 #[.int .u32 (x.toNat : Int), .int .i64 16] w fun e w' => e = .returned (.int .u32 ((ror x 16).toNat : Int)) ∧ w = w' := by
  have h := Lib.hid (rol16 x)
  go_enter Tryd.func38, Tryd.ntmps38
  go_wp2_with fail
  refine (h.out _).mono ?_
  rintro e w1 ⟨rfl, rfl⟩
  go_wp2
  go_ret
  exact ⟨rfl, rfl⟩
theorem and31_12 : bits .and .u64 (IntKind.u64.wrap (-12)) 31 = 20 := by decide
set_option maxHeartbeats 400000 in
theorem rol12 (x : R) (w : World) : Calls Tryd.prog 39 #[.int .u32 (x.toNat : Int), .int .i64 (-12)] w fun e w' => e = .returned (.int .u32 ((ror x 12).toNat : Int)) ∧ w = w' := by
  have hx := x.isLt
  have hb := rol_bits x 12
  have h31 := and31_12
  obtain ⟨y, hy⟩ : ∃ y, ror x 12 = y := ⟨_, rfl⟩
  rw [hy] at hb ⊢
  have hb := Lib.hid hb
  go_enter Tryd.func39, Tryd.ntmps39
  go_wp2
  go_ret
  exact ⟨ret_i (by rw [← hb.out]; rfl), rfl⟩
set_option maxHeartbeats 400000 in
theorem orot12 (x : R) (w : World) : Calls Tryd.prog 38 #[.int .u32 (x.toNat : Int), .int .i64 12] w fun e w' => e = .returned (.int .u32 ((ror x 12).toNat : Int)) ∧ w = w' := by
  have h := Lib.hid (rol12 x)
  go_enter Tryd.func38, Tryd.ntmps38
  go_wp2_with fail
  refine (h.out _).mono ?_
  rintro e w1 ⟨rfl, rfl⟩
  go_wp2
  go_ret
  exact ⟨rfl, rfl⟩
theorem and31_8 : bits .and .u64 (IntKind.u64.wrap (-8)) 31 = 24 := by decide
set_option maxHeartbeats 400000 in
theorem rol8 (x : R) (w : World) : Calls Tryd.prog 39 #[.int .u32 (x.toNat : Int), .int .i64 (-8)] w fun e w' => e = .returned (.int .u32 ((ror x 8).toNat : Int)) ∧ w = w' := by
  have hx := x.isLt
  have hb := rol_bits x 8
  have h31 := and31_8
  obtain ⟨y, hy⟩ : ∃ y, ror x 8 = y := ⟨_, rfl⟩
  rw [hy] at hb ⊢
  have hb := Lib.hid hb
  go_enter Tryd.func39, Tryd.ntmps39
  go_wp2
  go_ret
  exact ⟨ret_i (by rw [← hb.out]; rfl), rfl⟩
set_option maxHeartbeats 400000 in
theorem orot8 (x : R) (w : World) : Calls Tryd.prog 38 #[.int .u32 (x.toNat : Int), .int .i64 8] w fun e w' => e = .returned (.int .u32 ((ror x 8).toNat : Int)) ∧ w = w' := by
  have h := Lib.hid (rol8 x)
  go_enter Tryd.func38, Tryd.ntmps38
  go_wp2_with fail
  refine (h.out _).mono ?_
  rintro e w1 ⟨rfl, rfl⟩
  go_wp2
  go_ret
  exact ⟨rfl, rfl⟩
theorem and31_7 : bits .and .u64 (IntKind.u64.wrap (-7)) 31 = 25 := by decide
set_option maxHeartbeats 400000 in
theorem rol7 (x : R) (w : World) : Calls Tryd.prog 39 #[.int .u32 (x.toNat : Int), .int .i64 (-7)] w fun e w' => e = .returned (.int .u32 ((ror x 7).toNat : Int)) ∧ w = w' := by
  have hx := x.isLt
  have hb := rol_bits x 7
  have h31 := and31_7
  obtain ⟨y, hy⟩ : ∃ y, ror x 7 = y := ⟨_, rfl⟩
  rw [hy] at hb ⊢
  have hb := Lib.hid hb
  go_enter Tryd.func39, Tryd.ntmps39
  go_wp2
  go_ret
  exact ⟨ret_i (by rw [← hb.out]; rfl), rfl⟩
set_option maxHeartbeats 400000 in
theorem orot7 (x : R) (w : World) : Calls Tryd.prog 38 #[.int .u32 (x.toNat : Int), .int .i64 7] w fun e w' => e = .returned (.int .u32 ((ror x 7).toNat : Int)) ∧ w = w' := by
  have h := Lib.hid (rol7 x)
  go_enter Tryd.func38, Tryd.ntmps38
  go_wp2_with fail
  refine (h.out _).mono ?_
  rintro e w1 ⟨rfl, rfl⟩
  go_wp2
  go_ret
  exact ⟨rfl, rfl⟩

theorem add_any (p q : R) : ((p.toNat : Int) + (q.toNat : Int)) % 4294967296 = ((p + q).toNat : Int) := add_bits p q _ rfl
/-- The four words as a tuple. -/
def mxV (m : R × R × R × R) : Value := .tuple #[wv m.1, wv m.2.1, wv m.2.2.1, wv m.2.2.2]
set_option maxHeartbeats 2000000 in
theorem omix_any (p q r s x y : R) (w : World) :
    Calls Tryd.prog 35 #[.int .u32 (p.toNat : Int), .int .u32 (q.toNat : Int), .int .u32 (r.toNat : Int), .int .u32 (s.toNat : Int), .int .u32 (x.toNat : Int), .int .u32 (y.toNat : Int)] w
      fun e w' => e = .returned (mxV (mx p q r s x y)) ∧ w = w' := by
  have l0 := p.isLt
  have l1 := q.isLt
  have l2 := r.isLt
  have l3 := s.isLt
  have l4 := x.isLt
  have l5 := y.isLt
  obtain ⟨t1, ht1⟩ : ∃ t, q + x = t := ⟨_, rfl⟩
  have s1 := add_bits q x t1 ht1
  obtain ⟨a1, ha1⟩ : ∃ t, p + t1 = t := ⟨_, rfl⟩
  have u1 := add_bits p t1 a1 ha1
  have H1 := Lib.hid (show p + q + x = a1 by rw [← ha1, ← ht1, BitVec.add_assoc])
  have lt1 := t1.isLt
  have lo1 := a1.isLt
  clear ht1 ha1
  obtain ⟨t2, ht2⟩ : ∃ t, s ^^^ a1 = t := ⟨_, rfl⟩
  have s2 := bxr s a1
  rw [ht2] at s2
  obtain ⟨d1, hd1⟩ : ∃ t, ror t2 16 = t := ⟨_, rfl⟩
  have c2 := orot16 t2
  rw [hd1] at c2
  have c2h := Lib.hid c2
  have H2 := Lib.hid (show ror (s ^^^ a1) 16 = d1 by rw [ht2]; exact hd1)
  have lo2 := d1.isLt
  clear ht2 hd1 c2
  obtain ⟨e1, he1⟩ : ∃ t, r + d1 = t := ⟨_, rfl⟩
  have u3 := add_bits r d1 e1 he1
  have lo3 := e1.isLt
  have H3 := Lib.hid he1
  clear he1
  obtain ⟨t4, ht4⟩ : ∃ t, q ^^^ e1 = t := ⟨_, rfl⟩
  have s4 := bxr q e1
  rw [ht4] at s4
  obtain ⟨b1, hb1⟩ : ∃ t, ror t4 12 = t := ⟨_, rfl⟩
  have c4 := orot12 t4
  rw [hb1] at c4
  have c4h := Lib.hid c4
  have H4 := Lib.hid (show ror (q ^^^ e1) 12 = b1 by rw [ht4]; exact hb1)
  have lo4 := b1.isLt
  clear ht4 hb1 c4
  obtain ⟨t5, ht5⟩ : ∃ t, b1 + y = t := ⟨_, rfl⟩
  have s5 := add_bits b1 y t5 ht5
  obtain ⟨a2, ha2⟩ : ∃ t, a1 + t5 = t := ⟨_, rfl⟩
  have u5 := add_bits a1 t5 a2 ha2
  have H5 := Lib.hid (show a1 + b1 + y = a2 by rw [← ha2, ← ht5, BitVec.add_assoc])
  have lt5 := t5.isLt
  have lo5 := a2.isLt
  clear ht5 ha2
  obtain ⟨t6, ht6⟩ : ∃ t, d1 ^^^ a2 = t := ⟨_, rfl⟩
  have s6 := bxr d1 a2
  rw [ht6] at s6
  obtain ⟨d2, hd2⟩ : ∃ t, ror t6 8 = t := ⟨_, rfl⟩
  have c6 := orot8 t6
  rw [hd2] at c6
  have c6h := Lib.hid c6
  have H6 := Lib.hid (show ror (d1 ^^^ a2) 8 = d2 by rw [ht6]; exact hd2)
  have lo6 := d2.isLt
  clear ht6 hd2 c6
  obtain ⟨e2, he2⟩ : ∃ t, e1 + d2 = t := ⟨_, rfl⟩
  have u7 := add_bits e1 d2 e2 he2
  have lo7 := e2.isLt
  have H7 := Lib.hid he2
  clear he2
  obtain ⟨t8, ht8⟩ : ∃ t, b1 ^^^ e2 = t := ⟨_, rfl⟩
  have s8 := bxr b1 e2
  rw [ht8] at s8
  obtain ⟨b2, hb2⟩ : ∃ t, ror t8 7 = t := ⟨_, rfl⟩
  have c8 := orot7 t8
  rw [hb2] at c8
  have c8h := Lib.hid c8
  have H8 := Lib.hid (show ror (b1 ^^^ e2) 7 = b2 by rw [ht8]; exact hb2)
  have lo8 := b2.isLt
  clear ht8 hb2 c8
  have hfin := Lib.hid (mx_of H1.out H2.out H3.out H4.out H5.out H6.out H7.out H8.out)
  go_enter Tryd.func35, Tryd.ntmps35
  go_wp2_with fail
  refine (c2h.out _).mono ?_
  rintro e w1 ⟨rfl, rfl⟩
  go_wp2_with fail
  refine (c4h.out _).mono ?_
  rintro e w1 ⟨rfl, rfl⟩
  go_wp2_with fail
  refine (c6h.out _).mono ?_
  rintro e w1 ⟨rfl, rfl⟩
  go_wp2_with fail
  refine (c8h.out _).mono ?_
  rintro e w1 ⟨rfl, rfl⟩
  go_wp2
  rw [hfin.out]
  unfold mxV wv
  exact bodyPost_ret (by simp [results, Tryd.results35, go_sem]) rfl ⟨rfl, rfl⟩
end Go.Proofs.YtkppepdniehoiaaDoor.B4
