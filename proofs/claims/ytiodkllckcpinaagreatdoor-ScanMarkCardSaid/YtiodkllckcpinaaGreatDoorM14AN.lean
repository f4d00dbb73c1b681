/- Facts and contracts that the walks of this layer use, merged: F13Own1, F13Own2, F13Own3, F13Own4. -/
import Derived.Test.YtiodkllckcpinaaGreatDoorM14AM
import Derived.Test.YtiodkllckcpinaaGreatDoorShelf
import Derived.Test.YtiodkllckcpinaaGreatDoorM14AF
import Derived.Test.YtiodkllckcpinaaGreatDoorM14AE
import Derived.Laws.BitsAllLaws
import Derived.Deep.RegionHeld3
import Derived.StillTailTactics
set_option linter.unusedVariables false
set_option linter.unusedSimpArgs false
set_option maxRecDepth 100000
namespace Go.Proofs.YtiodkllckcpinaaGreatDoor
namespace F13
open Go.RowKit Mem

def btw (n a b : Int) : Bool := decide (a ≤ n) && decide (n ≤ b)
theorem btw_yes {n a b : Int} (h : btw n a b = true) : a ≤ n ∧ n ≤ b := by
 unfold btw at h
 rw [Bool.and_eq_true, decide_eq_true_iff, decide_eq_true_iff] at h
 exact h
theorem between_own {n a b : Int} {r : Bool} (w : World) (h : btw n a b = r) : Calls Tryz.prog 149 #[.int .i64 n, .int .i64 a, .int .i64 b] w fun e w' => e = .returned (.bool r) ∧ w = w' := by
 subst h
 unfold btw
 rcases h1 : decide (a ≤ n) with _ | _
 ·go_enter Tryz.func149, Tryz.ntmps149
  go_wp2
  go_ret
  exact ⟨rfl, rfl⟩
 ·rcases h2 : decide (n ≤ b) with _ | _
  all_goals
   go_enter Tryz.func149, Tryz.ntmps149
   go_wp2
   go_ret
   exact ⟨rfl, rfl⟩
def nmB (f : Fr) : Bool := btw f.data 1 8 && (btw f.spare 0 7 && (btw f.reel 0 (f.data + f.spare - 1) && (btw f.sess 1 255 && (btw f.idx 0 65535 && btw f.len 0 28))))
theorem nm_rg (f : Fr) : nmB f = !rgB f := by
 rw [Bool.eq_iff_iff]
 unfold nmB btw rgB
 simp only [Bool.and_eq_true, Bool.or_eq_true, Bool.not_eq_true', Bool.or_eq_false_iff, decide_eq_true_eq, decide_eq_false_iff_not]
 omega
set_option maxHeartbeats 4000000 in
theorem numbers_own (f : Fr) (w : World) : Calls Tryz.prog 109 #[f.val] w fun e w' => e = .returned (.bool (!rgB f)) ∧ Below w.heap.size w w' := by
 rw [← nm_rg]
 unfold nmB
 obtain ⟨kind, reel, sess, idx, len, data, spare, arch, pay⟩ := f
 unfold Fr.val Fr.cells
 dsimp only
 have hal : Below w.heap.size w (w.alloc (.cells #[.int .i64 kind, .int .i64 reel, .int .i64 sess, .int .i64 idx, .int .i64 len, .int .i64 data, .int .i64 spare, .int .u32 (arch.toNat : Int), .string pay] 44)) := (Below.refl _ _).alloc (Nat.le_refl _) _
 replace hal := Lib.hid hal
 rcases h1 : btw data 1 8 with _ | _
 ·have c1 := Lib.hid (fun W => between_own W h1)
  go_enter Tryz.func109, Tryz.ntmps109
  go_wp2_with (go_at_call 149; refine (c1.out _).mono ?_; rintro e w1 ⟨rfl, rfl⟩)
  go_ret
  exact ⟨rfl, hal.out⟩
 ·have c1 := Lib.hid (fun W => between_own W h1)
  have b1 := btw_yes h1
  rcases h2 : btw spare 0 7 with _ | _
  ·have c2 := Lib.hid (fun W => between_own W h2)
   clear b1
   go_enter Tryz.func109, Tryz.ntmps109
   go_wp2_with (go_at_call 149; (first | (with_reducible refine (c1.out _).mono ?_) | (with_reducible refine (c2.out _).mono ?_)); rintro e w1 ⟨rfl, rfl⟩)
   go_ret
   exact ⟨rfl, hal.out⟩
  ·have c2 := Lib.hid (fun W => between_own W h2)
   have b2 := btw_yes h2
   rcases h3 : btw reel 0 (data + spare - 1) with _ | _
   ·have c3 := Lib.hid (fun W => between_own W h3)
    go_enter Tryz.func109, Tryz.ntmps109
    go_wp2_with (go_at_call 149; (first | (with_reducible refine (c1.out _).mono ?_) | (with_reducible refine (c2.out _).mono ?_) | (with_reducible refine (c3.out _).mono ?_)); rintro e w1 ⟨rfl, rfl⟩)
    go_ret
    exact ⟨rfl, hal.out⟩
   ·have c3 := Lib.hid (fun W => between_own W h3)
    rcases h4 : btw sess 1 255 with _ | _
    ·have c4 := Lib.hid (fun W => between_own W h4)
     go_enter Tryz.func109, Tryz.ntmps109
     go_wp2_with (go_at_call 149; (first | (with_reducible refine (c1.out _).mono ?_) | (with_reducible refine (c2.out _).mono ?_) | (with_reducible refine (c3.out _).mono ?_) | (with_reducible refine (c4.out _).mono ?_)); rintro e w1 ⟨rfl, rfl⟩)
     go_ret
     exact ⟨rfl, hal.out⟩
    ·have c4 := Lib.hid (fun W => between_own W h4)
     rcases h5 : btw idx 0 65535 with _ | _
     ·have c5 := Lib.hid (fun W => between_own W h5)
      go_enter Tryz.func109, Tryz.ntmps109
      go_wp2_with (go_at_call 149; (first | (with_reducible refine (c1.out _).mono ?_) | (with_reducible refine (c2.out _).mono ?_) | (with_reducible refine (c3.out _).mono ?_) | (with_reducible refine (c4.out _).mono ?_) | (with_reducible refine (c5.out _).mono ?_)); rintro e w1 ⟨rfl, rfl⟩)
      go_ret
      exact ⟨rfl, hal.out⟩
     ·have c5 := Lib.hid (fun W => between_own W h5)
      obtain ⟨r, h6⟩ : ∃ r, btw len 0 28 = r := ⟨_, rfl⟩
      rw [h6]
      have c6 := Lib.hid (fun W => between_own W h6)
      go_enter Tryz.func109, Tryz.ntmps109
      go_wp2_with (go_at_call 149; (first | (with_reducible refine (c1.out _).mono ?_) | (with_reducible refine (c2.out _).mono ?_) | (with_reducible refine (c3.out _).mono ?_) | (with_reducible refine (c4.out _).mono ?_) | (with_reducible refine (c5.out _).mono ?_) | (with_reducible refine (c6.out _).mono ?_)); rintro e w1 ⟨rfl, rfl⟩)
      go_ret
      exact ⟨rfl, hal.out⟩
def plB (s : ByteArray) (u : Nat) : Bool := (s.size == 28) && zerosB (s.data.toList.drop u)
set_option maxHeartbeats 4000000 in
theorem payload_own (s : ByteArray) (u : Nat) (w : World) (hs : s.size ≤ 9223372036854775807) (hu : u ≤ 28) : Calls Tryz.prog 110 #[.string s, .int .i64 (u : Int)] w fun e w' => e = .returned (.bool (plB s u)) ∧ Below w.heap.size w w' := by
 by_cases h : s.size = 28
 ·have t1 : ((s.size : Int) == 28) = true := by rw [h]; rfl
  have hT := fun W => Tryz.strings_Trim_one (s.extract u s.size) 0 (by decide) W (by rw [ByteArray.size_extract]; omega)
  rw [show (s.extract u s.size).data.toList = s.data.toList.drop u by
   rw [ByteArray.data_extract, Array.toList_extract]
   simp only [List.extract, Nat.sub_eq]
   rw [List.take_of_length_le]
   rw [List.length_drop, Array.length_toList]
   exact Nat.le_refl _] at hT
  have hp : plB s u = zerosB (s.data.toList.drop u) := by
   unfold plB
   rw [show (s.size == 28) = true by rw [h]; rfl, Bool.true_and]
  obtain ⟨T, hTT⟩ : ∃ T, Lib.trimB (s.data.toList.drop u) 0 = T := ⟨_, rfl⟩
  have hz : (⟨T.toArray⟩ : ByteArray).toList.isEmpty = plB s u := by
   rw [hp, Bool.eq_iff_iff, List.isEmpty_iff, ByteArray.toList_eq, ← trim_nil, hTT]
  rw [hTT] at hT
  obtain ⟨B, hB⟩ : ∃ B, plB s u = B := ⟨_, rfl⟩
  obtain ⟨V, hV⟩ : ∃ V : ByteArray, ⟨T.toArray⟩ = V := ⟨_, rfl⟩
  rw [hB, hV] at hz
  rw [hV] at hT
  rw [hB]
  have u0 : (0 : Int) ≤ (u : Int) := by omega
  have u1 : (u : Int) ≤ 28 := by omega
  have u2 : (s.size : Int) = 28 := by omega
  have u3 : (u : Int) ≤ (s.size : Int) := by omega
  replace hT := Lib.hid hT
  clear hB hV hTT hp h
  go_enter Tryz.func110, Tryz.ntmps110
  go_wp2_with fail
  refine (hT.out _).mono ?_
  rintro e w1 ⟨rfl, hw⟩
  have hbl : Below w.heap.size w w1 := by
   rcases hw with rfl | rfl
   ·exact Below.refl _ _
   ·exact chainN (Below.refl _ _) 1
  go_wp2
  go_ret
  exact ⟨rfl, hbl⟩
 ·have t1 : ((s.size : Int) == 28) = false := by rw [beq_eq_false_iff_ne]; omega
  have hp : plB s u = false := by
   unfold plB
   rw [show (s.size == 28) = false by rw [beq_eq_false_iff_ne]; exact h, Bool.false_and]
  rw [hp]
  clear h hp
  go_enter Tryz.func110, Tryz.ntmps110
  go_wp2
  go_ret
  exact ⟨rfl, Below.refl _ _⟩
theorem pl_py {f : Fr} {u : Nat} (hu : f.len = (u : Int)) : plB f.pay u = !pyB f := by
 unfold plB pyB
 rw [hu, Int.toNat_natCast]
 cases h : (f.pay.size == 28)
 ·rw [show (f.pay.size != 28) = true by simpa using h]
  rfl
 ·rw [show (f.pay.size != 28) = false by simpa using h]
  simp
set_option maxHeartbeats 4000000 in
theorem check_rest (f : Fr) (w : World) (hp : f.pay.size ≤ 9223372036854775807) (hk : (f.kind != 66) = false ∨ ((f.kind != 66) = true ∧ (f.kind != 68) = false)) :
  Calls Tryz.prog 67 #[f.val] w fun e w' => e = .returned (.int .i64 (if rgB f then 2 else if pyB f then 1 else 0)) ∧ Below w.heap.size w w' := by
 have cN := fun W => numbers_own f W
 have hb0 : Below w.heap.size w (w.alloc (.cells f.cells 44)) := (Below.refl _ _).alloc (Nat.le_refl _) _
 have hvB : VAt (w.alloc (.cells f.cells 44)) w.heap.size f.cells.toList := vat_alloc w _ f.cells.toList
 have hsB : w.heap.size < (w.alloc (.cells f.cells 44)).heap.size := by simp
 rcases hr : rgB f with _ | _
 ·rw [hr] at cN
  have hl : 0 ≤ f.len ∧ f.len ≤ 28 := by
   unfold rgB at hr
   simp only [Bool.or_eq_false_iff, decide_eq_false_iff_not] at hr
   omega
  obtain ⟨u, hu⟩ : ∃ u : Nat, f.len = (u : Int) := ⟨f.len.toNat, by omega⟩
  have cP := fun W => payload_own f.pay u W hp (by omega)
  rw [pl_py hu] at cP
  obtain ⟨B, hB⟩ : ∃ B, pyB f = B := ⟨_, rfl⟩
  rw [hB] at cP
  rw [hB]
  replace cN := Lib.hid cN
  replace cP := Lib.hid cP
  obtain ⟨kind, reel, sess, idx, len, data, spare, arch, pay⟩ := f
  unfold Fr.val Fr.cells at *
  dsimp only at *
  subst hu
  clear hB hr hl hp
  rcases hk with hk | ⟨hk, hk2⟩
  all_goals
   rcases B with _ | _
   all_goals
    go_enter Tryz.func67, Tryz.ntmps67
    go_wp2_with fail
    refine (cN.out _).mono ?_
    rintro e w1 ⟨rfl, hb1⟩
    obtain ⟨a0, a1, a2, a3, a4, a5, a6, a7, a8, _, _, _, _, _, _, _, _, _⟩ := cells9 (hvB.below hb1 hsB)
    go_wp2_with fail
    refine (cP.out _).mono ?_
    rintro e w2 ⟨rfl, hb2⟩
    go_wp2
    go_ret
    exact ⟨rfl, chain hb0 (chain hb1 hb2)⟩
 ·rw [hr] at cN
  replace cN := Lib.hid cN
  obtain ⟨kind, reel, sess, idx, len, data, spare, arch, pay⟩ := f
  unfold Fr.val Fr.cells at *
  dsimp only at *
  clear hr hp hvB hsB
  rcases hk with hk | ⟨hk, hk2⟩
  all_goals
   go_enter Tryz.func67, Tryz.ntmps67
   go_wp2_with fail
   refine (cN.out _).mono ?_
   rintro e w1 ⟨rfl, hb1⟩
   go_wp2
   go_ret
   exact ⟨rfl, chain hb0 hb1⟩
theorem check_own (f : Fr) (w : World) (hf : Fit f) : Calls Tryz.prog 67 #[f.val] w fun e w' => e = .returned (.int .i64 (ckE f)) ∧ Below w.heap.size w w' := by
 unfold ckE kdB
 rcases h1 : (f.kind != 66) with _ | _
 ·exact check_rest f w hf.size (.inl h1)
 ·rcases h2 : (f.kind != 68) with _ | _
  ·exact check_rest f w hf.size (.inr ⟨h1, h2⟩)
  ·have hb0 : Below w.heap.size w (w.alloc (.cells f.cells 44)) := (Below.refl _ _).alloc (Nat.le_refl _) _
   obtain ⟨kind, reel, sess, idx, len, data, spare, arch, pay⟩ := f
   unfold Fr.val Fr.cells at *
   dsimp only at *
   go_enter Tryz.func67, Tryz.ntmps67
   go_wp2
   go_ret
   exact ⟨rfl, hb0⟩
end F13
namespace F13
open Go.RowKit Mem

theorem bor_byte {v : Nat} (b : UInt8) (h : v * 256 < 4611686018427387904) : bits .or .i64 ((v : Int) * 256) (b.toNat : Int) = (v : Int) * 256 + (b.toNat : Int) := by
 have hb := b.toNat_lt
 have hx : v * 256 ||| b.toNat = v * 256 + b.toNat := or_byte v b
 have e : ∀ a : Nat, a < 9223372036854775808 → (BitVec.ofInt 64 (a : Int)).toNat = a := fun a ha => by
  rw [BitVec.ofInt_natCast, BitVec.toNat_ofNat]
  exact Nat.mod_eq_of_lt (by omega)
 rw [show (v : Int) * 256 = ((v * 256 : Nat) : Int) by simp]
 show IntKind.i64.wrap ((BitVec.ofInt 64 ((v * 256 : Nat) : Int) ||| BitVec.ofInt 64 (b.toNat : Int)).toNat : Int) = _
 rw [BitVec.toNat_or, e _ (by omega), e _ (by omega), hx, IntKind.wrap_i64]
 omega
set_option maxHeartbeats 4000000 in
theorem number_own (n m : Nat) (w : World) (hn : n ≤ 4294967295) (hm : m ≤ 4) : Calls Tryz.prog 111 #[.int .i64 (n : Int), .int .i64 (m : Int)] w fun e w' => e = .returned (.string (nbS n m)) ∧ Below w.heap.size w w' := by
 obtain ⟨l0, hl0, hmk⟩ := I11.make_bytesI w m (by omega)
 have hB0 : BAt (w.alloc (.cells l0.toArray 5)) w.heap.size (nbl n m 0) := by
  rw [hl0, nbl_zero]
  exact I11.made_at w _ _
 have hb0 : Below w.heap.size w (w.alloc (.cells l0.toArray 5)) := (Below.refl _ w).alloc (Nat.le_refl _) _
 obtain ⟨W0, hW0⟩ : ∃ W0, w.alloc (.cells l0.toArray 5) = W0 := ⟨_, rfl⟩
 obtain ⟨G, hG⟩ : ∃ G, w.heap.size = G := ⟨_, rfl⟩
 rw [hW0, hG] at hmk hB0 hb0
 have hlen := fun k => nbl_len n m k
 have hstep := fun k q (h : k < m) (hq : m - 1 - k = q) => nbl_step n m k q h hq
 have hfin : (⟨(nbl n m m).toArray⟩ : ByteArray) = nbS n m := rfl
 obtain ⟨M, hM⟩ : ∃ M : Nat → List UInt8, nbl n m = M := ⟨_, rfl⟩
 rw [hM] at hB0 hlen hstep hfin
 replace hB0 := Lib.hid hB0
 replace hlen := Lib.hid hlen
 replace hstep := Lib.hid hstep
 replace hfin := Lib.hid hfin
 replace hb0 := Lib.hid hb0
 have hGh := Lib.hid hG
 clear hl0 hW0 hM
 go_enter Tryz.func111, Tryz.ntmps111
 go_wp2
 go_loopw [11] (fun iv wr => ∃ k : Nat, k ≤ m ∧ iv = .int .i64 (k : Int) ∧ Hid (BAt wr G (M k)) ∧ Hid (Below G w wr)) (fun iv _ => m - (intOf iv).toNat)
 case atStart => exact ⟨0, Nat.zero_le _, rfl, hB0, hb0⟩
 case round =>
  clear hB0 hb0 hmk
  obtain ⟨k, hk, rfl, hg, hb⟩ := hrel
  by_cases hlt : k < m
  ·obtain ⟨q, hq⟩ : ∃ q, m - 1 - k = q := ⟨_, rfl⟩
   have hg2 := hg.out.set (k := q) (by rw [hlen.out]; omega) (UInt8.ofNat (n / 256 ^ k))
   rw [hstep.out k q hlt hq] at hg2
   have hql : q < (M k).length := by rw [hlen.out]; omega
   obtain ⟨o1, o2⟩ := hg.out q hql
   obtain ⟨old, hold⟩ : ∃ x, (M k)[q]'hql = x := ⟨_, rfl⟩
   rw [hold] at o1
   obtain ⟨m1, hm1⟩ : ∃ m1 : Nat, m = m1 + 1 := ⟨m - 1, by omega⟩
   have p1 : (m : Int) - 1 = (m1 : Int) := by omega
   have p2 : (m1 : Int) - (k : Int) = (q : Int) := by omega
   have q0 : (0 : Int) ≤ (q : Int) := by omega
   have q1 : (q : Int) < (m : Int) := by omega
   have k3 : k = 0 ∨ k = 1 ∨ k = 2 ∨ k = 3 := by omega
   have hb2 := Lib.hid (hb.out.setCell (p := ⟨G, q, none⟩) (Nat.le_refl G) (.int .u8 ((UInt8.ofNat (n / 256 ^ k)).toNat : Int)))
   have hg2 := Lib.hid hg2
   have d1 : decide ((k : Int) < (m : Int)) = true := decide_eq_true (by omega)
   clear hold hql hg hb hstep hfin hlen hm1 hq
   have hv : (n : Int) / 2 ^ (8 * k) % 256 = ((UInt8.ofNat (n / 256 ^ k)).toNat : Int) := by
    rw [UInt8.toNat_ofNat', show (256 : Nat) ^ k = 2 ^ (8 * k) by rw [Nat.pow_mul]]
    simp
   replace hv := Lib.hid hv
   go_wp2
   rw [hv.out]
   go_roundw
   case rel => exact ⟨k + 1, by omega, by go_num, hg2, hb2⟩
   case measure => simp [intOf]; omega
  ·obtain rfl : k = m := by omega
   have hc := hg.out.conv (P := Tryz.prog) (cap := k) (n := k) (hlen.out k) Tryz.underlying53 Tryz.underlying5 Tryz.underlying9
   rw [hfin.out] at hc
   have hb2 := hb.out
   clear hg hb hlen hstep hfin
   go_wp2
   go_ret
   exact ⟨rfl, by rw [hGh.out]; exact hb2⟩
set_option maxHeartbeats 4000000 in
theorem value_own (s : ByteArray) (w : World) (hs : s.size ≤ 4) : Calls Tryz.prog 138 #[.string s] w fun e w' => e = .returned (.int .i64 (vlN s.data.toList : Int)) ∧ w = w' := by
 have hl : s.data.toList.length = s.size := by simp
 go_enter Tryz.func138, Tryz.ntmps138
 go_wp2
 go_loop [3, 7] (fun v i => ∃ k : Nat, k ≤ s.size ∧ i = .int .i64 (k : Int) ∧ v = .int .i64 (vlN (s.data.toList.take k) : Int)) (fun _ i => s.size - (intOf i).toNat)
 case atStart => exact ⟨0, Nat.zero_le _, rfl, rfl⟩
 case round =>
  obtain ⟨k, hk, rfl, rfl⟩ := hrel
  by_cases hlt : k < s.size
  ·have hv := vlN_lt (s.data.toList.take k)
   rw [List.length_take, hl, Nat.min_eq_left hk] at hv
   have hp : 256 ^ k ≤ 256 ^ 3 := Nat.pow_le_pow_right (by decide) (by omega)
   have hst : vlN (s.data.toList.take (k + 1)) = vlN (s.data.toList.take k) * 256 + (s[k]'hlt).toNat := by
    rw [List.take_succ_eq_append_getElem (by omega), vlN_snoc]
    rfl
   obtain ⟨v, hvv⟩ : ∃ v, vlN (s.data.toList.take k) = v := ⟨_, rfl⟩
   rw [hvv] at hv hst ⊢
   have hbor := bor_byte (v := v) (s[k]'hlt) (by omega)
   have k0 : (0 : Int) ≤ (k : Int) := by omega
   have k1 : (k : Int) < (s.size : Int) := by omega
   have v1 : (v : Int) < 16777216 := by omega
   replace hst := Lib.hid hst
   replace hbor := Lib.hid hbor
   clear hvv hv hp
   go_wp2
   go_round
   case rel => exact ⟨k + 1, by omega, by go_num, by
    rw [hst.out, show wrap64 ((s[k]'hlt).toNat : Int) = ((s[k]'hlt).toNat : Int) by have := (s[k]'hlt).toNat_lt; unfold wrap64; omega, hbor.out]
    simp⟩
   case measure => simp [intOf]; omega
  ·have hfin := Lib.hid (show vlN s.data.toList = vlN (s.data.toList.take k) by rw [List.take_of_length_le (by omega)])
   go_wp2
   go_ret
   exact ⟨ret_i (by rw [hfin.out]), rfl⟩
theorem checksum_own (s : ByteArray) (w : World) (hs : s.size ≤ 1000000) : Calls Tryz.prog 69 #[.string s] w fun e w' => e = .returned (.string ⟨(K3.byL (K3.sumL s.data.toList)).toArray⟩) ∧ Below w.heap.size w w' := by
 have cS : ∀ W : World, Calls Tryz.prog 113 #[.slice (some ⟨W.heap.size, 0, none⟩) 1 1] (W.alloc (.cells #[.string s] 9)) fun e w' => e = .returned (.int .u32 ((K3.sumL s.data.toList).toNat : Int)) ∧ Below W.heap.size W w' := fun W => by
  have h := K3.sum_any (some ⟨W.heap.size, 0, none⟩) 1 [s.data.toList] (W.alloc (.cells #[.string s] 9)) (by simpa using hs) (by simp) (by simp) (by decide) (rd_one W 9 s)
  rw [show K3.joinL [s.data.toList] = s.data.toList by simp [K3.joinL]] at h
  exact h.mono fun e w' ⟨a, b⟩ => ⟨a, b ▸ (Below.refl _ _).alloc (Nat.le_refl _) _⟩
 have cB := fun W => K3.bytes_any (K3.sumL s.data.toList) W
 obtain ⟨Q, hQ⟩ : ∃ Q, (⟨(K3.byL (K3.sumL s.data.toList)).toArray⟩ : ByteArray) = Q := ⟨_, rfl⟩
 obtain ⟨K, hK⟩ : ∃ K, K3.sumL s.data.toList = K := ⟨_, rfl⟩
 rw [hK] at cS cB hQ
 rw [hK, hQ]
 rw [hQ] at cB
 replace cS := Lib.hid cS
 replace cB := Lib.hid cB
 clear hQ hK
 go_enter Tryz.func69, Tryz.ntmps69
 go_wp2_with fail
 refine (cS.out _).mono ?_
 rintro e w1 ⟨rfl, hb1⟩
 go_wp2_with fail
 refine (cB.out _).mono ?_
 rintro e w2 ⟨rfl, hb2⟩
 go_wp2
 go_ret
 exact ⟨rfl, chain hb1 hb2⟩
end F13
namespace F13
open Go.RowKit Mem

theorem num_int (n : Int) (m : Nat) (w : World) (h0 : 0 ≤ n) (hn : n ≤ 4294967295) (hm : m ≤ 4) : Calls Tryz.prog 111 #[.int .i64 n, .int .i64 (m : Int)] w fun e w' => e = .returned (.string (nbS n.toNat m)) ∧ Below w.heap.size w w' := by
 have := number_own n.toNat m w (by omega) hm
 rwa [Int.toNat_of_nonneg h0] at this
theorem nbS_size (n m : Nat) : (nbS n m).size = m := nbl_len n m m
theorem nbS_list (n m : Nat) : (nbS n m).data.toList = nbl n m m := rfl
set_option maxHeartbeats 8000000 in
theorem header_own (f : Fr) (w : World) (h : Valid f) :
  Calls Tryz.prog 68 #[f.val] w fun e w' => e = .returned (.string ⟨(hdL f).toArray⟩) ∧ Below w.heap.size w w' := by
 have hparts := hd_parts h
 have h1 := h.kind
 have h2 := h.data
 have h3 := h.spare
 have h4 := h.reel
 have h5 := h.sess
 have h6 := h.idx
 have h7 := h.len
 obtain ⟨kind, reel, sess, idx, len, data, spare, arch, pay⟩ := f
 obtain ⟨l, hl⟩ : ∃ l, hdL (Fr.mk kind reel sess idx len data spare arch pay) = l := ⟨_, rfl⟩
 rw [hl] at hparts ⊢
 dsimp only at *
 have hx := arch.isLt
 have c0 := fun W => num_int kind 1 W (by omega) (by omega) (by decide)
 have c1 := fun W => num_int reel 1 W (by omega) (by omega) (by decide)
 have c2 := fun W => num_int sess 2 W (by omega) (by omega) (by decide)
 have c3 := fun W => num_int idx 2 W (by omega) (by omega) (by decide)
 have c4 := fun W => num_int len 1 W (by omega) (by omega) (by decide)
 have c5 := fun W => num_int (16 * data + spare) 1 W (by omega) (by omega) (by decide)
 have c6 := fun W => num_int (arch.toNat : Int) 4 W (by omega) (by omega) (by decide)
 rw [Int.toNat_natCast] at c6
 have z0 := nbS_size kind.toNat 1
 have z1 := nbS_size reel.toNat 1
 have z2 := nbS_size sess.toNat 2
 have z3 := nbS_size idx.toNat 2
 have z4 := nbS_size len.toNat 1
 have z5 := nbS_size (16 * data + spare).toNat 1
 have z6 := nbS_size arch.toNat 4
 have hsum : nbS kind.toNat 1 ++ nbS reel.toNat 1 ++ nbS sess.toNat 2 ++ nbS idx.toNat 2 ++ nbS len.toNat 1 ++ nbS (16 * data + spare).toNat 1 ++ nbS arch.toNat 4 = ⟨l.toArray⟩ := str_eq (by
  simp only [app_list, nbS_list]
  exact hparts)
 have m1 : ((1 : Nat) : Int) = 1 := rfl
 have m2 : ((2 : Nat) : Int) = 2 := rfl
 have m4 : ((4 : Nat) : Int) = 4 := rfl
 rw [m1] at c0 c1 c4 c5
 rw [m2] at c2 c3
 rw [m4] at c6
 obtain ⟨ly, hly⟩ : ∃ ly, 16 * data + spare = ly := ⟨_, rfl⟩
 rw [hly] at c5 z5 hsum
 obtain ⟨s0, e0⟩ : ∃ s, nbS kind.toNat 1 = s := ⟨_, rfl⟩
 obtain ⟨s1, e1⟩ : ∃ s, nbS reel.toNat 1 = s := ⟨_, rfl⟩
 obtain ⟨s2, e2⟩ : ∃ s, nbS sess.toNat 2 = s := ⟨_, rfl⟩
 obtain ⟨s3, e3⟩ : ∃ s, nbS idx.toNat 2 = s := ⟨_, rfl⟩
 obtain ⟨s4, e4⟩ : ∃ s, nbS len.toNat 1 = s := ⟨_, rfl⟩
 obtain ⟨s5, e5⟩ : ∃ s, nbS ly.toNat 1 = s := ⟨_, rfl⟩
 obtain ⟨s6, e6⟩ : ∃ s, nbS arch.toNat 4 = s := ⟨_, rfl⟩
 rw [e0] at c0 z0 hsum
 rw [e1] at c1 z1 hsum
 rw [e2] at c2 z2 hsum
 rw [e3] at c3 z3 hsum
 rw [e4] at c4 z4 hsum
 rw [e5] at c5 z5 hsum
 rw [e6] at c6 z6 hsum
 obtain ⟨p1, f1⟩ : ∃ p, s0 ++ s1 = p := ⟨_, rfl⟩
 have y1 : p1.size = 2 := by rw [← f1, ByteArray.size_append]; omega
 rw [f1] at hsum
 obtain ⟨p2, f2⟩ : ∃ p, p1 ++ s2 = p := ⟨_, rfl⟩
 have y2 : p2.size = 4 := by rw [← f2, ByteArray.size_append]; omega
 rw [f2] at hsum
 obtain ⟨p3, f3⟩ : ∃ p, p2 ++ s3 = p := ⟨_, rfl⟩
 have y3 : p3.size = 6 := by rw [← f3, ByteArray.size_append]; omega
 rw [f3] at hsum
 obtain ⟨p4, f4⟩ : ∃ p, p3 ++ s4 = p := ⟨_, rfl⟩
 have y4 : p4.size = 7 := by rw [← f4, ByteArray.size_append]; omega
 rw [f4] at hsum
 obtain ⟨p5, f5⟩ : ∃ p, p4 ++ s5 = p := ⟨_, rfl⟩
 have y5 : p5.size = 8 := by rw [← f5, ByteArray.size_append]; omega
 rw [f5] at hsum
 obtain ⟨S, hS⟩ : ∃ S : ByteArray, ⟨l.toArray⟩ = S := ⟨_, rfl⟩
 rw [hS] at hsum ⊢
 obtain ⟨X, hX⟩ : ∃ X, arch.toNat = X := ⟨_, rfl⟩
 rw [hX] at hx c6
 have r1 : ∀ W, (Op.stringOp .add s0 s1).run Tryz.prog W = .ok (.string p1) W := fun W => by rw [← f1]; exact Go.run_string_add_sum _ _ _ (by omega)
 have r2 : ∀ W, (Op.stringOp .add p1 s2).run Tryz.prog W = .ok (.string p2) W := fun W => by rw [← f2]; exact Go.run_string_add_sum _ _ _ (by omega)
 have r3 : ∀ W, (Op.stringOp .add p2 s3).run Tryz.prog W = .ok (.string p3) W := fun W => by rw [← f3]; exact Go.run_string_add_sum _ _ _ (by omega)
 have r4 : ∀ W, (Op.stringOp .add p3 s4).run Tryz.prog W = .ok (.string p4) W := fun W => by rw [← f4]; exact Go.run_string_add_sum _ _ _ (by omega)
 have r5 : ∀ W, (Op.stringOp .add p4 s5).run Tryz.prog W = .ok (.string p5) W := fun W => by rw [← f5]; exact Go.run_string_add_sum _ _ _ (by omega)
 have r6 : ∀ W, (Op.stringOp .add p5 s6).run Tryz.prog W = .ok (.string S) W := fun W => by rw [← hsum]; exact Go.run_string_add_sum _ _ _ (by omega)
 have ly1 : 0 ≤ ly ∧ ly ≤ 255 := by omega
 unfold Fr.val Fr.cells
 dsimp only
 rw [hX]
 have hb0 : Below w.heap.size w (w.alloc (.cells #[.int .i64 kind, .int .i64 reel, .int .i64 sess, .int .i64 idx, .int .i64 len, .int .i64 data, .int .i64 spare, .int .u32 (X : Int), .string pay] 44)) := (Below.refl _ _).alloc (Nat.le_refl _) _
 have hvB : VAt (w.alloc (.cells #[.int .i64 kind, .int .i64 reel, .int .i64 sess, .int .i64 idx, .int .i64 len, .int .i64 data, .int .i64 spare, .int .u32 (X : Int), .string pay] 44)) w.heap.size [.int .i64 kind, .int .i64 reel, .int .i64 sess, .int .i64 idx, .int .i64 len, .int .i64 data, .int .i64 spare, .int .u32 (X : Int), .string pay] := vat_alloc w _ [.int .i64 kind, .int .i64 reel, .int .i64 sess, .int .i64 idx, .int .i64 len, .int .i64 data, .int .i64 spare, .int .u32 (X : Int), .string pay]
 have hsB : w.heap.size < (w.alloc (.cells #[.int .i64 kind, .int .i64 reel, .int .i64 sess, .int .i64 idx, .int .i64 len, .int .i64 data, .int .i64 spare, .int .u32 (X : Int), .string pay] 44)).heap.size := by simp
 have hx1 : (X : Int) < 4294967296 := by omega
 have wx : IntKind.i64.wrap (X : Int) = (X : Int) := IntWalk.i64_in _ (by omega)
 replace c0 := Lib.hid c0
 replace c1 := Lib.hid c1
 replace c2 := Lib.hid c2
 replace c3 := Lib.hid c3
 replace c4 := Lib.hid c4
 replace c5 := Lib.hid c5
 replace c6 := Lib.hid c6
 clear e0 e1 e2 e3 e4 e5 e6 f1 f2 f3 f4 f5 hS hsum hparts hl h hX z0 z1 z2 z3 z4 z5 z6 y1 y2 y3 y4 y5 h1 h4 h5 h6 h7
 go_enter Tryz.func68, Tryz.ntmps68
 go_wp2_with fail
 obtain ⟨W0, hW0⟩ : ∃ W0, w.alloc (.cells #[.int .i64 kind, .int .i64 reel, .int .i64 sess, .int .i64 idx, .int .i64 len, .int .i64 data, .int .i64 spare, .int .u32 (X : Int), .string pay] 44) = W0 := ⟨_, rfl⟩
 rw [hW0] at hb0 hvB hsB ⊢
 have rule := fun (W : World) (h : Below W0.heap.size W0 W) => cells9 (hvB.below h hsB)
 have l0 := fun W h => (rule W h).c0
 have l1 := fun W h => (rule W h).c1
 have l2 := fun W h => (rule W h).c2
 have l3 := fun W h => (rule W h).c3
 have l4 := fun W h => (rule W h).c4
 have l7 := fun W h => (rule W h).c7
 have keep0 := Below.refl W0.heap.size W0
 have keep1 : ∀ W, Below W0.heap.size W0 W → Below W0.heap.size W0 (World.drew W) := fun W h => chainN h 1
 clear rule hvB hsB hW0
 go_region_held3 (fun W => Below W0.heap.size W0 W) (first | exact keep0 | exact keep1 _ keep0 | exact chain ‹_› ‹_› | assumption) (first | (go_at_call 111; (first | (with_reducible refine (c0.out _).mono ?_) | (with_reducible refine (c1.out _).mono ?_) | (with_reducible refine (c2.out _).mono ?_) | (with_reducible refine (c3.out _).mono ?_) | (with_reducible refine (c4.out _).mono ?_) | (with_reducible refine (c5.out _).mono ?_) | (with_reducible refine (c6.out _).mono ?_)); rintro e w9 ⟨rfl, hb9⟩))
 go_wp2
 go_ret
 exact ⟨rfl, chain hb0 (by assumption)⟩
set_option maxHeartbeats 4000000 in
theorem marshal_own (f : Fr) (w : World) (hf : Fit f) :
  Calls Tryz.prog 33 #[f.val] w fun e w' => e = .returned (.tuple #[.string (mS f), .int .i64 (ckE f)]) ∧ Below w.heap.size w w' := by
 have cC := Lib.hid (fun W => check_own f W hf)
 have hb0 : Below w.heap.size w (w.alloc (.cells f.cells 44)) := (Below.refl _ _).alloc (Nat.le_refl _) _
 by_cases h0 : ckE f = 0
 ·rw [mS_ok h0]
  rw [h0] at cC ⊢
  have hv := (valid_iff f).1 h0
  have cH := fun W => header_own f W hv
  obtain ⟨hd, hhd⟩ : ∃ hd, (⟨(hdL f).toArray⟩ : ByteArray) = hd := ⟨_, rfl⟩
  rw [hhd] at cH
  replace cH := Lib.hid cH
  have hds : hd.size = 12 := by rw [← hhd]; rfl
  have hbl : (hd ++ f.pay).data.toList = bodyL f := by rw [app_list, ← hhd]; rfl
  have hbs : (hd ++ f.pay).size = 40 := by rw [← bodyL_len hv, ← hbl]; simp
  have cS := fun W => checksum_own (hd ++ f.pay) W (by omega)
  rw [hbl] at cS
  have hms : (hd ++ f.pay) ++ (⟨(K3.byL (K3.sumL (bodyL f))).toArray⟩ : ByteArray) = ⟨(msgL f).toArray⟩ := str_eq (by rw [app_list, hbl]; rfl)
  have hcs : (⟨(K3.byL (K3.sumL (bodyL f))).toArray⟩ : ByteArray).size = 4 := rfl
  obtain ⟨Q, hQ⟩ : ∃ Q, (⟨(K3.byL (K3.sumL (bodyL f))).toArray⟩ : ByteArray) = Q := ⟨_, rfl⟩
  obtain ⟨M, hM⟩ : ∃ M, (⟨(msgL f).toArray⟩ : ByteArray) = M := ⟨_, rfl⟩
  rw [hQ] at cS hms hcs
  rw [hM] at hms ⊢
  replace cS := Lib.hid cS
  obtain ⟨B, hB⟩ : ∃ B, hd ++ f.pay = B := ⟨_, rfl⟩
  rw [hB] at cS hms hbs
  have hsp := hv.size
  have s1 : (hd.size : Int) ≤ 12 := by omega
  have s2 : (f.pay.size : Int) ≤ 28 := by omega
  have s3 : (B.size : Int) ≤ 40 := by omega
  have s5 : ¬ 9223372036854775807 < hd.size + f.pay.size := by omega
  have s6 : ¬ 9223372036854775807 < B.size + Q.size := by omega
  have s4 : (Q.size : Int) ≤ 4 := by omega
  clear hQ hM hbl hds hbs hcs h0 hhd hf hv hsp
  have hbox := fun (i : Nat) (v : Value) (h : f.cells[i]? = some v) => (show (w.alloc (.cells f.cells 44)).cell? ⟨w.heap.size, i, none⟩ = some v by rw [World.cell?_alloc_new]; exact h)
  have hsz0 : w.heap.size < (w.alloc (.cells f.cells 44)).heap.size := by simp
  obtain ⟨kind, reel, sess, idx, len, data, spare, arch, pay⟩ := f
  unfold Fr.val at *
  dsimp only at *
  unfold Fr.cells at *
  dsimp only at *
  go_enter Tryz.func33, Tryz.ntmps33
  go_wp2_with fail
  refine (cC.out _).mono ?_
  rintro e w1 ⟨rfl, hb1⟩
  have cell := fun (i : Nat) (v : Value) h (W : World) (k : Below w1.heap.size w1 W) => (k.cell (p := ⟨w.heap.size, i, none⟩) (Nat.lt_of_lt_of_le hsz0 hb1.size)).trans ((hb1.cell (p := ⟨w.heap.size, i, none⟩) hsz0).trans (hbox i v h))
  have l0 := cell 0 _ rfl
  have l1 := cell 1 _ rfl
  have l2 := cell 2 _ rfl
  have l3 := cell 3 _ rfl
  have l4 := cell 4 _ rfl
  have l5 := cell 5 _ rfl
  have l6 := cell 6 _ rfl
  have l7 := cell 7 _ rfl
  have l8 := cell 8 _ rfl
  have hbw := chain hb0 hb1
  have keep0 := Below.refl w1.heap.size w1
  have keep1 : ∀ W, Below w1.heap.size w1 W → Below w1.heap.size w1 (World.drew W) := fun W h => chainN h 1
  clear cell hbox hsz0 hb1 hb0
  go_wp2_with fail
  go_region_held3 (fun W => Below w1.heap.size w1 W) (first | exact keep0 | exact keep1 _ keep0 | exact chain ‹_› ‹_› | assumption) (first | (go_at_call 68; (with_reducible refine (cH.out _).mono ?_); rintro e w9 ⟨rfl, hb9⟩))
  go_wp2_with fail
  refine (cS.out _).mono ?_
  rintro e w2 ⟨rfl, hb2⟩
  go_wp2
  go_ret2
  exact ⟨rfl, chain hbw (chain (by assumption) hb2)⟩
 ·rw [mS_no h0]
  obtain ⟨k, hk⟩ : ∃ k, ckE f = k := ⟨_, rfl⟩
  rw [hk] at cC h0 ⊢
  have d1 : (k != 0) = true := bne_iff_ne.2 h0
  obtain ⟨kind, reel, sess, idx, len, data, spare, arch, pay⟩ := f
  unfold Fr.val Fr.cells at *
  dsimp only at *
  clear hk h0 hf
  go_enter Tryz.func33, Tryz.ntmps33
  go_wp2_with fail
  refine (cC.out _).mono ?_
  rintro e w1 ⟨rfl, hB⟩
  go_wp2
  go_ret2
  exact ⟨rfl, chain hb0 hB⟩
end F13
namespace F13
open Go.RowKit Mem

theorem frOf_take {l : List UInt8} (h : l.length = 44) : frOf (l.take 40) = frOf l := by
 have hb : ∀ i, i < 40 → bt (l.take 40) i = bt l i := fun i hi => by
  unfold bt
  rw [List.getD_eq_getElem?_getD, List.getD_eq_getElem?_getD, List.getElem?_take_of_lt hi]
 unfold frOf
 rw [hb 0 (by decide), hb 1 (by decide), hb 2 (by decide), hb 3 (by decide), hb 4 (by decide), hb 5 (by decide), hb 6 (by decide), hb 7 (by decide), hb 8 (by decide), hb 9 (by decide), hb 10 (by decide), hb 11 (by decide), List.drop_take, List.take_take]
 rfl
theorem frOf_fit (l : List UInt8) : Fit (frOf l) := by
 have b := fun i => bt_fit l i
 have b0 := b 0
 have b1 := b 1
 have b2 := b 2
 have b3 := b 3
 have b4 := b 4
 have b5 := b 5
 have b6 := b 6
 have b7 := b 7
 unfold frOf
 refine ⟨?_, ?_, ?_, ?_, ?_, ?_, ?_, ?_⟩
 all_goals dsimp only
 any_goals omega
 show ((l.drop 12).take 28).length ≤ _
 rw [List.length_take]
 omega
set_option maxHeartbeats 8000000 in
theorem fields_own (s : ByteArray) (w : World) (hs : s.size = 40) : Calls Tryz.prog 87 #[.string s] w fun e w' => e = .returned (frOf s.data.toList).val ∧ Below w.heap.size w w' := by
 have hl : s.data.toList.length = 40 := by simpa using hs
 obtain ⟨n0, n1, n2, n3, n4, n5, n6, n7, n8, n9, na, nb, D1, D2, hbd⟩ := bd_of s.data.toList
 have hfr := hbd.fr
 have hpay : (⟨((s.data.toList.drop 12).take 28).toArray⟩ : ByteArray) = s.extract 12 40 := str_eq (by rw [ext_list, List.drop_take])
 rw [hpay] at hfr
 have cv : ∀ (i j : Nat) (n : Int), j ≤ i + 4 → (vlN ((s.data.toList.take j).drop i) : Int) = n → ∀ W, Calls Tryz.prog 138 #[.string (s.extract i j)] W fun e w' => e = .returned (.int .i64 n) ∧ w' = W := fun i j n hij hn W => by
  have := value_own (s.extract i j) W (by rw [ByteArray.size_extract]; omega)
  rw [ext_list, hn] at this
  exact this.mono fun e w' h => ⟨h.1, h.2.symm⟩
 have o := fun i (hi : i < 40) => vl_one (l := s.data.toList) (i := i) (by omega)
 have u := fun i j (hij : i ≤ j) (hj : j < 40) => vl_succ (l := s.data.toList) hij (show j < s.data.toList.length by omega)
 have c0 := cv 0 1 n0 (by decide) ((o 0 (by decide)).trans hbd.e0)
 have c1 := cv 1 2 n1 (by decide) ((o 1 (by decide)).trans hbd.e1)
 have c2 := cv 2 4 (256 * n2 + n3) (by decide) (by rw [u 2 3 (by decide) (by decide), o 2 (by decide), hbd.e2, hbd.e3]; omega)
 have c4 := cv 4 6 (256 * n4 + n5) (by decide) (by rw [u 4 5 (by decide) (by decide), o 4 (by decide), hbd.e4, hbd.e5]; omega)
 have c6 := cv 6 7 n6 (by decide) ((o 6 (by decide)).trans hbd.e6)
 have c7 := cv 7 8 n7 (by decide) ((o 7 (by decide)).trans hbd.e7)
 have c8 := cv 8 12 (((n8 * 256 + n9) * 256 + na) * 256 + nb) (by decide) (by rw [u 8 11 (by decide) (by decide), u 8 10 (by decide) (by decide), u 8 9 (by decide) (by decide), o 8 (by decide), hbd.e8, hbd.e9, hbd.ea, hbd.eb])
 obtain ⟨e0, e1, e2, e3, e4, e5, e6, e7, e8, e9, ea, eb, q1, q1', q2, q2', b2, b3, b4, b5, b7, b8, b9, ba, bb, _⟩ := hbd
 obtain ⟨x2, hx2⟩ : ∃ x, 256 * n2 + n3 = x := ⟨_, rfl⟩
 obtain ⟨x4, hx4⟩ : ∃ x, 256 * n4 + n5 = x := ⟨_, rfl⟩
 obtain ⟨x8, hx8⟩ : ∃ x, ((n8 * 256 + n9) * 256 + na) * 256 + nb = x := ⟨_, rfl⟩
 rw [hx2] at c2 hfr
 rw [hx4] at c4 hfr
 rw [hx8] at c8 hfr
 have wc : IntKind.u32.wrap x8 = x8 := IntWalk.u32_in _ (by omega)
 have hx80 : 0 ≤ x8 := by omega
 have hx81 : x8 ≤ 4294967295 := by omega
 obtain ⟨F, hF⟩ : ∃ F, frOf s.data.toList = F := ⟨_, rfl⟩
 rw [hF] at hfr ⊢
 unfold Fr.val
 rw [hfr]
 replace c0 := Lib.hid c0
 replace c1 := Lib.hid c1
 replace c2 := Lib.hid c2
 replace c4 := Lib.hid c4
 replace c6 := Lib.hid c6
 replace c7 := Lib.hid c7
 replace c8 := Lib.hid c8
 have i2 : (s.size : Int) = 40 := by omega
 obtain ⟨W0, hW0⟩ : ∃ W0, w.alloc (.cells zeroF.cells 44) = W0 := ⟨_, rfl⟩
 have hb0 : Below w.heap.size w W0 := by rw [← hW0]; exact (Below.refl _ _).alloc (Nat.le_refl _) _
 have hv0 : VAt W0 w.heap.size zeroF.cells.toList := by rw [← hW0]; exact vat_alloc w _ _
 unfold zeroF Fr.cells at hW0
 simp only [BitVec.toNat_ofNat, Nat.zero_mod, Int.natCast_zero] at hW0
 replace hv0 := Lib.hid hv0
 replace hb0 := Lib.hid hb0
 have wd : IntKind.i64.wrap D1 = D1 := IntWalk.i64_in _ (by omega)
 clear hx2 hx4 hx8 hF hfr hpay hl e0 e1 e2 e3 e4 e5 e6 e7 e8 e9 ea eb b2 b3 b4 b5 b8 b9 ba bb cv o u
 go_enter Tryz.func87, Tryz.ntmps87
 go_wp2_with fail
 clear hW0
 refine (c7.out _).mono ?_
 rintro e w1 ⟨rfl, rfl⟩
 go_wp2_with fail
 refine wp_region_still_tail 27 (by kernel_rfl) (by kernel_rfl) ?_
 simp only [List.take_succ_cons, List.take_zero, List.drop_succ_cons, List.drop_zero]
 repeat still_step
 still_call (c0.out _)
 repeat still_step
 still_call (c1.out _)
 repeat still_step
 still_call (c2.out _)
 repeat still_step
 still_call (c4.out _)
 repeat still_step
 still_call (c6.out _)
 repeat still_step
 still_call (c8.out _)
 repeat still_step
 refine wpStill_nil ?_
 have hv1 := hv0.out.drew
 have hb1 := chainN hb0.out 1
 rw [show w1.drewN 1 = w1.drew from rfl] at hb1
 change wpList _ _ _ _ _ w1.drew
 obtain ⟨Wd, hWd⟩ : ∃ W, w1.drew = W := ⟨_, rfl⟩
 rw [hWd] at hv1 hb1 ⊢
 obtain ⟨f0, f1, f2, f3, f4, f5, f6, f7, f8, g0, g1, g2, g3, g4, g5, g6, g7, g8⟩ := cells9 (v0 := .int .i64 0) (v1 := .int .i64 0) (v2 := .int .i64 0) (v3 := .int .i64 0) (v4 := .int .i64 0) (v5 := .int .i64 0) (v6 := .int .i64 0) (v7 := .int .u32 0) (v8 := .string ⟨#[]⟩) hv1
 have hput := Lib.hid (cells9 (putN_all (l := [.int .i64 n0, .int .i64 n1, .int .i64 x2, .int .i64 x4, .int .i64 n6, .int .i64 D1, .int .i64 D2, .int .u32 x8, .string (s.extract 12 40)]) hv1 rfl))
 have hbel := Lib.hid (putN_below (Nat.le_refl _) [.int .i64 n0, .int .i64 n1, .int .i64 x2, .int .i64 x4, .int .i64 n6, .int .i64 D1, .int .i64 D2, .int .u32 x8, .string (s.extract 12 40)] 0 _ hb1)
 obtain ⟨W5, hW5⟩ : ∃ W5, putN w.heap.size Wd 0 [.int .i64 n0, .int .i64 n1, .int .i64 x2, .int .i64 x4, .int .i64 n6, .int .i64 D1, .int .i64 D2, .int .u32 x8, .string (s.extract 12 40)] = W5 := ⟨_, rfl⟩
 rw [hW5] at hput hbel
 simp only [putN] at hW5
 clear hv1 hb1 hv0 hb0 hWd
 go_wp2
 first | rw [hW5] | skip
 obtain ⟨c0', c1', c2', c3', c4', c5', c6', c7', c8', _, _, _, _, _, _, _, _, _⟩ := hput.out
 refine bodyPost_ret (v := .agg #[.int .i64 n0, .int .i64 n1, .int .i64 x2, .int .i64 x4, .int .i64 n6, .int .i64 D1, .int .i64 D2, .int .u32 x8, .string (s.extract 12 40)]) ?_ rfl ⟨rfl, hbel.out⟩
 simp [results, Tryz.results87, go_sem, c0', c1', c2', c3', c4', c5', c6', c7', c8']
set_option maxHeartbeats 16000000 in
theorem unmarshal_own (b : ByteArray) (w : World) (hb : b.size ≤ 1000000) :
  Calls Tryz.prog 47 #[.string b] w fun e w' => e = .returned (.tuple #[(unF b.data.toList).val, .int .i64 (unE b.data.toList)]) ∧ Below w.heap.size w w' := by
 have hll : b.data.toList.length = b.size := by simp
 by_cases h44 : b.size = 44
 ·have t1 : ((b.size : Int) != 44) = false := by rw [h44]; rfl
  have hxs : (b.extract 0 40).size = 40 := by rw [ByteArray.size_extract]; omega
  have cS := fun W => checksum_own (b.extract 0 40) W (by omega)
  have cF := fun W => fields_own (b.extract 0 40) W hxs
  rw [ext_list, List.drop_zero] at cS cF
  rw [frOf_take (by omega)] at cF
  have hq := str_beq (b.extract 40 b.size) ⟨(K3.byL (K3.sumL (b.data.toList.take 40))).toArray⟩
  rw [ext_list, List.take_of_length_le (show b.data.toList.length ≤ b.size by omega)] at hq
  rw [show (⟨(K3.byL (K3.sumL (b.data.toList.take 40))).toArray⟩ : ByteArray).data.toList = K3.byL (K3.sumL (b.data.toList.take 40)) from rfl] at hq
  rw [h44] at hq
  obtain ⟨Q, hQ⟩ : ∃ Q, (⟨(K3.byL (K3.sumL (b.data.toList.take 40))).toArray⟩ : ByteArray) = Q := ⟨_, rfl⟩
  rw [hQ] at cS hq
  replace cS := Lib.hid cS
  have i1 : (40 : Int) ≤ (b.size : Int) := by omega
  have i2 : (b.size : Int) = 44 := by omega
  have keep := fun (w1 W : World) (h : Below w1.heap.size w1 W) => chainN h 1
  by_cases hs : K3.byL (K3.sumL (b.data.toList.take 40)) = b.data.toList.drop 40
  ·obtain ⟨e1, e2⟩ := unE_ok (by omega) hs
   rw [e1, e2]
   rw [decide_eq_true hs.symm] at hq
   have hpay : (⟨((b.data.toList.drop 12).take 28).toArray⟩ : ByteArray) = b.extract 12 40 := str_eq (by
    rw [ext_list, List.drop_take])
   obtain ⟨l, hl⟩ : ∃ l, b.data.toList = l := ⟨_, rfl⟩
   rw [hl] at hpay cF ⊢
   obtain ⟨n0, n1, n2, n3, n4, n5, n6, n7, n8, n9, na, nb, D1, D2, hbd⟩ := bd_of l
   have hfr := hbd.fr
   rw [hpay] at hfr
   have hft := frOf_fit l
   have cC := fun W => check_own (frOf l) W hft
   obtain ⟨F, hF⟩ : ∃ F, frOf l = F := ⟨_, rfl⟩
   rw [hF] at hfr cC cF ⊢
   obtain ⟨m2, hm2⟩ : ∃ m, 256 * n2 + n3 = m := ⟨_, rfl⟩
   obtain ⟨m4, hm4⟩ : ∃ m, 256 * n4 + n5 = m := ⟨_, rfl⟩
   obtain ⟨m8, hm8⟩ : ∃ m, ((n8 * 256 + n9) * 256 + na) * 256 + nb = m := ⟨_, rfl⟩
   rw [hm2, hm4, hm8] at hfr
   unfold Fr.val at cC cF
   rw [hfr] at cC cF
   obtain ⟨V, hV⟩ : ∃ V, (if ckE F = 0 then F else zeroF).val = V := ⟨_, rfl⟩
   obtain ⟨kk, hkk⟩ : ∃ kk, ckE F = kk := ⟨_, rfl⟩
   have hyes : Hid (kk = 0 → V = .agg F.cells) := Lib.hid (fun h => by rw [← hV, if_pos (hkk.trans h)]; rfl)
   have hno : Hid (kk ≠ 0 → V = zeroF.val) := Lib.hid (fun h => by rw [← hV, if_neg (fun e => h (hkk.symm.trans e))])
   rw [hV, hkk]
   rw [hkk] at cC
   clear hV hkk
   replace cC := Lib.hid cC
   replace cF := Lib.hid cF
   have hFr := Lib.hid hfr
   obtain ⟨P, hP⟩ : ∃ P, b.extract 12 40 = P := ⟨_, rfl⟩
   rw [hP] at cC cF hFr
   clear hs e1 e2 hQ hll hb hl hpay hF hft hfr hm2 hm4 hm8 hbd hxs hP
   go_enter Tryz.func47, Tryz.ntmps47
   go_wp2_with fail
   obtain ⟨W0, hW0⟩ : ∃ W0, w.alloc (.cells zeroF.cells 44) = W0 := ⟨_, rfl⟩
   have hb0 : Below w.heap.size w W0 := by rw [← hW0]; exact (Below.refl _ _).alloc (Nat.le_refl _) _
   have hv0 : VAt W0 w.heap.size zeroF.cells.toList := by rw [← hW0]; exact vat_alloc w _ _
   have hs0 : w.heap.size < W0.heap.size := by rw [← hW0]; simp
   unfold zeroF Fr.cells at hW0
   simp only [BitVec.toNat_ofNat, Nat.zero_mod, Int.natCast_zero] at hW0
   rw [hW0]
   clear hW0
   have keep0 := Below.refl W0.heap.size W0
   have keep1 := keep W0
   go_region_held3 (fun W => Below W0.heap.size W0 W) (first | exact keep0 | exact keep1 _ keep0 | exact chain ‹_› ‹_› | assumption) (first | (go_at_call 69; (with_reducible refine (cS.out _).mono ?_); rintro e w9 ⟨rfl, hb9⟩))
   rename_i hbe
   have hv1 := hv0.below hbe hs0
   have hBw := chain hb0 hbe
   have hs1 : w.heap.size < w9.heap.size := Nat.lt_of_lt_of_le hs0 hbe.size
   replace hv1 := Lib.hid hv1
   replace hBw := Lib.hid hBw
   replace hs1 := Lib.hid hs1
   clear keep0 keep1 hv0 hb0 hs0 hbe hb9 cS keep
   go_wp2_with fail
   refine (cF.out _).mono ?_
   rintro e w10 ⟨rfl, hb10⟩
   have hv2 := Lib.hid (hv1.out.below hb10 hs1.out)
   have hB2 := Lib.hid (chain hBw.out hb10)
   have hs2 := Lib.hid (Nat.lt_of_lt_of_le hs1.out hb10.size)
   clear hv1 hBw hs1 cF
   have ht := vat_alloc w10 44 [.int .i64 n0, .int .i64 n1, .int .i64 m2, .int .i64 m4, .int .i64 n6, .int .i64 D1, .int .i64 D2, .int .u32 m8, .string P]
   obtain ⟨T, hT⟩ : ∃ T, w10.heap.size = T := ⟨_, rfl⟩
   obtain ⟨Wt, hWt⟩ : ∃ Wt, w10.alloc (.cells #[.int .i64 n0, .int .i64 n1, .int .i64 m2, .int .i64 m4, .int .i64 n6, .int .i64 D1, .int .i64 D2, .int .u32 m8, .string P] 44) = Wt := ⟨_, rfl⟩
   have hal : Below w10.heap.size w10 Wt := by rw [← hWt]; exact (Below.refl _ _).alloc (Nat.le_refl _) _
   have hst : T < Wt.heap.size := by rw [← hWt, ← hT]; simp
   have hsB : w.heap.size < Wt.heap.size := Nat.lt_of_lt_of_le hs2.out hal.size
   have hbw3 := chain hB2.out hal
   have hv3 := hv2.out.below hal hs2.out
   rw [show w10.alloc (.cells [.int .i64 n0, .int .i64 n1, .int .i64 m2, .int .i64 m4, .int .i64 n6, .int .i64 D1, .int .i64 D2, .int .u32 m8, .string P].toArray 44) = Wt from hWt, hT] at ht
   have ht9 := cells9 ht
   replace ht := Lib.hid ht
   replace hv3 := Lib.hid hv3
   replace hbw3 := Lib.hid hbw3
   replace hst := Lib.hid hst
   replace hsB := Lib.hid hsB
   obtain ⟨t0, t1', t2, t3, t4, t5, t6, t7, t8, _, _, _, _, _, _, _, _, _⟩ := ht9
   clear hs2 hv2 hB2 hal hb10
   go_wp2_with fail
   refine (cC.out _).mono ?_
   rintro e w11 ⟨rfl, hb11⟩
   clear t0 t1' t2 t3 t4 t5 t6 t7 t8 hWt
   have hbw4 := Lib.hid (chain hbw3.out hb11)
   have ht4 := cells9 (ht.out.below hb11 hst.out)
   have hv4 := hv3.out.below hb11 hsB.out
   obtain ⟨t0, t1', t2, t3, t4, t5, t6, t7, t8, _, _, _, _, _, _, _, _, _⟩ := ht4
   have hv9 := cells9 (v0 := .int .i64 0) (v1 := .int .i64 0) (v2 := .int .i64 0) (v3 := .int .i64 0) (v4 := .int .i64 0) (v5 := .int .i64 0) (v6 := .int .i64 0) (v7 := .int .u32 0) (v8 := .string ⟨#[]⟩) hv4
   obtain ⟨f0, f1, f2, f3, f4, f5, f6, f7, f8, g0, g1, g2, g3, g4, g5, g6, g7, g8⟩ := hv9
   replace hv4 := Lib.hid hv4
   clear ht hv3 hbw3 hst hsB hb11 cC
   by_cases hk0 : kk = 0
   ·have hval := hyes.out hk0
    rw [hFr.out] at hval
    replace hval := Lib.hid hval
    subst hk0
    have hput := Lib.hid (cells9 (putN_all (l := [.int .i64 n0, .int .i64 n1, .int .i64 m2, .int .i64 m4, .int .i64 n6, .int .i64 D1, .int .i64 D2, .int .u32 m8, .string P]) hv4.out rfl))
    have hbel := Lib.hid (putN_below (Nat.le_refl _) [.int .i64 n0, .int .i64 n1, .int .i64 m2, .int .i64 m4, .int .i64 n6, .int .i64 D1, .int .i64 D2, .int .u32 m8, .string P] 0 _ hbw4.out)
    obtain ⟨W5, hW5⟩ : ∃ W5, putN w.heap.size w11 0 [.int .i64 n0, .int .i64 n1, .int .i64 m2, .int .i64 m4, .int .i64 n6, .int .i64 D1, .int .i64 D2, .int .u32 m8, .string P] = W5 := ⟨_, rfl⟩
    rw [hW5] at hput hbel
    simp only [putN] at hW5
    clear hv4 hbw4 hFr hyes hno
    go_wp2
    first | rw [hW5] | skip
    obtain ⟨c0, c1, c2, c3, c4, c5, c6, c7, c8, _, _, _, _, _, _, _, _, _⟩ := hput.out
    refine bodyPost_ret (v := .tuple #[.agg #[.int .i64 n0, .int .i64 n1, .int .i64 m2, .int .i64 m4, .int .i64 n6, .int .i64 D1, .int .i64 D2, .int .u32 m8, .string P], .int .i64 0]) ?_ rfl ⟨by rw [hval.out], hbel.out⟩
    simp [results, Tryz.results47, go_sem, c0, c1, c2, c3, c4, c5, c6, c7, c8]
   ·have hval := hno.out hk0
    replace hval := Lib.hid hval
    have hput := Lib.hid (cells9 (v0 := .int .i64 0) (v1 := .int .i64 0) (v2 := .int .i64 0) (v3 := .int .i64 0) (v4 := .int .i64 0) (v5 := .int .i64 0) (v6 := .int .i64 0) (v7 := .int .u32 0) (v8 := .string ⟨#[]⟩) (putN_all (l := zeroF.cells.toList) hv4.out rfl))
    have hbel := Lib.hid (putN_below (Nat.le_refl _) zeroF.cells.toList 0 _ hbw4.out)
    obtain ⟨W5, hW5⟩ : ∃ W5, putN w.heap.size w11 0 zeroF.cells.toList = W5 := ⟨_, rfl⟩
    rw [hW5] at hput hbel
    unfold zeroF Fr.cells at hW5
    simp only [putN, BitVec.toNat_ofNat, Nat.zero_mod, Int.natCast_zero] at hW5
    have hz : (kk != 0) = true := bne_iff_ne.2 hk0
    clear hv4 hbw4 hFr hk0 hyes hno
    go_wp2
    first | rw [hW5] | skip
    obtain ⟨c0, c1, c2, c3, c4, c5, c6, c7, c8, _, _, _, _, _, _, _, _, _⟩ := hput.out
    refine bodyPost_ret (v := .tuple #[zeroF.val, .int .i64 kk]) ?_ rfl ⟨by rw [hval.out], hbel.out⟩
    simp [results, Tryz.results47, go_sem, c0, c1, c2, c3, c4, c5, c6, c7, c8]
    rfl
  ·obtain ⟨e1, e2⟩ := unE_sum (by omega) hs
   rw [e1, e2]
   rw [decide_eq_false (fun h => hs h.symm)] at hq
   clear hs e1 e2 hQ hll hb cF hxs
   go_enter Tryz.func47, Tryz.ntmps47
   go_wp2_with fail
   obtain ⟨W0, hW0⟩ : ∃ W0, w.alloc (.cells zeroF.cells 44) = W0 := ⟨_, rfl⟩
   have hb0 : Below w.heap.size w W0 := by rw [← hW0]; exact (Below.refl _ _).alloc (Nat.le_refl _) _
   have hv0 : VAt W0 w.heap.size zeroF.cells.toList := by rw [← hW0]; exact vat_alloc w _ _
   have hs0 : w.heap.size < W0.heap.size := by rw [← hW0]; simp
   unfold zeroF Fr.cells at hW0
   simp only [BitVec.toNat_ofNat, Nat.zero_mod, Int.natCast_zero] at hW0
   rw [hW0]
   clear hW0
   have keep0 := Below.refl W0.heap.size W0
   have keep1 := keep W0
   go_region_held3 (fun W => Below W0.heap.size W0 W) (first | exact keep0 | exact keep1 _ keep0 | exact chain ‹_› ‹_› | assumption) (first | (go_at_call 69; (with_reducible refine (cS.out _).mono ?_); rintro e w9 ⟨rfl, hb9⟩))
   rename_i hbe
   have hv1 := hv0.below hbe hs0
   obtain ⟨⟨f0, f1, f2, f3, f4, f5, f6, f7, f8⟩, ⟨g0, g1, g2, g3, g4, g5, g6, g7, g8⟩⟩ := nine_of hv1
   have hput := Lib.hid (nine_of (f := zeroF) (putN_all (l := zeroF.cells.toList) hv1 rfl)).1
   have hbel := Lib.hid (putN_below (Nat.le_refl _) zeroF.cells.toList 0 _ (chain hb0 hbe))
   unfold zeroF at f0 f1 f2 f3 f4 f5 f6 f7 f8
   dsimp only at f0 f1 f2 f3 f4 f5 f6 f7 f8
   clear hv0 hv1 keep0 keep1 keep
   go_wp2
   obtain ⟨W5, hW5⟩ : ∃ W5, putN w.heap.size w9 0 zeroF.cells.toList = W5 := ⟨_, rfl⟩
   rw [hW5] at hput hbel
   unfold zeroF Fr.cells at hW5
   simp only [putN, BitVec.toNat_ofNat, Nat.zero_mod, Int.natCast_zero] at hW5
   rw [hW5]
   obtain ⟨c0, c1, c2, c3, c4, c5, c6, c7, c8⟩ := hput.out
   refine bodyPost_ret (v := .tuple #[zeroF.val, .int .i64 5]) ?_ rfl ⟨rfl, hbel.out⟩
   simp [results, Tryz.results47, go_sem, c0, c1, c2, c3, c4, c5, c6, c7, c8]
   rfl
 ·have t1 : ((b.size : Int) != 44) = true := by rw [bne_iff_ne]; omega
  obtain ⟨e1, e2⟩ := unE_len (l := b.data.toList) (by omega)
  rw [e1, e2]
  clear h44 hll e1 e2
  go_enter Tryz.func47, Tryz.ntmps47
  go_wp2
  refine bodyPost_ret (v := .tuple #[zeroF.val, .int .i64 4]) ?_ rfl ⟨rfl, ?_⟩
  ·simp [results, Tryz.results47, go_sem]
   rfl
  ·exact (Below.refl _ _).alloc (Nat.le_refl _) _
end F13
end Go.Proofs.YtiodkllckcpinaaGreatDoor
