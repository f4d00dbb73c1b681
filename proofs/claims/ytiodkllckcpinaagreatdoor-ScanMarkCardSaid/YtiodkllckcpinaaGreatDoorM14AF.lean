/- Facts and contracts that the walks of this layer use, merged: K3Math, K3More, K3Ref1, K3RefS, K3OwnU, K3OwnS. -/
import Derived.Calls
import Derived.Test.YtiodkllckcpinaaGreatDoorRows
import Derived.Test.YtiodkllckcpinaaGreatDoorM14AA
import Derived.BigQuiet
import Derived.Deep.QuietTactic
import Derived.WalkSpells
import Derived.WalkLawsBesides
import Derived.Laws.BitsAllLaws
import Derived.Lib.Hide
set_option linter.unusedVariables false
set_option linter.unusedSimpArgs false
set_option maxRecDepth 100000
namespace Go.Proofs.YtiodkllckcpinaaGreatDoor
namespace K3

abbrev R := BitVec 32
def poly : R := 0x04C11DB7#32
def ones : R := 0xFFFFFFFF#32
def stp (x : R) : R := if x.msb then (x <<< 1) ^^^ poly else x <<< 1
def it : Nat → R → R
 | 0, x => x
 | n + 1, x => stp (it n x)
def byR (c : UInt8) : R := BitVec.ofNat 32 c.toNat <<< 24
def ub (x : R) (c : UInt8) : R := it 8 (x ^^^ byR c)
def upd (x : R) (l : List UInt8) : R := l.foldl ub x
def sumL (l : List UInt8) : R := upd ones l
theorem upd_append (x : R) (l m : List UInt8) : upd x (l ++ m) = upd (upd x l) m := by simp [upd]
theorem upd_snoc (x : R) (l : List UInt8) (c : UInt8) : upd x (l ++ [c]) = ub (upd x l) c := by simp [upd]
end K3
namespace K3

/-! ### the bytes of a register -/
def nb (x : R) (k : Nat) : UInt8 := UInt8.ofBitVec ((x >>> k).setWidth 8)
theorem nb_toNat (x : R) (k : Nat) : (nb x k).toNat = x.toNat / 2 ^ k % 256 := by
 unfold nb
 show ((x >>> k).setWidth 8).toNat = _
 rw [BitVec.toNat_setWidth, BitVec.toNat_ushiftRight, Nat.shiftRight_eq_div_pow]
def byL (x : R) : List UInt8 := [nb x 24, nb x 16, nb x 8, nb x 0]
end K3
namespace K3
open Go.RowKit Mem

theorem stp_hi (x : R) (h : 2147483648 ≤ x.toNat) : (stp x).toNat = (x.toNat * 2 % 4294967296) ^^^ 79764919 := by
 unfold stp
 rw [BitVec.msb_eq_decide, if_pos (decide_eq_true (by simpa using h)), BitVec.toNat_xor, BitVec.toNat_shiftLeft, Nat.shiftLeft_eq]
 rfl
theorem stp_lo (x : R) (h : x.toNat < 2147483648) : (stp x).toNat = x.toNat * 2 := by
 unfold stp
 rw [BitVec.msb_eq_decide, if_neg (by simpa using h), BitVec.toNat_shiftLeft, Nat.shiftLeft_eq]
 omega

theorem bxr (x y : R) : bits .xor .u32 (x.toNat : Int) (y.toNat : Int) = ((x ^^^ y).toNat : Int) := by
 rw [BitVec.toNat_xor]
 exact u32_xor_nat _ _ x.isLt y.isLt
theorem stp_bits {X S : Nat} (h : S = (X * 2 % 4294967296) ^^^ 79764919) : bits .xor .u32 ((X : Int) * 2 % 4294967296) 79764919 = (S : Int) := by
 have e : ((X : Int) * 2 % 4294967296) = ((X * 2 % 4294967296 : Nat) : Int) := by omega
 rw [e, h]
 exact u32_xor_nat (X * 2 % 4294967296) 79764919 (by omega) (by decide)

set_option maxHeartbeats 400000 in
theorem rstep_any (x : R) (w : World) : Calls Tryz.prog 181 #[.int .u32 (x.toNat : Int)] w fun e w' => e = .returned (.int .u32 ((stp x).toNat : Int)) ∧ w = w' := by
 have hlt := x.isLt
 have hlo := stp_lo x
 have hhi := stp_hi x
 obtain ⟨S, hS⟩ : ∃ S, (stp x).toNat = S := ⟨_, rfl⟩
 rw [hS] at hlo hhi ⊢
 obtain ⟨X, hX⟩ : ∃ X, x.toNat = X := ⟨_, rfl⟩
 rw [hX] at hlo hhi hlt ⊢
 clear hS hX
 have hlo := Lib.hid hlo
 have hhi := Lib.hid hhi
 by_cases h : 2147483648 ≤ X
 ·have hd : decide ((2147483648 : Int) ≤ (X : Int)) = true := decide_eq_true (by omega)
  go_enter Tryz.func181, Tryz.ntmps181
  go_wp2
  go_ret
  exact ⟨ret_i (stp_bits (hhi.out h)), rfl⟩
 ·have hd : decide ((2147483648 : Int) ≤ (X : Int)) = false := decide_eq_false (by omega)
  go_enter Tryz.func181, Tryz.ntmps181
  go_wp2
  go_ret
  exact ⟨ret_i (by rw [hlo.out (by omega)]; omega), rfl⟩

theorem byR_toNat (c : UInt8) : (byR c).toNat = c.toNat * 16777216 := by
 have := c.toNat_lt
 unfold byR
 rw [BitVec.toNat_shiftLeft, BitVec.toNat_ofNat, Nat.shiftLeft_eq]
 omega
theorem byte_in (x : R) (c : UInt8) : bits .xor .u32 (x.toNat : Int) ((c.toNat : Int) * 16777216) = ((x ^^^ byR c).toNat : Int) := by
 rw [← bxr, byR_toNat]
 rfl
theorem upd_take (x : R) (s : ByteArray) (k : Nat) (h : k < s.size) : upd x (s.data.toList.take (k + 1)) = it 8 (upd x (s.data.toList.take k) ^^^ byR s[k]) := by
 rw [List.take_succ_eq_append_getElem (by simpa using h), upd_snoc]
 rfl
theorem take_all (s : ByteArray) : s.data.toList.take s.size = s.data.toList := List.take_of_length_le (by simp)

set_option maxHeartbeats 1000000 in
theorem rupdate_any (x : R) (s : ByteArray) (w : World) (hs : s.size ≤ 1000000) :
  Calls Tryz.prog 139 #[.int .u32 (x.toNat : Int), .string s] w fun e w' => e = .returned (.int .u32 ((upd x s.data.toList).toNat : Int)) ∧ w = w' := by
 go_enter Tryz.func139, Tryz.ntmps139
 go_wp2
 go_loop [0, 5] (fun c i => ∃ k : Nat, k ≤ s.size ∧ i = .int .i64 k ∧ c = .int .u32 ((upd x (s.data.toList.take k)).toNat : Int)) (fun _ i => s.size - (intOf i).toNat)
 case atStart => exact ⟨0, Nat.zero_le _, rfl, rfl⟩
 case round =>
  obtain ⟨k, hk, rfl, rfl⟩ := hrel
  by_cases hlt : k < s.size
  ·have hn := Lib.hid (upd_take x s k hlt)
   obtain ⟨y, hy⟩ : ∃ y, upd x (s.data.toList.take k) = y := ⟨_, rfl⟩
   rw [hy] at hn ⊢
   have hyl := y.isLt
   have hc := (s[k]).toNat_lt
   have hb := byte_in y s[k]
   obtain ⟨z, hz⟩ : ∃ z, y ^^^ byR s[k] = z := ⟨_, rfl⟩
   rw [hz] at hb hn
   clear hy hz
   go_wp2
   go_loop [0, 6] (fun c i => ∃ j : Nat, j ≤ 8 ∧ i = .int .i64 j ∧ c = .int .u32 ((it j z).toNat : Int)) (fun _ i => 8 - (intOf i).toNat)
   case atStart => exact ⟨0, Nat.zero_le _, rfl, rfl⟩
   case round =>
    clear hb
    obtain ⟨j, hj, rfl, rfl⟩ := hrel
    by_cases hlt2 : j < 8
    ·have hs1 := Lib.hid (rstep_any (it j z) w)
     go_wp2_with fail
     refine hs1.out.mono ?_
     rintro e w1 ⟨rfl, rfl⟩
     go_wp2
     go_round
     case rel => exact ⟨j + 1, by omega, by go_num, rfl⟩
     case measure => simp [intOf]; omega
    ·have hj' : j = 8 := by omega
     subst hj'
     rw [← hn.out]
     go_wp2
     go_round
     case rel => exact ⟨k + 1, by omega, by go_num, rfl⟩
     case measure => simp [intOf]; omega
  ·have hk' : k = s.size := by omega
   subst hk'
   rw [take_all]
   go_wp2
   go_ret
   exact ⟨rfl, rfl⟩
end K3
namespace K3
open Go.RowKit Mem

def joinL (l : List (List UInt8)) : List UInt8 := l.flatten
theorem upd_join (x : R) (l : List (List UInt8)) (k : Nat) (h : k < l.length) : upd x (joinL (l.take (k + 1))) = upd (upd x (joinL (l.take k))) l[k] := by
 unfold joinL
 rw [List.take_succ_eq_append_getElem h, List.flatten_append, upd_append]
 simp
theorem strV_get (l : List (List UInt8)) (k : Nat) (h : k < l.length) : (strVs l)[k]'(by rw [strVs_len]; exact h) = .string ⟨(l[k]).toArray⟩ := by
 simp [strVs, strV]

set_option maxHeartbeats 1000000 in
theorem rsum_any (A : Option Addr) (cap : Nat) (l : List (List UInt8)) (w : World) (hl : ∀ x ∈ l, x.length ≤ 1000000) (hn : l.length ≤ 1000000000) (hc : l.length ≤ cap) (hcm : cap ≤ 9223372036854775807) (hr : Rd w A (strVs l)) :
  Calls Tryz.prog 91 #[.slice A l.length cap] w fun e w' => e = .returned (.int .u32 ((sumL (joinL l)).toNat : Int)) ∧ w = w' := by
 have hrh := Lib.hid hr
 clear hr
 go_enter Tryz.func91, Tryz.ntmps91
 go_wp2
 go_loop [3, 4] (fun v i => ∃ k : Nat, k ≤ l.length ∧ i = .int .i64 k ∧ v = .int .u32 ((upd ones (joinL (l.take k))).toNat : Int)) (fun _ i => l.length - (intOf i).toNat)
 case atStart => exact ⟨0, Nat.zero_le _, rfl, rfl⟩
 case round =>
  obtain ⟨k, hk, rfl, rfl⟩ := hrel
  by_cases hlt : k < l.length
  ·obtain ⟨b, o, rfl, hb, hcell⟩ := hrh.out k (by rw [strVs_len]; exact hlt)
   rw [strV_get l k hlt] at hcell
   obtain ⟨x, hx⟩ : ∃ x, l[k] = x := ⟨_, rfl⟩
   have hxl := hl _ (List.getElem_mem hlt)
   rw [hx] at hcell hxl
   have hj := upd_join ones l k hlt
   rw [hx] at hj
   obtain ⟨y, hy⟩ : ∃ y, upd ones (joinL (l.take k)) = y := ⟨_, rfl⟩
   have hs := rupdate_any y ⟨x.toArray⟩ w (by rw [str_size]; exact hxl)
   rw [hy] at hj ⊢
   rw [str_list, ← hj] at hs
   have hs := Lib.hid hs
   have hI0 : (0 : Int) ≤ (k : Int) := by omega
   have hI1 : (k : Int) < (l.length : Int) := by omega
   clear hx hj hy
   go_wp2_with fail
   refine hs.out.mono ?_
   rintro e w1 ⟨rfl, rfl⟩
   go_wp2
   go_round
   case rel => exact ⟨k + 1, by omega, by go_num, rfl⟩
   case measure => simp [intOf]; omega
  ·have hfin := Lib.hid (show sumL (joinL l) = upd ones (joinL (l.take k)) by rw [List.take_of_length_le (by omega : l.length ≤ k)]; rfl)
   go_wp2
   go_ret
   exact ⟨ret_i (by rw [hfin.out]), rfl⟩

theorem conv_made {P : Program} (w : World) {src dst e : TypeId} {cs : Array Value} {l : List UInt8} {n : Nat} (hn : l.length = n) (hs : P.underlying src = some (.slice e)) (he : P.underlying e = some (.int .u8)) (hd : P.underlying dst = some .string) (hc : cs.toList = bys l) :
  (convert src dst (.slice (some ⟨w.heap.size, 0, none⟩) n n)).run P (w.alloc (.cells cs e)) = .ok (.string ⟨l.toArray⟩) (w.alloc (.cells cs e)) := by
 subst hn
 refine run_convert_bytes_back _ src dst e ⟨w.heap.size, 0, none⟩ l.length l hs he hd fun j hj => ?_
 have h0 : cs[j]? = some (.int .u8 (l[j].toNat : Int)) := by
  rw [← Array.getElem?_toList, hc]
  exact bys_get l j hj
 rw [add_at]
 rw [World.cell?_alloc_new]
 exact h0
theorem byL_cells (x : R) : (#[.int .u8 ((x.toNat : Int) / 16777216), .int .u8 ((x.toNat : Int) / 65536 % 256), .int .u8 ((x.toNat : Int) / 256 % 256), .int .u8 ((x.toNat : Int) % 256)] : Array Value).toList = bys (byL x) := by
 have hx := x.isLt
 unfold byL bys
 simp only [List.map_cons, List.map_nil, nb_toNat]
 have h1 : (x.toNat : Int) / 16777216 = ((x.toNat / 2 ^ 24 % 256 : Nat) : Int) := by omega
 have h2 : (x.toNat : Int) / 65536 % 256 = ((x.toNat / 2 ^ 16 % 256 : Nat) : Int) := by omega
 have h3 : (x.toNat : Int) / 256 % 256 = ((x.toNat / 2 ^ 8 % 256 : Nat) : Int) := by omega
 have h4 : (x.toNat : Int) % 256 = ((x.toNat / 2 ^ 0 % 256 : Nat) : Int) := by omega
 rw [h1, h2, h3, h4]

set_option maxHeartbeats 1000000 in
theorem rbytes_any (x : R) (w : World) :
  Calls Tryz.prog 90 #[.int .u32 (x.toNat : Int)] w fun e w' => e = .returned (.string ⟨(byL x).toArray⟩) ∧ Below w.heap.size w w' := by
 have hx := x.isLt
 have hconv := conv_made (P := Tryz.prog) w (dst := 9) (n := 4) (l := byL x) rfl Tryz.underlying53 Tryz.underlying5 Tryz.underlying9 (byL_cells x)
 go_enter Tryz.func90, Tryz.ntmps90
 go_wp2
 go_ret
 exact ⟨rfl, (Below.refl _ _).alloc (Nat.le_refl _) _⟩
end K3
namespace K3
open Go.RowKit Mem

set_option maxHeartbeats 400000 in
theorem shift_any (x : R) (w : World) : Calls Tryz.prog 190 #[.int .u32 (x.toNat : Int)] w fun e w' => e = .returned (.int .u32 ((stp x).toNat : Int)) ∧ w = w' := by
 have hlt := x.isLt
 have hlo := stp_lo x
 have hhi := stp_hi x
 obtain ⟨S, hS⟩ : ∃ S, (stp x).toNat = S := ⟨_, rfl⟩
 rw [hS] at hlo hhi ⊢
 obtain ⟨X, hX⟩ : ∃ X, x.toNat = X := ⟨_, rfl⟩
 rw [hX] at hlo hhi hlt ⊢
 clear hS hX
 have hlo := Lib.hid hlo
 have hhi := Lib.hid hhi
 by_cases h : 2147483648 ≤ X
 ·have hd : (X : Int) / 2147483648 = 1 := by omega
  go_enter Tryz.func190, Tryz.ntmps190
  go_wp2
  go_ret
  exact ⟨ret_i (stp_bits (hhi.out h)), rfl⟩
 ·have hd : (X : Int) / 2147483648 = 0 := by omega
  go_enter Tryz.func190, Tryz.ntmps190
  go_wp2
  go_ret
  exact ⟨ret_i (by
   rw [hlo.out (by omega)]
   have := u32_xor_nat (X * 2) 0 (by omega) (by decide)
   rw [Nat.xor_zero] at this
   exact (show _ = _ from this)), rfl⟩

set_option maxHeartbeats 1000000 in
theorem update_any (x : R) (s : ByteArray) (w : World) (hs : s.size ≤ 1000000) :
  Calls Tryz.prog 151 #[.int .u32 (x.toNat : Int), .string s] w fun e w' => e = .returned (.int .u32 ((upd x s.data.toList).toNat : Int)) ∧ w = w' := by
 go_enter Tryz.func151, Tryz.ntmps151
 go_wp2
 go_loop [0, 8] (fun c i => ∃ k : Nat, k ≤ s.size ∧ i = .int .i64 k ∧ c = .int .u32 ((upd x (s.data.toList.take k)).toNat : Int)) (fun _ i => s.size - (intOf i).toNat)
 case atStart => exact ⟨0, Nat.zero_le _, rfl, rfl⟩
 case round =>
  obtain ⟨k, hk, rfl, rfl⟩ := hrel
  by_cases hlt : k < s.size
  ·have hn := Lib.hid (upd_take x s k hlt)
   obtain ⟨y, hy⟩ : ∃ y, upd x (s.data.toList.take k) = y := ⟨_, rfl⟩
   rw [hy] at hn ⊢
   have hyl := y.isLt
   have hc := (s[k]).toNat_lt
   have hb := byte_in y s[k]
   obtain ⟨z, hz⟩ : ∃ z, y ^^^ byR s[k] = z := ⟨_, rfl⟩
   rw [hz] at hb hn
   clear hy hz
   go_wp2
   go_loop [0, 18] (fun c i => ∃ j : Nat, j ≤ 8 ∧ i = .int .i64 j ∧ c = .int .u32 ((it j z).toNat : Int)) (fun _ i => 8 - (intOf i).toNat)
   case atStart => exact ⟨0, Nat.zero_le _, rfl, rfl⟩
   case round =>
    clear hb
    obtain ⟨j, hj, rfl, rfl⟩ := hrel
    by_cases hlt2 : j < 8
    ·have hs1 := Lib.hid (shift_any (it j z) w)
     go_wp2_with fail
     refine hs1.out.mono ?_
     rintro e w1 ⟨rfl, rfl⟩
     go_wp2
     go_round
     case rel => exact ⟨j + 1, by omega, by go_num, rfl⟩
     case measure => simp [intOf]; omega
    ·have hj' : j = 8 := by omega
     subst hj'
     rw [← hn.out]
     go_wp2
     go_round
     case rel => exact ⟨k + 1, by omega, by go_num, rfl⟩
     case measure => simp [intOf]; omega
  ·have hk' : k = s.size := by omega
   subst hk'
   rw [take_all]
   go_wp2
   go_ret
   exact ⟨rfl, rfl⟩

end K3
namespace K3
open Go.RowKit Mem

set_option maxHeartbeats 1000000 in
theorem sum_any (A : Option Addr) (cap : Nat) (l : List (List UInt8)) (w : World) (hl : ∀ x ∈ l, x.length ≤ 1000000) (hn : l.length ≤ 1000000000) (hc : l.length ≤ cap) (hcm : cap ≤ 9223372036854775807) (hr : Rd w A (strVs l)) :
  Calls Tryz.prog 113 #[.slice A l.length cap] w fun e w' => e = .returned (.int .u32 ((sumL (joinL l)).toNat : Int)) ∧ w = w' := by
 have hrh := Lib.hid hr
 clear hr
 go_enter Tryz.func113, Tryz.ntmps113
 go_wp2
 go_loop [3, 8] (fun v i => ∃ k : Nat, k ≤ l.length ∧ i = .int .i64 k ∧ v = .int .u32 ((upd ones (joinL (l.take k))).toNat : Int)) (fun _ i => l.length - (intOf i).toNat)
 case atStart => exact ⟨0, Nat.zero_le _, rfl, rfl⟩
 case round =>
  obtain ⟨k, hk, rfl, rfl⟩ := hrel
  by_cases hlt : k < l.length
  ·obtain ⟨b, o, rfl, hb, hcell⟩ := hrh.out k (by rw [strVs_len]; exact hlt)
   rw [strV_get l k hlt] at hcell
   obtain ⟨x, hx⟩ : ∃ x, l[k] = x := ⟨_, rfl⟩
   have hxl := hl _ (List.getElem_mem hlt)
   rw [hx] at hcell hxl
   have hj := upd_join ones l k hlt
   rw [hx] at hj
   obtain ⟨y, hy⟩ : ∃ y, upd ones (joinL (l.take k)) = y := ⟨_, rfl⟩
   have hs := update_any y ⟨x.toArray⟩ w (by rw [str_size]; exact hxl)
   rw [hy] at hj ⊢
   rw [str_list, ← hj] at hs
   have hs := Lib.hid hs
   have hI0 : (0 : Int) ≤ (k : Int) := by omega
   have hI1 : (k : Int) < (l.length : Int) := by omega
   clear hx hj hy
   go_wp2_with fail
   refine hs.out.mono ?_
   rintro e w1 ⟨rfl, rfl⟩
   go_wp2
   go_round
   case rel => exact ⟨k + 1, by omega, by go_num, rfl⟩
   case measure => simp [intOf]; omega
  ·have hfin := Lib.hid (show sumL (joinL l) = upd ones (joinL (l.take k)) by rw [List.take_of_length_le (by omega : l.length ≤ k)]; rfl)
   go_wp2
   go_ret
   exact ⟨ret_i (by rw [hfin.out]), rfl⟩

set_option maxHeartbeats 1000000 in
theorem bytes_any (x : R) (w : World) :
  Calls Tryz.prog 112 #[.int .u32 (x.toNat : Int)] w fun e w' => e = .returned (.string ⟨(byL x).toArray⟩) ∧ Below w.heap.size w w' := by
 have hx := x.isLt
 have hconv := conv_made (P := Tryz.prog) w (dst := 9) (n := 4) (l := byL x) rfl Tryz.underlying53 Tryz.underlying5 Tryz.underlying9 (byL_cells x)
 go_enter Tryz.func112, Tryz.ntmps112
 go_wp2
 go_ret
 exact ⟨rfl, (Below.refl _ _).alloc (Nat.le_refl _) _⟩

end K3
end Go.Proofs.YtiodkllckcpinaaGreatDoor
