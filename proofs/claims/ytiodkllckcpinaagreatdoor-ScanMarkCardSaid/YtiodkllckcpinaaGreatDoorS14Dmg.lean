/- The contract of the laws' helper damaged of layer 14. -/
import Derived.Test.YtiodkllckcpinaaGreatDoorRows
import Derived.Test.YtiodkllckcpinaaGreatDoorM14AU
import Derived.WalkKit
import Derived.BigQuiet
import Derived.Deep.QuietTactic
import Derived.WalkSpells
import Derived.WalkLawsBesides
import Derived.Lib.Hide
set_option linter.unusedVariables false
set_option linter.unusedSimpArgs false
set_option maxRecDepth 100000
namespace Go.Proofs.YtiodkllckcpinaaGreatDoor
namespace S14
open Go.RowKit Mem F13

structure Dm (C X : List UInt8) (a n : Nat) : Prop where
 len : X.length = C.length
 dm : C.all C9.okC = true → Dmg C X a n
theorem Dm.start (C : List UInt8) (a : Nat) : Dm C C a 0 := ⟨rfl, fun h => Dmg.refl h a⟩
theorem Dm.step {C X : List UInt8} {a n : Nat} (h : Dm C X a n) {y : UInt8} (hy : C9.okC y = true) : Dm C (X.set (a + n) y) a (n + 1) := ⟨by rw [List.length_set]; exact h.len, fun hc => (h.dm hc).step hy⟩
theorem Dm.skip {C X : List UInt8} {a n : Nat} (h : Dm C X a n) : Dm C X a (n + 1) := ⟨h.len, fun hc => (h.dm hc).more (Nat.le_succ n)⟩
set_option maxHeartbeats 8000000 in
theorem damaged_any (C : ByteArray) (a n y : Nat) (w : World) (hC0 : 1 ≤ C.size) (hC : C.size ≤ 1000) (ha : a ≤ 65535) (hn : n ≤ 65535) (hy : y ≤ 255) :
  Calls Tryz.prog 22 #[.string C, .int .i64 (a : Int), .int .i64 (n : Int), .int .u8 (y : Int)] w fun e w' => ∃ X : ByteArray, Dm C.data.toList X.data.toList (a % C.size) n ∧ e = .returned (.string X) ∧ Below w.heap.size w w' := by
 obtain ⟨C1, cap1, hcap1, hcv1, hat1⟩ := bytes_of (P := Tryz.prog) w (src := 9) (dst := 53) (e := 5) C Tryz.underlying9 Tryz.underlying53 Tryz.underlying5
 obtain ⟨G, hG⟩ : ∃ G, w.heap.size = G := ⟨_, rfl⟩
 obtain ⟨W6, hW6⟩ : ∃ W, w.drew.alloc (.cells C1 5 (cap1, cap1 + 1)) = W := ⟨_, rfl⟩
 have hb6 : Below G w W6 := by rw [← hW6, ← hG]; exact ((Below.refl w.heap.size w).drew).alloc (by simp) _
 have hA6 : BAt W6 G C.data.toList := by rw [← hW6, ← hG]; exact hat1
 have hs6 : G < W6.heap.size := by rw [← hW6, ← hG]; simp
 rw [hW6, hG] at hcv1
 obtain ⟨S, hS⟩ : ∃ S, C.size = S := ⟨_, rfl⟩
 have hCl : C.data.toList.length = S := by rw [← hS]; simp
 obtain ⟨q, hq⟩ : ∃ q : Nat, q = a % S := ⟨_, rfl⟩
 have hqS : q < S := by rw [hq]; exact Nat.mod_lt _ (by omega)
 have q1 : (a : Int) % (S : Int) = (q : Int) := by rw [hq]; exact (Int.natCast_emod a S).symm
 have q2 : (a : Int).tmod (S : Int) = (q : Int) := by rw [Int.tmod_eq_emod_of_nonneg (by omega)]; exact q1
 have s0 : ¬ (S : Int) = 0 := by omega
 have s0' : ((S : Int) == 0) = false := beq_eq_false_iff_ne.2 s0
 have s2 : (S : Int) ≤ 1000 := by omega
 have s3 : (q : Int) ≤ 1000 := by omega
 have a1 : (a : Int) ≤ 65535 := by omega
 have n1 : (n : Int) ≤ 65535 := by omega
 have y1 : (y : Int) ≤ 255 := by omega
 have hst := Dm.start C.data.toList q
 rw [hS] at hcv1 hcap1 ⊢
 rw [← hq]
 have hcap2 : S ≤ cap1 := hcap1
 obtain ⟨L, hL⟩ : ∃ L, C.data.toList = L := ⟨_, rfl⟩
 rw [hL] at hA6 hst hCl ⊢
 replace hst := Lib.hid hst
 replace hA6 := Lib.hid hA6
 replace hs6 := Lib.hid hs6
 replace hb6 := Lib.hid hb6
 replace hCl := Lib.hid hCl
 replace hqS := Lib.hid hqS
 have hGh := Lib.hid hG
 obtain ⟨z, hz, hrz⟩ : ∃ z : UInt8, C9.okC z = true ∧ (((y : Int) % 3 = 0 ∧ z = 48) ∨ ((y : Int) % 3 = 1 ∧ z = 49) ∨ ((y : Int) % 3 = 2 ∧ z = 63)) := by
  rcases (show y % 3 = 0 ∨ y % 3 = 1 ∨ y % 3 = 2 by omega) with h | h | h
  ·exact ⟨48, rfl, .inl ⟨by omega, rfl⟩⟩
  ·exact ⟨49, rfl, .inr (.inl ⟨by omega, rfl⟩)⟩
  ·exact ⟨63, rfl, .inr (.inr ⟨by omega, rfl⟩)⟩
 have hzh := Lib.hid hz
 clear hW6 hat1 hcap1 hS hq hL hz hC0 hC ha hn hy
 rcases hrz with ⟨hr, rfl⟩ | ⟨hr, rfl⟩ | ⟨hr, rfl⟩
 all_goals
  go_enter Tryz.func22, Tryz.ntmps22
  go_wp2
  clear hcv1
  go_loopw [15] (fun iv wr => ∃ (i : Nat) (X : List UInt8), iv = .int .i64 (i : Int) ∧ i ≤ n ∧ Hid (Dm L X q i) ∧ Hid (BAt wr G X) ∧ Hid (G < wr.heap.size) ∧ Hid (Below G w wr)) (fun iv _ => n - (intOf iv).toNat)
  case atStart => exact ⟨0, L, rfl, Nat.zero_le _, hst, hA6, hs6, hb6⟩
  case round =>
   clear hst hA6 hs6 hb6
   obtain ⟨i, X, rfl, hi, hD, hAt, hsz, hb⟩ := hrel
   by_cases hlt : i < n
   ·obtain ⟨K, hK⟩ : ∃ K : Nat, K = q + i := ⟨_, rfl⟩
    have k1 : (q : Int) + (i : Int) = (K : Int) := by omega
    have k2 : (K : Int) ≤ 70000 := by omega
    have k0 : (0 : Int) ≤ (K : Int) := by omega
    have di : decide ((i : Int) < (n : Int)) = true := decide_eq_true (by omega)
    have di' : decide (i < n) = true := decide_eq_true hlt
    have ii : (i : Int) ≤ 65535 := by omega
    have hXl : X.length = S := by rw [hD.out.len]; exact hCl.out
    by_cases hks : K < S
    ·have dK : decide ((K : Int) < (S : Int)) = true := decide_eq_true (by omega)
     have dK' : decide (K < S) = true := decide_eq_true hks
     have kS : (K : Int) < (S : Int) := by omega
     have hKX : K < X.length := by omega
     obtain ⟨o1, o2⟩ := hAt.out K hKX
     obtain ⟨old, hold⟩ : ∃ v, Value.int .u8 ((X[K]'hKX).toNat : Int) = v := ⟨_, rfl⟩
     rw [hold] at o1
     have hset := fun z => hAt.out.set hKX z
     have hstp := fun {z} hz => hD.out.step (y := z) hz
     rw [← hK] at hstp
     have hst2 := Lib.hid (hstp hzh.out)
     have hsz2 := fun v => Lib.hid (show G < (wr.setCell ⟨G, K, none⟩ v).heap.size by simpa using hsz.out)
     have hb2 := fun v => Lib.hid (hb.out.setCell (p := ⟨G, K, none⟩) (Nat.le_refl G) v)
     replace hsz2 := Lib.hid hsz2
     replace hb2 := Lib.hid hb2
     replace hset := Lib.hid hset
     clear hold hKX hD hAt hsz hb hXl hstp hK hks
     go_wp2
     go_roundw
     case rel => exact ⟨i + 1, _, by go_num, by omega, hst2, Lib.hid (hset.out _), hsz2.out _, hb2.out _⟩
     case measure => simp [intOf]; omega
    ·have dK : decide ((K : Int) < (S : Int)) = false := decide_eq_false (by omega)
     have dK' : decide (K < S) = false := decide_eq_false hks
     have hst2 := Lib.hid hD.out.skip
     clear hK hks hXl hD
     go_wp2
     go_roundw
     case rel => exact ⟨i + 1, X, by go_num, by omega, hst2, hAt, hsz, hb⟩
     case measure => simp [intOf]; omega
   ·obtain rfl : i = n := by omega
    have di : decide ((i : Int) < (i : Int)) = false := decide_eq_false (by omega)
    have di' : decide (i < i) = false := decide_eq_false (by omega)
    have hXl : X.length = S := by rw [hD.out.len]; exact hCl.out
    have hcv := hAt.out.conv (P := Tryz.prog) (cap := cap1) (n := S) hXl Tryz.underlying53 Tryz.underlying5 Tryz.underlying9
    have hbb : Hid (Below w.heap.size w wr) := Lib.hid (by rw [hGh.out]; exact hb.out)
    clear hAt hsz hb hXl hlt
    go_wp2
    go_ret
    exact ⟨⟨X.toArray⟩, hD.out, rfl, hbb.out⟩
end S14
end Go.Proofs.YtiodkllckcpinaaGreatDoor
