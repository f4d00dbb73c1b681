/- The contracts of the landed functions of layer 9: Next, consistsOf. -/
import Derived.Test.YtmkmikegddafdaaRows
import Derived.Test.YtmkmikegddafdaaMem
import Derived.Test.YtmkmikegddafdaaC9Con
import Derived.Test.YtmkmikegddafdaaShelf
import Derived.WalkKit
import Derived.BigQuiet
import Derived.Deep.QuietTactic
import Derived.Deep.RegionHeld3
import Derived.WalkSpells
import Derived.WalkLawsBesides
import Derived.Lib.Hide
import Derived.Lib.Bytealg
namespace Go.Proofs.Ytmkmikegddafdaa.C9
open Go.RowKit Mem
set_option linter.unusedVariables false
set_option linter.unusedSimpArgs false

theorem i64_and1 (n : Int) : bits .and .i64 n 1 = n % 2 := by
  have h1 : (BitVec.ofInt 64 1).toNat = 2 ^ 1 - 1 := by decide
  have key : (BitVec.ofInt 64 n &&& BitVec.ofInt 64 1).toNat = (n % ((2 ^ 64 : Nat) : Int)).toNat % 2 ^ 1 := by
    rw [BitVec.toNat_and, BitVec.toNat_ofInt, h1, Nat.and_two_pow_sub_one_eq_mod]
  show IntKind.i64.wrap ((BitVec.ofInt 64 n &&& BitVec.ofInt 64 1).toNat : Nat) = n % 2
  rw [key, IntKind.wrap_i64]
  omega
theorem conv_two {P : Program} (w W : World) {src dst e : TypeId} {x y : UInt8} {a b : Int} (ha : a = (x.toNat : Int)) (hb : b = (y.toNat : Int)) (hs : P.underlying src = some (.slice e)) (he : P.underlying e = some (.int .u8)) (hd : P.underlying dst = some .string)
    (h0 : W.cell? ⟨w.heap.size, 0, none⟩ = some (.int .u8 a)) (h1 : W.cell? ⟨w.heap.size, 1, none⟩ = some (.int .u8 b)) :
    (convert src dst (.slice (some ⟨w.heap.size, 0, none⟩) 2 2)).run P W = .ok (.string ⟨#[x, y]⟩) W := by
  subst ha hb
  refine run_convert_bytes_back _ src dst e ⟨w.heap.size, 0, none⟩ 2 [x, y] hs he hd fun j hj => ?_
  match j, hj with
  | 0, _ => exact h0
  | 1, _ => exact h1
theorem two_new (w : World) (a b : Value) (t : TypeId) : (w.alloc (.cells #[a, b] t)).cell? ⟨w.heap.size, 0, none⟩ = some a ∧ (w.alloc (.cells #[a, b] t)).cell? ⟨w.heap.size, 1, none⟩ = some b := by
  constructor <;> rw [World.cell?_alloc_new] <;> rfl
theorem xor_bits : ∀ a b c : Bool, bits .xor .i64 (bits .xor .i64 (bn a : Int) (bn b : Int)) (bn c : Int) = (bn (a ^^ b ^^ c) : Int) := by decide
theorem xor_bits2 : ∀ a b : Bool, bits .xor .i64 (bn a : Int) (bn b : Int) = (bn (a ^^ b) : Int) := by decide
theorem cell_bn (b : Bool) : (48 + (bn b : Int)) % 256 = ((cell b).toNat : Int) := by cases b <;> rfl
theorem bn_le (b : Bool) : bn b ≤ 1 := by cases b <;> decide
theorem bn_dec (p : Prop) [Decidable p] : bn (decide p) = if p then 1 else 0 := by
  by_cases h : p
  · rw [decide_eq_true h, if_pos h]; rfl
  · rw [decide_eq_false h, if_neg h]; rfl
set_option maxRecDepth 100000 in
set_option maxHeartbeats 4000000 in
theorem next_own (s b : Int) (w : World) (h0 : -9223372036854775808 ≤ s) (h1 : s ≤ 9223372036854775807) (h2 : -9223372036854775808 ≤ b) (h3 : b ≤ 9223372036854775807) :
    Calls Try.prog 21 #[.int .i64 s, .int .i64 b] w (Nxt s b w) := by
  have f1 : b % 2 = (bn (twoB b) : Int) := by
    unfold twoB
    rw [bn_dec]
    split <;> omega
  have f2 : s / 2 % 2 = (bn (oneB s) : Int) := by
    unfold oneB
    rw [bn_dec]
    split <;> omega
  have f3 : s % 2 = (bn (twoB s) : Int) := by
    unfold twoB
    rw [bn_dec]
    split <;> omega
  unfold Nxt
  obtain ⟨U, hU⟩ : ∃ U, twoB b = U := ⟨_, rfl⟩
  obtain ⟨S1, hS1⟩ : ∃ S1, oneB s = S1 := ⟨_, rfl⟩
  obtain ⟨S2, hS2⟩ : ∃ S2, twoB s = S2 := ⟨_, rfl⟩
  rw [hU, hS1, hS2]
  rw [hU] at f1
  rw [hS1] at f2
  rw [hS2] at f3
  have e1 : bits .and .i64 b 1 = (bn U : Int) := by rw [i64_and1, f1]
  have e2 : bits .and .i64 (s / 2) 1 = (bn S1 : Int) := by rw [i64_and1, f2]
  have e3 : bits .and .i64 s 1 = (bn S2 : Int) := by rw [i64_and1, f3]
  have x1 := xor_bits U S1 S2
  have x2 := xor_bits2 U S2
  have hst : (stN U S1 : Int) = 2 * (bn U : Int) + (bn S1 : Int) := by unfold stN; omega
  have hu := bn_le U
  have hs1 := bn_le S1
  have hs2 := bn_le S2
  have hx1 := bn_le (U ^^ S1 ^^ S2)
  have hx2 := bn_le (U ^^ S2)
  obtain ⟨u, hu'⟩ : ∃ u, bn U = u := ⟨_, rfl⟩
  obtain ⟨a1, ha1⟩ : ∃ u, bn S1 = u := ⟨_, rfl⟩
  obtain ⟨a2, ha2⟩ : ∃ u, bn S2 = u := ⟨_, rfl⟩
  obtain ⟨v1, hv1⟩ : ∃ u, bn (U ^^ S1 ^^ S2) = u := ⟨_, rfl⟩
  obtain ⟨v2, hv2⟩ : ∃ u, bn (U ^^ S2) = u := ⟨_, rfl⟩
  have c1 := cell_bn (U ^^ S1 ^^ S2)
  have c2 := cell_bn (U ^^ S2)
  have hsb : sb (out2 S1 S2 U) = ⟨#[cell (U ^^ S1 ^^ S2), cell (U ^^ S2)]⟩ := rfl
  rw [hsb]
  obtain ⟨C1, hC1⟩ : ∃ c, cell (U ^^ S1 ^^ S2) = c := ⟨_, rfl⟩
  obtain ⟨C2, hC2⟩ : ∃ c, cell (U ^^ S2) = c := ⟨_, rfl⟩
  rw [hu'] at e1 x1 x2 hst hu
  rw [ha1] at e2 x1 hst hs1
  rw [ha2] at e3 x1 x2 hs2
  rw [hv1] at x1 hx1 c1
  rw [hv2] at x2 hx2 c2
  rw [hC1] at c1 ⊢
  rw [hC2] at c2 ⊢
  have d1 : 48 + (v1 : Int) = (C1.toNat : Int) := by omega
  have d2 : 48 + (v2 : Int) = (C2.toNat : Int) := by omega
  have hst2 : (2 : Int) * (u : Int) + (a1 : Int) = (stN U S1 : Int) := hst.symm
  obtain ⟨Z, hZ⟩ : ∃ z : Nat, stN U S1 = z := ⟨_, rfl⟩
  rw [hZ] at hst2 ⊢
  clear hst hsb hU hS1 hS2 f1 f2 f3 hC1 hC2 hv1 hv2 hu' ha1 ha2 hZ
  have hB := Below.refl w.heap.size w
  have hw1 : IntKind.i64.wrap (2 * (u : Int)) = 2 * (u : Int) := IntWalk.i64_in _ (by omega)
  have hw2 : IntKind.i64.wrap (2 * (u : Int) + (a1 : Int)) = (Z : Int) := by rw [IntWalk.i64_in _ (by omega), hst2]
  have cc : ∀ (v W : World), W.cell? ⟨v.heap.size, 0, none⟩ = some (.int .u8 (48 + (v1 : Int))) ∧ W.cell? ⟨v.heap.size, 1, none⟩ = some (.int .u8 (48 + (v2 : Int))) → (convert 31 9 (.slice (some ⟨v.heap.size, 0, none⟩) 2 2)).run Try.prog W = .ok (.string ⟨#[C1, C2]⟩) W := fun v W h => conv_two v W d1 d2 Try.underlying31 Try.underlying5 Try.underlying9 h.1 h.2
  have cv1 := cc w (w.alloc (.cells #[.int .u8 (48 + (v1 : Int)), .int .u8 (48 + (v2 : Int))] 5)) (two_new w _ _ _)
  have cv2 := cc w (w.alloc (.cells #[.int .u8 (48 + (v1 : Int)), .int .u8 (48 + (v2 : Int))] 5)).drew (two_new w _ _ _)
  clear cc hst2 d1 d2 c1 c2
  go_enter Try.func21, Try.ntmps21
  go_wp2_with fail
  go_region_held (fun _ => True) (trivial) (fail)
  go_wp2
  go_ret2
  exact ⟨rfl, chainN (hB.alloc hB.size _) 1⟩

theorem ix_two (c : UInt8) : decide (Lib.indexByte [48, 49] c < 0) = !bitB c := by
  unfold bitB Lib.indexByte
  by_cases h : c = 48
  · subst h; rfl
  · by_cases h1 : c = 49
    · subst h1; rfl
    · have n1 : ((48 : UInt8) == c) = false := by simpa using fun e => h e.symm
      have n2 : ((49 : UInt8) == c) = false := by simpa using fun e => h1 e.symm
      have m1 : (c == (48 : UInt8)) = false := by simpa using h
      have m2 : (c == (49 : UInt8)) = false := by simpa using h1
      simp [Lib.indexByte, n1, n2, m1, m2]
theorem ix_three (c : UInt8) : decide (Lib.indexByte [48, 49, 63] c < 0) = !okC c := by
  unfold okC Lib.indexByte
  by_cases h : c = 48
  · subst h; rfl
  · by_cases h1 : c = 49
    · subst h1; rfl
    · by_cases h2 : c = 63
      · subst h2; rfl
      · have n1 : ((48 : UInt8) == c) = false := by simpa using fun e => h e.symm
        have n2 : ((49 : UInt8) == c) = false := by simpa using fun e => h1 e.symm
        have n3 : ((63 : UInt8) == c) = false := by simpa using fun e => h2 e.symm
        have m1 : (c == (48 : UInt8)) = false := by simpa using h
        have m2 : (c == (49 : UInt8)) = false := by simpa using h1
        have m3 : (c == (63 : UInt8)) = false := by simpa using h2
        simp [Lib.indexByte, n1, n2, n3, m1, m2, m3]
theorem byte_back (c : UInt8) : ((c.toNat : Int)).toNat.toUInt8 = c := by
  rw [Int.toNat_natCast]
  exact UInt8.ofNat_toNat
theorem ibyte_any (s : ByteArray) (c : UInt8) (w : World) :
    Calls Try.prog 45 #[.string s, .int .u8 (c.toNat : Int)] w fun e w' => e = .returned (.int .i64 (Lib.indexByte s.data.toList c)) ∧ w = w' := by
  have h := Try.strings_IndexByte s (c.toNat : Int) w
  rw [byte_back] at h
  exact h.mono fun e w' ⟨a, b⟩ => ⟨a, b.symm⟩
theorem all_take (s : ByteArray) (ok : UInt8 → Bool) (k : Nat) (h : k < s.size) : (s.data.toList.take (k + 1)).all ok = ((s.data.toList.take k).all ok && ok s[k]) := by
  have h' : k < s.data.toList.length := by simpa using h
  rw [List.take_succ_eq_append_getElem h', List.all_append]
  simp
  rfl
set_option maxRecDepth 100000 in
set_option maxHeartbeats 4000000 in
theorem consists_own (s al : ByteArray) (ok : UInt8 → Bool) (hok : ∀ c, decide (Lib.indexByte al.data.toList c < 0) = !ok c) (w : World) (hs : s.size ≤ 1000000) :
    Calls Try.prog 34 #[.string s, .string al] w fun e w' => e = .returned (.bool (s.data.toList.all ok)) ∧ w = w' := by
  obtain ⟨R, hR⟩ : ∃ R, s.data.toList.all ok = R := ⟨_, rfl⟩
  rw [hR]
  replace hR := Lib.hid hR
  go_enter Try.func34, Try.ntmps34
  go_wp2
  go_loop [8] (fun i => ∃ k : Nat, k ≤ s.size ∧ i = .int .i64 k ∧ Hid ((s.data.toList.take k).all ok = true)) (fun i => s.size - (intOf i).toNat)
  case atStart => exact ⟨0, Nat.zero_le _, rfl, Lib.hid rfl⟩
  case round =>
    obtain ⟨k, hk, rfl, hall⟩ := hrel
    by_cases hlt : k < s.size
    · have hc := ibyte_any al s[k] w
      have hd := hok s[k]
      have hn := all_take s ok k hlt
      rw [hall.out, Bool.true_and] at hn
      obtain ⟨j, hj⟩ : ∃ j, Lib.indexByte al.data.toList s[k] = j := ⟨_, rfl⟩
      rw [hj] at hc hd
      have hc := Lib.hid hc
      rcases hb : ok s[k] with _ | _
      · rw [hb] at hd hn
        have hfin : R = false := by
          rw [← hR.out, ← List.take_append_drop (k + 1) s.data.toList, List.all_append, hn]
          rfl
        replace hd : decide (j < 0) = true := hd
        replace hn := Lib.hid hn
        replace hfin := Lib.hid hfin
        clear hj hb
        go_wp2_with fail
        refine hc.out.mono ?_
        rintro e w1 ⟨rfl, rfl⟩
        go_wp2
        go_ret
        exact ⟨ret_bool hfin.out.symm, rfl⟩
      · rw [hb] at hd hn
        replace hd : decide (j < 0) = false := hd
        replace hn := Lib.hid hn
        clear hj hb
        go_wp2_with fail
        refine hc.out.mono ?_
        rintro e w1 ⟨rfl, rfl⟩
        go_wp2
        go_round
        case rel => exact ⟨k + 1, by omega, by go_num, hn⟩
        case measure => simp [intOf]; omega
    · obtain rfl : k = s.size := by omega
      have hfin : R = true := by
        rw [← hR.out]
        have e : s.data.toList.take s.size = s.data.toList := List.take_of_length_le (by simp)
        rw [← e]
        exact hall.out
      replace hfin := Lib.hid hfin
      go_wp2
      go_ret
      exact ⟨ret_bool hfin.out.symm, rfl⟩
end Go.Proofs.Ytmkmikegddafdaa.C9
