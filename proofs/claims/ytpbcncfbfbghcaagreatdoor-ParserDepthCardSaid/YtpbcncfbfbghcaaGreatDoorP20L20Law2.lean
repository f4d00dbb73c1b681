/- ParserDepth, walked (layer 20). -/
import Derived.Test.YtpbcncfbfbghcaaGreatDoorP20T
import Derived.Test.YtpbcncfbfbghcaaGreatDoorP20C
import Derived.Test.YtpbcncfbfbghcaaGreatDoorP20R
import Derived.Test.YtpbcncfbfbghcaaGreatDoorP20U
namespace Go.Proofs.YtpbcncfbfbghcaaGreatDoor.L20
set_option maxRecDepth 100000
open Go.RowKit Mem L19
open M17 (Laid Laid.below)
set_option linter.unusedVariables false
set_option linter.unusedSimpArgs false

/-- Bit i of the mask: a minus sign. -/
def bitM (l : List UInt8) (i : Nat) : Bool := decide ((l.getD (i / 8) 0).toNat / 2 ^ (i % 8) % 2 = 1)
def bits (l : List UInt8) (n : Nat) : List Bool := (List.range n).map (bitM l)
theorem bits_succ (l : List UInt8) (n : Nat) : bits l (n + 1) = bits l n ++ [bitM l n] := by unfold bits; rw [List.range_succ, List.map_append]; rfl
theorem bits_len (l : List UInt8) (n : Nat) : (bits l n).length = n := by simp [bits]
theorem hdT_snoc (m : List Bool) (b : Bool) : hdT (m ++ [b]) = hdT m ++ [if b then 45 else 40] := by unfold hdT; rw [List.map_append]; rfl
theorem tlT_true (m : List Bool) : tlT (m ++ [true]) = tlT m := by unfold tlT; rw [List.count_append]; simp
theorem tlT_false (m : List Bool) : tlT (m ++ [false]) = tlT m ++ [41] := by
  unfold tlT
  rw [List.count_append, show List.count false [false] = 1 from rfl, List.replicate_succ']
theorem u8_and1 (n : Int) : Go.bits .and .u8 n 1 = n % 2 := by
  have h1 : (BitVec.ofInt 8 1).toNat = 2 ^ 1 - 1 := by decide
  have key : (BitVec.ofInt 8 n &&& BitVec.ofInt 8 1).toNat = (n % ((2 ^ 8 : Nat) : Int)).toNat % 2 ^ 1 := by
    rw [BitVec.toNat_and, BitVec.toNat_ofInt, h1, Nat.and_two_pow_sub_one_eq_mod]
  show IntKind.u8.wrap ((BitVec.ofInt 8 n &&& BitVec.ofInt 8 1).toNat : Nat) = n % 2
  rw [key]
  unfold IntKind.wrap
  simp [IntKind.signed, IntKind.bits]
  omega
theorem bit_is (y j : Nat) : (Go.bits .and .u8 ((y : Int) / 2 ^ j) 1 == 0) = !decide (y / 2 ^ j % 2 = 1) := by
  rw [u8_and1]
  have : (y : Int) / 2 ^ j = ((y / 2 ^ j : Nat) : Int) := by simp
  rw [this, Bool.eq_iff_iff, beq_iff_eq, Bool.not_eq_true', decide_eq_false_iff_not]
  omega
theorem tlT_le (m : List Bool) : (tlT m).length ≤ m.length := by unfold tlT; rw [List.length_replicate]; exact List.count_le_length
theorem hdT_len (m : List Bool) : (hdT m).length = m.length := by unfold hdT; rw [List.length_map]
set_option maxHeartbeats 8000000 in
theorem walk_depth (m0 m1 m2 m3 m4 m5 m6 m7 m8 m9 ma mb mc : UInt8) (more : Bool) (w : World) (hL : Laid w) :
    Calls Tryz.prog 10 #[.agg #[.int .u8 (m0.toNat : Int), .int .u8 (m1.toNat : Int), .int .u8 (m2.toNat : Int), .int .u8 (m3.toNat : Int), .int .u8 (m4.toNat : Int), .int .u8 (m5.toNat : Int), .int .u8 (m6.toNat : Int), .int .u8 (m7.toNat : Int), .int .u8 (m8.toNat : Int), .int .u8 (m9.toNat : Int), .int .u8 (ma.toNat : Int), .int .u8 (mb.toNat : Int), .int .u8 (mc.toNat : Int)], .bool more] w fun e w' => e = .returned (.bool true) ∧ Below w.heap.size w w' := by
  obtain ⟨l, hl⟩ : ∃ l, [m0, m1, m2, m3, m4, m5, m6, m7, m8, m9, ma, mb, mc] = l := ⟨_, rfl⟩
  have hll : l.length = 13 := by rw [← hl]; rfl
  obtain ⟨W0, g0, hW0, hg0, hb0, hl0⟩ := box_new w [.int .u8 (m0.toNat : Int), .int .u8 (m1.toNat : Int), .int .u8 (m2.toNat : Int), .int .u8 (m3.toNat : Int), .int .u8 (m4.toNat : Int), .int .u8 (m5.toNat : Int), .int .u8 (m6.toNat : Int), .int .u8 (m7.toNat : Int), .int .u8 (m8.toNat : Int), .int .u8 (m9.toNat : Int), .int .u8 (ma.toNat : Int), .int .u8 (mb.toNat : Int), .int .u8 (mc.toNat : Int)] 56
  have hcl : [.int .u8 (m0.toNat : Int), .int .u8 (m1.toNat : Int), .int .u8 (m2.toNat : Int), .int .u8 (m3.toNat : Int), .int .u8 (m4.toNat : Int), .int .u8 (m5.toNat : Int), .int .u8 (m6.toNat : Int), .int .u8 (m7.toNat : Int), .int .u8 (m8.toNat : Int), .int .u8 (m9.toNat : Int), .int .u8 (ma.toNat : Int), .int .u8 (mb.toNat : Int), .int .u8 (mc.toNat : Int)] = l.map fun y => Value.int .u8 (y.toNat : Int) := by rw [← hl]; rfl
  rw [hcl] at hb0
  have c0 := Lib.hid (alive_any W0 (hL.below hl0))
  have hL := Lib.hid hL
  clear hcl hl
  obtain ⟨n, hn⟩ : ∃ n : Nat, (if more = true then 100 else 98) = n := ⟨_, rfl⟩
  go_enter Tryz.func10, Tryz.ntmps10
  go_wp2_with fail
  refine (c0.out).mono ?_
  rintro e w1 ⟨rfl, hb1⟩
  have hbx := hb0.below hb1
  have hcell : ∀ i, i < 13 → w1.cell? ⟨g0, i, none⟩ = some (.int .u8 ((l.getD i 0).toNat : Int)) := fun i hi => by
    rw [hbx.cell i, List.getElem?_map, List.getElem?_eq_getElem (by omega), List.getD_eq_getElem?_getD, List.getElem?_eq_getElem (by omega)]
    rfl
  have hb2 := Lib.hid (chain hl0 hb1)
  replace hcell := Lib.hid hcell
  clear hb0 hl0 hb1 hbx c0
  cases more with
  | false =>
    obtain rfl : n = 98 := hn.symm
    clear hn
    go_wp2
    go_loopw [6, 7, 8] (fun hv tv iv wr => ∃ (k : Nat) (H T : ByteArray), iv = .int .i64 (k : Int) ∧ k ≤ 98 ∧ hv = .string H ∧ tv = .string T ∧ H.data.toList = hdT (bits l k) ∧ T.data.toList = tlT (bits l k) ∧ wr = w1) (fun _ _ iv _ => 98 - (intOf iv).toNat)
    case atStart => exact ⟨0, _, _, rfl, by omega, rfl, rfl, rfl, rfl, rfl⟩
    case round =>
      obtain ⟨k, H, T, rfl, hk, rfl, rfl, hH, hT, rfl⟩ := hrel
      have hHs : H.size = k := by rw [str_len hH, hdT_len, bits_len]
      have hTs : T.size ≤ k := by rw [str_len hT]; have := tlT_le (bits l k); rw [bits_len] at this; exact this
      by_cases hlt : k < 98
      · have dk : decide ((k : Int) < 98) = true := decide_eq_true (by omega)
        have k0 : (0 : Int) ≤ (k : Int) := by omega
        have e1 : Int.tdiv (k : Int) 8 = ((k / 8 : Nat) : Int) := rfl
        have e2 : Int.tmod (k : Int) 8 = ((k % 8 : Nat) : Int) := rfl
        obtain ⟨i, hi⟩ : ∃ i, k / 8 = i := ⟨_, rfl⟩
        obtain ⟨j, hj⟩ : ∃ j, k % 8 = j := ⟨_, rfl⟩
        have hbt : bitM l k = decide ((l.getD i 0).toNat / 2 ^ j % 2 = 1) := by unfold bitM; rw [hi, hj]
        rw [hi] at e1
        rw [hj] at e2
        have i13 : i < 13 := by omega
        have hc := hcell.out i i13
        obtain ⟨y, hy⟩ : ∃ y, l.getD i 0 = y := ⟨_, rfl⟩
        rw [hy] at hc hbt
        have hbi := bit_is y.toNat j
        rw [← hbt] at hbi
        have i0 : (0 : Int) ≤ (i : Int) := by omega
        have i1 : (i : Int) < 13 := by omega
        have j0 : (0 : Int) ≤ (j : Int) := by omega
        have j1 : (j : Int) < 8 := by omega
        have hHs2 : H.size ≤ 98 := by omega
        have hTs2 : T.size ≤ 98 := by omega
        obtain ⟨q, hq⟩ : ∃ q, bitM l k = q := ⟨_, rfl⟩
        rw [hq] at hbi
        have hbs := bits_succ l k
        rw [hq] at hbs
        cases q with
        | true =>
          have hfH : (H ++ (⟨#[45]⟩ : ByteArray)).data.toList = hdT (bits l (k + 1)) := by rw [two_bytes, hH, hbs, hdT_snoc]; rfl
          have hfT : T.data.toList = tlT (bits l (k + 1)) := by rw [hT, hbs, tlT_true]
          replace hfH := Lib.hid hfH
          replace hfT := Lib.hid hfT
          replace hbi : (Go.bits .and .u8 ((y.toNat : Int) / 2 ^ j) 1 == 0) = false := hbi
          clear hbs hbt hq hy hi hj hH hT hHs hTs i13
          go_wp2
          go_roundw
          case rel => exact ⟨k + 1, _, _, by go_num, by omega, rfl, rfl, hfH.out, hfT.out, trivial⟩
          case measure => simp [intOf]; omega
        | false =>
          have hfH : (H ++ (⟨#[40]⟩ : ByteArray)).data.toList = hdT (bits l (k + 1)) := by rw [two_bytes, hH, hbs, hdT_snoc]; rfl
          have hfT : (T ++ (⟨#[41]⟩ : ByteArray)).data.toList = tlT (bits l (k + 1)) := by rw [two_bytes, hT, hbs, tlT_false]
          replace hfH := Lib.hid hfH
          replace hfT := Lib.hid hfT
          replace hbi : (Go.bits .and .u8 ((y.toNat : Int) / 2 ^ j) 1 == 0) = true := hbi
          clear hbs hbt hq hy hi hj hH hT hHs hTs i13
          go_wp2
          go_roundw
          case rel => exact ⟨k + 1, _, _, by go_num, by omega, rfl, rfl, hfH.out, hfT.out, trivial⟩
          case measure => simp [intOf]; omega
      · obtain rfl : k = 98 := by omega
        have hHs2 : H.size ≤ 98 := by omega
        have hTs2 : T.size ≤ 98 := by omega
        have hPl : (H ++ (⟨#[121]⟩ : ByteArray) ++ T).data.toList = hdT (bits l 98) ++ [121] ++ tlT (bits l 98) := by rw [three_bytes, hH, hT]
        obtain ⟨P, hP⟩ : ∃ P, H ++ (⟨#[121]⟩ : ByteArray) ++ T = P := ⟨_, rfl⟩
        rw [hP] at hPl
        have hpar := (depth (m := bits l 98) (by rw [bits_len]; decide)).1 (by rw [bits_len]; decide)
        rw [← hPl] at hpar
        have cB := Lib.hid (body_any P wr (by rw [str_len hPl]; simp only [List.length_append, List.length_cons, List.length_nil]; rw [← str_len hH, ← str_len hT]; omega))
        clear hPl hH hT hHs hTs hcell
        go_wp2_with fail
        refine (cB.out).mono ?_
        rintro e w4 ⟨⟨S, hS, rfl⟩, rfl⟩
        rw [← hS] at hpar
        have cP := Lib.hid (Parse_use S hpar (lv := 0) (la := 0) (lf := 1) rfl rfl rfl (ni := 0) (ei := 0) rfl rfl _ (hL.out.below hb2.out))
        clear hpar hS cB
        go_wp2_with fail
        refine (cP.out).mono ?_
        rintro e w5 ⟨Va, Aa, Ea, cv, ca, ce, rfl, hP5, hb5⟩
        obtain ⟨W6, g6, W7, hW6, hg6, hW7, hb6, hb7, hP7, hl7⟩ := pg_store hP5 0 0 1
        obtain ⟨u0, u1, u2, f0, f1, f2⟩ := pg_box hb6
        obtain ⟨x0, x1, x2, _, _, _⟩ := pg_box hb7
        have hfin := Lib.hid (chain hb2.out (chain hb5 hl7))
        clear hb5 hP5 hb6 hb7 hP7 hl7 cP
        go_wp2
        first | go_ret | go_ret2 | skip
        exact ⟨rfl, hfin.out⟩
  | true =>
    obtain rfl : n = 100 := hn.symm
    clear hn
    go_wp2
    go_loopw [6, 7, 8] (fun hv tv iv wr => ∃ (k : Nat) (H T : ByteArray), iv = .int .i64 (k : Int) ∧ k ≤ 100 ∧ hv = .string H ∧ tv = .string T ∧ H.data.toList = hdT (bits l k) ∧ T.data.toList = tlT (bits l k) ∧ wr = w1) (fun _ _ iv _ => 100 - (intOf iv).toNat)
    case atStart => exact ⟨0, _, _, rfl, by omega, rfl, rfl, rfl, rfl, rfl⟩
    case round =>
      obtain ⟨k, H, T, rfl, hk, rfl, rfl, hH, hT, rfl⟩ := hrel
      have hHs : H.size = k := by rw [str_len hH, hdT_len, bits_len]
      have hTs : T.size ≤ k := by rw [str_len hT]; have := tlT_le (bits l k); rw [bits_len] at this; exact this
      by_cases hlt : k < 100
      · have dk : decide ((k : Int) < 100) = true := decide_eq_true (by omega)
        have k0 : (0 : Int) ≤ (k : Int) := by omega
        have e1 : Int.tdiv (k : Int) 8 = ((k / 8 : Nat) : Int) := rfl
        have e2 : Int.tmod (k : Int) 8 = ((k % 8 : Nat) : Int) := rfl
        obtain ⟨i, hi⟩ : ∃ i, k / 8 = i := ⟨_, rfl⟩
        obtain ⟨j, hj⟩ : ∃ j, k % 8 = j := ⟨_, rfl⟩
        have hbt : bitM l k = decide ((l.getD i 0).toNat / 2 ^ j % 2 = 1) := by unfold bitM; rw [hi, hj]
        rw [hi] at e1
        rw [hj] at e2
        have i13 : i < 13 := by omega
        have hc := hcell.out i i13
        obtain ⟨y, hy⟩ : ∃ y, l.getD i 0 = y := ⟨_, rfl⟩
        rw [hy] at hc hbt
        have hbi := bit_is y.toNat j
        rw [← hbt] at hbi
        have i0 : (0 : Int) ≤ (i : Int) := by omega
        have i1 : (i : Int) < 13 := by omega
        have j0 : (0 : Int) ≤ (j : Int) := by omega
        have j1 : (j : Int) < 8 := by omega
        have hHs2 : H.size ≤ 100 := by omega
        have hTs2 : T.size ≤ 100 := by omega
        obtain ⟨q, hq⟩ : ∃ q, bitM l k = q := ⟨_, rfl⟩
        rw [hq] at hbi
        have hbs := bits_succ l k
        rw [hq] at hbs
        cases q with
        | true =>
          have hfH : (H ++ (⟨#[45]⟩ : ByteArray)).data.toList = hdT (bits l (k + 1)) := by rw [two_bytes, hH, hbs, hdT_snoc]; rfl
          have hfT : T.data.toList = tlT (bits l (k + 1)) := by rw [hT, hbs, tlT_true]
          replace hfH := Lib.hid hfH
          replace hfT := Lib.hid hfT
          replace hbi : (Go.bits .and .u8 ((y.toNat : Int) / 2 ^ j) 1 == 0) = false := hbi
          clear hbs hbt hq hy hi hj hH hT hHs hTs i13
          go_wp2
          go_roundw
          case rel => exact ⟨k + 1, _, _, by go_num, by omega, rfl, rfl, hfH.out, hfT.out, trivial⟩
          case measure => simp [intOf]; omega
        | false =>
          have hfH : (H ++ (⟨#[40]⟩ : ByteArray)).data.toList = hdT (bits l (k + 1)) := by rw [two_bytes, hH, hbs, hdT_snoc]; rfl
          have hfT : (T ++ (⟨#[41]⟩ : ByteArray)).data.toList = tlT (bits l (k + 1)) := by rw [two_bytes, hT, hbs, tlT_false]
          replace hfH := Lib.hid hfH
          replace hfT := Lib.hid hfT
          replace hbi : (Go.bits .and .u8 ((y.toNat : Int) / 2 ^ j) 1 == 0) = true := hbi
          clear hbs hbt hq hy hi hj hH hT hHs hTs i13
          go_wp2
          go_roundw
          case rel => exact ⟨k + 1, _, _, by go_num, by omega, rfl, rfl, hfH.out, hfT.out, trivial⟩
          case measure => simp [intOf]; omega
      · obtain rfl : k = 100 := by omega
        have hHs2 : H.size ≤ 100 := by omega
        have hTs2 : T.size ≤ 100 := by omega
        have hPl : (H ++ (⟨#[121]⟩ : ByteArray) ++ T).data.toList = hdT (bits l 100) ++ [121] ++ tlT (bits l 100) := by rw [three_bytes, hH, hT]
        obtain ⟨P, hP⟩ : ∃ P, H ++ (⟨#[121]⟩ : ByteArray) ++ T = P := ⟨_, rfl⟩
        rw [hP] at hPl
        have hpar := (depth (m := bits l 100) (by rw [bits_len]; decide)).2 (by rw [bits_len]; decide)
        rw [← hPl] at hpar
        have cB := Lib.hid (body_any P wr (by rw [str_len hPl]; simp only [List.length_append, List.length_cons, List.length_nil]; rw [← str_len hH, ← str_len hT]; omega))
        clear hPl hH hT hHs hTs hcell
        go_wp2_with fail
        refine (cB.out).mono ?_
        rintro e w4 ⟨⟨S, hS, rfl⟩, rfl⟩
        rw [← hS] at hpar
        have cP := Lib.hid (Parse_use S hpar (lv := 0) (la := 0) (lf := 0) rfl rfl rfl (ni := 1) (ei := 6) rfl rfl _ (hL.out.below hb2.out))
        clear hpar hS cB
        go_wp2_with fail
        refine (cP.out).mono ?_
        rintro e w5 ⟨Va, Aa, Ea, cv, ca, ce, rfl, hP5, hb5⟩
        obtain ⟨W6, g6, W7, hW6, hg6, hW7, hb6, hb7, hP7, hl7⟩ := pg_store hP5 0 0 0
        obtain ⟨u0, u1, u2, f0, f1, f2⟩ := pg_box hb6
        obtain ⟨x0, x1, x2, _, _, _⟩ := pg_box hb7
        have hfin := Lib.hid (chain hb2.out (chain hb5 hl7))
        clear hb5 hP5 hb6 hb7 hP7 hl7 cP
        go_wp2
        first | go_ret | go_ret2 | skip
        exact ⟨rfl, hfin.out⟩
/-- The same at what the reading says. -/
theorem row_depth (l : List UInt8) (more : Bool) (w : World) (hL : Laid w) (hl : l.length = 13) : Calls Tryz.prog 10 #[bav l, .bool more] w fun e w' => e = .returned (.bool true) ∧ Below w.heap.size w w' := by
  match l, hl with
  | [m0, m1, m2, m3, m4, m5, m6, m7, m8, m9, ma, mb, mc], _ => exact walk_depth m0 m1 m2 m3 m4 m5 m6 m7 m8 m9 ma mb mc more w hL
end Go.Proofs.YtpbcncfbfbghcaaGreatDoor.L20
