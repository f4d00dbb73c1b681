/- A text that grows: a strings.Builder in a block of its own or at the head of a struct (layer 20). strconv.FormatUint and Itoa, to the base of ten, in worlds that hold the table of powers of ten (layer 20). The landed formatter: which operands are enclosed; lists of expressions (layer 20). The landed formatter: writeOperands (layer 20). The landed formatter: writeExpr, formatted (layer 20). strings.Join of a slice of strings (layer 20). -/
import Derived.Test.YtpbcncfbfbghcaaGreatDoorP20C
import Derived.Test.YtpbcncfbfbghcaaGreatDoorP20E
import Derived.WalkKit
import Derived.BigQuiet
import Derived.Lib.Builder
import Derived.Lib.AppendStr
import Derived.Lib.OthersKept
import Derived.WalkSmall
import Derived.Lib.Hide
import Derived.RangeFuncOwn
import Derived.Test.YtpbcncfbfbghcaaGreatDoorShelf
import Derived.Test.YtpbcncfbfbghcaaGreatDoorP20A
import Derived.Test.YtpbcncfbfbghcaaGreatDoorP20Lift
import Derived.Lib.AppendIntMem
import Derived.Lib.ItoaMem
import Derived.Lib.LaidTab
import Derived.Stop.LaidErr
import Derived.Test.YtpbcncfbfbghcaaGreatDoorP20G
import Derived.Test.YtpbcncfbfbghcaaGreatDoorP20H
import Derived.Test.YtpbcncfbfbghcaaGreatDoorP20O
namespace Go.Proofs.YtpbcncfbfbghcaaGreatDoor.L20
set_option maxRecDepth 100000
open Go.RowKit Mem L19
set_option linter.unusedVariables false
set_option linter.unusedSimpArgs false

theorem sizeBu : (Tryz.prog.info? 81).map (·.size) = some 2 := by kernel_rfl
theorem infoBy : (Tryz.prog.info? 5).map (fun i => (i.zero, i.size, i.bytes)) = some (some (.int .u8 0), 1, 1) := by kernel_rfl
/-- The text in a block of type T, whose cells behind the first two are x. -/
def TxAt (T : TypeId) (x : List Value) (B b : Nat) (p : Value) (l : Str) (w : World) : Prop :=
  B ≤ b ∧ ∃ v, w.heap[b]? = some (.cells (p :: v :: x).toArray T (0, 0)) ∧ w.ownsRow B 5 1 v l.length (Lib.byteCells l) ∧ v.ownBlock ≠ some b
def Tx (T : TypeId) (x : List Value) (B b : Nat) (l : Str) (w : World) : Prop := TxAt T x B b (.pointer none) l w ∨ TxAt T x B b (.pointer (some ⟨b, 0, none⟩)) l w
theorem TxAt.lt {T : TypeId} {x : List Value} {B b : Nat} {p : Value} {l : Str} {w : World} (h : TxAt T x B b p l w) : b < w.heap.size := by
  obtain ⟨_, v, hb, _⟩ := h
  exact (Array.getElem?_eq_some_iff.1 hb).1
theorem TxAt.cell0 {T : TypeId} {x : List Value} {B b : Nat} {p : Value} {l : Str} {w : World} (h : TxAt T x B b p l w) : w.cell? ⟨b, 0, none⟩ = some p := by
  obtain ⟨_, v, hb, _⟩ := h
  rw [Lib.cell_of_heap hb]; rfl
theorem TxAt.shape {T : TypeId} {x : List Value} {B b : Nat} {p : Value} {l : Str} {w : World} (h : TxAt T x B b p l w) : w.shape? b = some (T, 2 + x.length) := by
  obtain ⟨_, v, hb, _⟩ := h
  simp [World.shape?, hb]
  omega
theorem TxAt.frozen0 {T : TypeId} {x : List Value} {B b : Nat} {p : Value} {l : Str} {w : World} (h : TxAt T x B b p l w) : w.frozen? ⟨b, 0, none⟩ = false := by
  obtain ⟨_, v, hb, _⟩ := h
  exact Lib.frozen_of_heap hb 0
theorem TxAt.used {T : TypeId} {x : List Value} {B b : Nat} {p : Value} {l : Str} {w : World} (h : TxAt T x B b p l w) (q : Value) : TxAt T x B b q l (w.setCell ⟨b, 0, none⟩ q) := by
  obtain ⟨hB, v, hb, hown, hne⟩ := h
  refine ⟨hB, v, ?_, ?_, hne⟩
  · simp [World.setCell, Array.getElem?_modify, hb]
  · exact hown.kept (row := some b) ⟨rfl, rfl, rfl, by simp [World.setCell], fun k _ hk => Below.heap_setCell _ _ _ _ (fun e => hk (by simp [e]))⟩ (Or.inr hne)
theorem TxAt.put {T : TypeId} {x : List Value} {B b : Nat} {p v v' : Value} {l : Str} {w : World} (hB : B ≤ b) (hb : w.heap[b]? = some (.cells (p :: v :: x).toArray T (0, 0))) (hown : w.ownsRow B 5 1 v' l.length (Lib.byteCells l)) (hT : T ≠ 5) :
    TxAt T x B b p l (w.setCell ⟨b, 1, none⟩ v') := by
  have hne := Lib.ownBlock_ne hown hb hT
  refine ⟨hB, v', ?_, ?_, hne⟩
  · simp [World.setCell, Array.getElem?_modify, hb]
  · exact hown.kept (row := some b) ⟨rfl, rfl, rfl, by simp [World.setCell], fun k _ hk => Below.heap_setCell _ _ _ _ (fun e => hk (by simp [e]))⟩ (Or.inr hne)
/-- What a write leaves alone. -/
structure Wr (B b : Nat) (w w' : World) : Prop where
  below : Below B w w'
  others : Lib.OthersKept 5 (some b) w w'
theorem Wr.refl (B b : Nat) (w : World) : Wr B b w w := ⟨Below.refl _ _, Lib.OthersKept.refl _ _ _⟩
theorem Wr.trans {B b : Nat} {w w1 w2 : World} (h : Wr B b w w1) (k : Wr B b w1 w2) : Wr B b w w2 := ⟨h.below.trans k.below, h.others.trans k.others⟩
theorem Wr.of_below {B b : Nat} {w w1 : World} (h : Below w.heap.size w w1) (hB : B ≤ w.heap.size) : Wr B b w w1 := ⟨h.mono hB, fun k o hk _ _ => (h.block k (Array.getElem?_eq_some_iff.1 hk).1).trans hk⟩
theorem Wr.size {B b : Nat} {w w1 : World} (h : Wr B b w w1) : w.heap.size ≤ w1.heap.size := h.below.size
/-- A box of another type stays. -/
theorem Wr.blk {B b : Nat} {w w1 : World} (h : Wr B b w w1) {T : TypeId} {g : Nat} {cs : List Value} (hb : Blk T w g cs) (hg : g ≠ b) (hT : T ≠ 5) : Blk T w1 g cs :=
  h.others g _ hb (fun e => hg (by injection e)) (fun c fz e => hT (by injection e))
theorem Wr.kept {B b : Nat} {w w1 : World} (h : Wr B b w w1) : Kept (fun x => x < B) w w1 := ⟨h.below.size, fun x hx _ => h.below.block x hx⟩
theorem TxAt.below {T : TypeId} {x : List Value} {B b : Nat} {p : Value} {l : Str} {w w1 : World} (h : TxAt T x B b p l w) (k : Below w.heap.size w w1) : TxAt T x B b p l w1 := by
  have hlt := h.lt
  obtain ⟨hB, v, hb, hown, hne⟩ := h
  exact ⟨hB, v, (k.block b hlt).trans hb, own_below hown k, hne⟩
theorem Tx.below {T : TypeId} {x : List Value} {B b : Nat} {l : Str} {w w1 : World} (h : Tx T x B b l w) (k : Below w.heap.size w w1) : Tx T x B b l w1 := by
  rcases h with h | h
  · exact .inl (h.below k)
  · exact .inr (h.below k)
theorem Tx.base {T : TypeId} {x : List Value} {B b : Nat} {l : Str} {w : World} (h : Tx T x B b l w) : B ≤ b ∧ b < w.heap.size := by
  rcases h with h | h
  · exact ⟨h.1, h.lt⟩
  · exact ⟨h.1, h.lt⟩
/-- A type at whose head a Builder lies. -/
structure HeadB (T : TypeId) (n : Nat) : Prop where
  ne : T ≠ 5
  lies : liesAt Tryz.prog Tryz.prog.depth T ((2 + n) / Tryz.prog.cellsOf T) 0 81 1 = true
theorem headB0 : HeadB 81 0 := ⟨by decide, by kernel_rfl⟩
theorem headB1 : HeadB 83 1 := ⟨by decide, by kernel_rfl⟩
section
variable {T : TypeId} {x : List Value} {B b : Nat} {l : Str} {w : World}
set_option maxHeartbeats 1000000 in
theorem tx_check (hT : HeadB T x.length) (h : Tx T x B b l w) :
    Calls Tryz.prog 88 #[.pointer (some ⟨b, 0, none⟩)] w fun e w' => e = .returned (.tuple #[]) ∧ TxAt T x B b (.pointer (some ⟨b, 0, none⟩)) l w' ∧ Wr B b w w' := by
  obtain ⟨j, hj, hjs⟩ := Option.map_eq_some_iff.1 sizeBu
  rcases h with h | h
  · have h0 := h.cell0
    have hsh := h.shape
    have hfz := h.frozen0
    have hfin := Lib.hid (And.intro (h.used (.pointer (some ⟨b, 0, none⟩))) (Wr.mk ((Below.refl B w).setCell (p := ⟨b, 0, none⟩) h.1 (.pointer (some ⟨b, 0, none⟩))) ((Lib.OthersKept.refl 5 (some b) w).setCell ⟨b, 0, none⟩ rfl (.pointer (some ⟨b, 0, none⟩)))))
    have hlies := hT.lies
    clear h hT
    go_enter Tryz.func88, Tryz.ntmps88
    go_wp2
    rw [Lib.run_to_unsafe w ⟨b, 0, none⟩ Tryz.underlying78 Tryz.underlying138 hj (by rw [hjs]; decide) hsh (by show 0 < 2 + x.length; omega)]
    simp only [Result.andThen]
    rw [Oper.upon_value]
    go_wp2
    rw [run_callFunc_extern Tryz.func125 (by kernel_rfl) (by kernel_rfl) (by kernel_rfl) (e := Extern.AbiNoEscape.same) (by kernel_rfl)]
    rw [Lib.run_noEscape]
    simp only [Result.andThen]
    rw [Oper.upon_value]
    go_wp2
    rw [Lib.run_from_unsafe w ⟨b, 0, none⟩ Tryz.underlying138 Tryz.underlying78 hj hsh hlies]
    simp only [Result.andThen]
    rw [Oper.upon_value]
    go_wp2
    go_end0
    exact ⟨rfl, hfin.out⟩
  · have h0 := h.cell0
    have hfin := Lib.hid h
    clear h hT
    go_enter Tryz.func88, Tryz.ntmps88
    go_wp2
    rw [Lib.run_neq_ptr_same w _ Tryz.underlying78 hj]
    go_wp2
    go_end0
    exact ⟨rfl, hfin.out, Wr.refl _ _ _⟩
set_option maxHeartbeats 2000000 in
theorem tx_write (hT : HeadB T x.length) (h : Tx T x B b l w) (s : ByteArray) (hlen : l.length + s.size ≤ 140737488355328) (hBw : B ≤ w.heap.size) :
    Calls Tryz.prog 58 #[.pointer (some ⟨b, 0, none⟩), .string s] w fun e w' => e = .returned (.tuple #[.int .i64 s.size, .nilIface]) ∧ Tx T x B b (l ++ s.data.toList) w' ∧ Wr B b w w' := by
  obtain ⟨i0, hi, hz0, hz1, hz2⟩ := info_parts infoBy
  have c1 := tx_check hT h
  go_enter Tryz.func58, Tryz.ntmps58
  go_wp2_with (go_at_call 88; refine c1.mono ?_)
  rintro e w1 ⟨rfl, h1, hb1⟩
  obtain ⟨hB, v, hbk, hown, hne⟩ := h1
  have c0 : w1.cell? ⟨b, 0, none⟩ = some (.pointer (some ⟨b, 0, none⟩)) := by rw [Lib.cell_of_heap hbk]; rfl
  have c1 : w1.cell? ⟨b, 1, none⟩ = some v := by rw [Lib.cell_of_heap hbk]; rfl
  have hll : (Lib.byteCells l).length = l.length := Lib.byteCells_length l
  go_wp2_with (at_builtin; refine Lib.wpList_append_own_string _ rfl _ _ 79 9 rfl B 5 i0 Tryz.underlying79 Tryz.underlying9 hi hz0 hz1 hz2 _ _ _ rfl hown s rfl ?c3 ?c4 ?c5 ?_)
  case c3 => unfold maxLen; omega
  case c4 => omega
  case c5 => have := hb1.size; omega
  intro v' w2 hown' hgrow _
  have hlt : b < w1.heap.size := (Array.getElem?_eq_some_iff.1 hbk).1
  have hb2 : w2.heap[b]? = some (.cells (.pointer (some ⟨b, 0, none⟩) :: v :: x).toArray T (0, 0)) := by
    rw [hgrow.block b hlt (fun e => hne e.symm)]
    exact hbk
  have d0 : w2.cell? ⟨b, 0, none⟩ = some (.pointer (some ⟨b, 0, none⟩)) := by rw [Lib.cell_of_heap hb2]; rfl
  have d1 : w2.cell? ⟨b, 1, none⟩ = some v := by rw [Lib.cell_of_heap hb2]; rfl
  have f1 : w2.frozen? ⟨b, 1, none⟩ = false := Lib.frozen_of_heap hb2 1
  obtain ⟨ao, n', cap, rfl⟩ : ∃ ao n' cap, v' = .slice ao n' cap := by
    rcases hown'.2 with ⟨hv, _⟩ | ⟨g, cap, cur, hv, _⟩
    · exact ⟨_, _, _, hv⟩
    · exact ⟨_, _, _, hv⟩
  have hcat : Lib.byteCells l ++ Lib.strCells s = Lib.byteCells (l ++ s.data.toList) := by rw [Lib.byteCells_append]; rfl
  rw [hcat] at hown'
  have hown3 : w2.ownsRow B 5 1 (.slice ao n' cap) (l ++ s.data.toList).length (Lib.byteCells (l ++ s.data.toList)) := by
    rw [List.length_append]
    exact hown'
  have hfin := Lib.hid (TxAt.put hB hb2 hown3 hT.ne)
  have hbl := Lib.hid ((hb1.below.grown hgrow (by have := hb1.size; omega) (fun k hk => (hown.lt k hk).1)).setCell (p := ⟨b, 1, none⟩) hB (.slice ao n' cap))
  have hok := Lib.hid ((hb1.others.grown hgrow (fun g hg => by
    rcases hown.2 with ⟨hv, _⟩ | ⟨g', cap', cur', hv, _, hh, _⟩
    · rw [hv] at hg; cases hg
    · rw [hv] at hg; injection hg with hg; subst hg; exact ⟨_, _, hh⟩)).setCell ⟨b, 1, none⟩ rfl (.slice ao n' cap))
  clear hown hown' hown3 hgrow hb1 hbk hb2 hll
  go_wp2
  go_ret2
  exact ⟨rfl, .inr hfin.out, hbl.out, hok.out⟩
end
end Go.Proofs.YtpbcncfbfbghcaaGreatDoor.L20
namespace Go.Proofs.YtpbcncfbfbghcaaGreatDoor.L20
set_option maxRecDepth 100000
open Go.RowKit Mem Go.Sort Go.Shelf
open M17 (Laid Laid.below gPow tPow cPow cU64)
set_option linter.unusedVariables false
set_option linter.unusedSimpArgs false

set_option maxHeartbeats 2000000 in
theorem fmt_in (n : Nat) (h : n < 100) (w : World) : Calls Tryz.prog 207 #[.int .u64 (n : Int), .int .i64 10] w fun e w' => e = .returned (.string ⟨(Lib.decDigits n).toArray⟩) ∧ Below w.heap.size w w' := by
  have cS := fun W => Tryz.internal_strconv_small n h W
  obtain ⟨D, hD⟩ : ∃ D : ByteArray, ⟨(Lib.decDigits n).toArray⟩ = D := ⟨_, rfl⟩
  rw [hD]
  have n0 : (0 : Int) ≤ (n : Int) := by omega
  have n1 : (n : Int) < 100 := by omega
  have d1 : decide ((n : Int) < 100) = true := decide_eq_true n1
  try rw [hD] at cS
  replace cS := Lib.hid cS
  go_enter Tryz.func207, Tryz.ntmps207
  go_wp2_with fail
  refine (cS.out _).mono ?_
  rintro e w1 ⟨rfl, hw⟩
  go_wp2
  first | go_ret | skip
  first | exact ⟨rfl, hw ▸ Below.refl _ _⟩ | exact ⟨rfl, hw⟩
set_option maxHeartbeats 8000000 in
theorem fmt_big (u : Nat) (hu : 100 ≤ u) (hu64 : u < 18446744073709551616) (w : World) (htab : Laid w) : Calls Tryz.prog 207 #[.int .u64 (u : Int), .int .i64 10] w fun e w' => e = .returned (.string ⟨(Lib.decDigits u).toArray⟩) ∧ Below w.heap.size w w' := by
  have hu1 : 1 ≤ u := by omega
  have hnd20 : Lib.nDigits u ≤ 20 := by have := Lib.numDigits_eq u hu1 hu64; split at this <;> omega
  have hb3 : Lib.nDigits u ≤ 24 := by omega
  have hal : Tryz.prog.arrayLen 145 = 24 := by simp [Program.arrayLen, Tryz.underlying145]
  have hsl : ∀ W, (Instr.sliceAt 145 (.pointer (some ⟨w.heap.size, 0, none⟩)) none (some (.int .i64 (Lib.nDigits u : Int))) none).run Tryz.prog W = .ok (.slice (some ⟨w.heap.size, 0, none⟩) (Lib.nDigits u) 24) W := fun W => by
    rw [run_sliceAt_array_h W 145 ⟨w.heap.size, 0, none⟩ (by simp [Program.arrayLen, Program.elem, Tryz.underlying145]) .i64 (Lib.nDigits u : Int) (by omega) (by rw [hal]; omega)]
    go_simp
  have hH0 := Lib.holds_zero0 w 145 (Lib.nDigits u) (by omega)
  have hfmt := Tryz.internal_strconv_formatBase10 w.heap.size 0 24 u (Array.replicate (Lib.nDigits u) 0) (w.alloc (.cells Lib.zeros24 145)) hH0 (by rw [Array.size_replicate]; exact Lib.lt_pow_nDigits u) hu64 (by rw [Array.size_replicate]; omega)
  rw [Array.size_replicate] at hfmt
  have hnum := Tryz.internal_strconv_numDigits u hu1 hu64 (w.alloc (.cells Lib.zeros24 145)) (Lib.tabIs_alloc htab _)
  have HH0 := Lib.hid hH0
  have d1 : decide ((u : Int) < 100) = false := decide_eq_false (by omega)
  have d2 : decide (u < 100) = false := decide_eq_false (by omega)
  replace hfmt := Lib.hid hfmt
  replace hnum := Lib.hid hnum
  clear hH0 hal htab hu1 hu
  go_enter Tryz.func207, Tryz.ntmps207
  go_wp2_with fail
  refine (hnum.out).mono ?_
  rintro e w' ⟨rfl, rfl⟩
  go_wp2_with fail
  refine (hfmt.out).mono ?_
  rintro e w' ⟨rfl, k, v', dk, rfl, hF⟩
  have hcv : (convert 79 9 (.slice (some ⟨w.heap.size, 0, none⟩) (Lib.nDigits u) 24)).run Tryz.prog ((putRow (fun (b : UInt8) => Value.int .u8 (b.toNat : Int)) (w.alloc (.cells Lib.zeros24 145)) w.heap.size 0 dk).drewN k) = .ok (.string ⟨(Lib.decDigits u).toArray⟩) ((putRow (fun (b : UInt8) => Value.int .u8 (b.toNat : Int)) (w.alloc (.cells Lib.zeros24 145)) w.heap.size 0 dk).drewN k) := by
    have h := run_convert_bytes_back (P := Tryz.prog) ((putRow (fun (b : UInt8) => Value.int .u8 (b.toNat : Int)) (w.alloc (.cells Lib.zeros24 145)) w.heap.size 0 dk).drewN k) 79 9 5 ⟨w.heap.size, 0, none⟩ 24 (Lib.decDigits u) Tryz.underlying79 Tryz.underlying5 Tryz.underlying9 (fun j hj => by
      rw [Lib.row_is_numeral hF j hj, Lib.add_plain, World.cell?_drewN]
      exact cell?_putRow (fun (b : UInt8) => Value.int .u8 (b.toNat : Int)) _ w.heap.size 0 _ dk HH0.out (by rw [hF.size, Array.size_replicate]) j (by rw [hF.size]; rw [Lib.decDigits_length] at hj; exact hj))
    rw [Lib.decDigits_length] at h
    exact h
  obtain ⟨os, eo⟩ := Lib.fin_at w (.cells Lib.zeros24 145) dk k 0
  have hb : Below w.heap.size w ((putRow (fun (b : UInt8) => Value.int .u8 (b.toNat : Int)) (w.alloc (.cells Lib.zeros24 145)) w.heap.size 0 dk).drewN k) := by rw [eo]; exact Lib.below_grow _ w (Nat.le_refl _) k os
  generalize (putRow (fun (b : UInt8) => Value.int .u8 (b.toNat : Int)) (w.alloc (.cells Lib.zeros24 145)) w.heap.size 0 dk).drewN k = W2 at hcv hb ⊢
  replace hb := Lib.hid hb
  clear eo HH0 hfmt hnum hF
  go_wp2
  first | go_ret | skip
  exact ⟨rfl, hb.out⟩
theorem fmt_any (u : Nat) (hu64 : u < 18446744073709551616) (w : World) (htab : Laid w) : Calls Tryz.prog 207 #[.int .u64 (u : Int), .int .i64 10] w fun e w' => e = .returned (.string ⟨(Lib.decDigits u).toArray⟩) ∧ Below w.heap.size w w' := by
  by_cases hu : u < 100
  · exact fmt_in u hu w
  · exact fmt_big u (by omega) hu64 w htab
set_option maxHeartbeats 2000000 in
theorem fmt_pub (n : Nat) (h : n < 18446744073709551616) (w : World) (htab : Laid w) : Calls Tryz.prog 203 #[.int .u64 (n : Int), .int .i64 10] w fun e w' => e = .returned (.string ⟨(Lib.decDigits n).toArray⟩) ∧ Below w.heap.size w w' := by
  have cS := Lib.hid (fmt_any n h w htab)
  obtain ⟨D, hD⟩ : ∃ D : ByteArray, ⟨(Lib.decDigits n).toArray⟩ = D := ⟨_, rfl⟩
  rw [hD] at cS ⊢
  go_enter Tryz.func203, Tryz.ntmps203
  go_wp2_with fail
  refine (cS.out).mono ?_
  rintro e w1 ⟨rfl, hw⟩
  go_wp2
  first | go_ret | skip
  exact ⟨rfl, hw⟩
theorem itoa_any (n : Nat) (h : n < 9223372036854775808) (w : World) (hL : Laid w) : Calls Tryz.prog 44 #[.int .i64 (n : Int)] w fun e w' => e = .returned (.string ⟨(Lib.decDigits n).toArray⟩) ∧ Below w.heap.size w w' := by
  have hI : Lib.itoa (n : Int) = Lib.decDigits n := by
    unfold Lib.itoa
    rw [if_neg (by omega)]
    rfl
  refine (Tryz.strconv_Itoa (n : Int) (by omega) (by omega) w hL).mono ?_
  rintro e w' ⟨rfl, k, os, rfl⟩
  rw [hI]
  exact ⟨rfl, Lib.below_grow _ w (Nat.le_refl _) k os⟩
end Go.Proofs.YtpbcncfbfbghcaaGreatDoor.L20
namespace Go.Proofs.YtpbcncfbfbghcaaGreatDoor.L20
set_option maxRecDepth 100000
open Go.RowKit Mem L19
open M17 (Laid Laid.below)
set_option linter.unusedVariables false
set_option linter.unusedSimpArgs false

/-! ### Enclosed operands -/
def encB (T U : Str) (r : Bool) : Bool := if strI T = strI U then r || decide (strI U = 2) else decide (strI T < strI U)
theorem strI_str {x : Exp} (h : Wf x) : strI x.opS + 1 = str x := by
  rw [str_op h]
  unfold strI
  by_cases h0 : 0 < lev x.opS
  · rw [if_pos h0, if_neg, if_pos h0]
    · omega
    · rintro (e | e) <;> rw [e] at h0 <;> exact absurd h0 (by decide)
  · rw [if_neg h0]
    split <;> simp_all
theorem enc_un {y : Exp} {U : Str} (h : Wf y) (hU : U = eNeg ∨ U = eNot) : encB y.opS U false = decide (str y < 7) := by
  have h1 := strI_str h
  have h2 : strI U = 6 := by rcases hU with rfl | rfl <;> decide
  unfold encB
  rw [h2]
  split
  · simp; omega
  · congr 1; rw [eq_iff_iff]; omega
theorem enc_left {y : Exp} {op : Str} (h : Wf y) (hop : 1 ≤ lev op) : encB y.opS op false = decide (str y < lft op) := by
  have h1 := strI_str h
  have h2 : strI op = lev op - 1 := by unfold strI; rw [if_pos (by omega)]
  unfold encB lft
  rw [h2]
  by_cases h3 : strI y.opS = lev op - 1
  · rw [if_pos h3, Bool.false_or]
    congr 1; rw [eq_iff_iff]
    split <;> omega
  · rw [if_neg h3]
    congr 1; rw [eq_iff_iff]
    split <;> omega
theorem enc_right {y : Exp} {op : Str} (h : Wf y) (hop : 1 ≤ lev op) : encB y.opS op true = decide (str y < lev op + 1) := by
  have h1 := strI_str h
  have h2 : strI op = lev op - 1 := by unfold strI; rw [if_pos (by omega)]
  unfold encB
  rw [h2]
  by_cases h3 : strI y.opS = lev op - 1
  · rw [if_pos h3, Bool.true_or]
    symm; rw [decide_eq_true_iff]; omega
  · rw [if_neg h3]
    congr 1; rw [eq_iff_iff]
    omega
set_option maxHeartbeats 4000000 in
theorem enc_any {T U : Str} {X Y : ByteArray} (hX : strV T = .string X) (hY : strV U = .string Y) (r : Bool) (w : World) : Calls Tryz.prog 208 #[.string X, .string Y, .bool r] w fun e w' => e = .returned (.bool (encB T U r)) ∧ w = w' := by
  have c1 := Lib.hid (strength_any hX w)
  have c2 := Lib.hid (strength_any hY w)
  unfold encB
  obtain ⟨a, ha⟩ : ∃ a, strI T = a := ⟨_, rfl⟩
  obtain ⟨b, hb⟩ : ∃ b, strI U = b := ⟨_, rfl⟩
  rw [ha] at c1 ⊢
  rw [hb] at c2 ⊢
  by_cases h : a = b
  · subst h
    have t1 : ((a : Int) == (a : Int)) = true := beq_self_eq_true _
    have t2 : ((a : Int) == 2) = decide (a = 2) := by rw [Bool.eq_iff_iff, beq_iff_eq, decide_eq_true_iff]; omega
    rw [if_pos rfl]
    obtain ⟨q, hq⟩ : ∃ q, decide (a = 2) = q := ⟨_, rfl⟩
    rw [hq] at t2 ⊢
    clear hq ha hb hX hY
    cases r with
    | true =>
      go_enter Tryz.func208, Tryz.ntmps208
      go_wp2_with (first | (go_at_call 199; (with_reducible refine (c1.out).mono ?_); rintro e w1 ⟨rfl, rfl⟩) | (go_at_call 199; (with_reducible refine (c2.out).mono ?_); rintro e w1 ⟨rfl, rfl⟩))
      first | go_ret | go_ret2 | skip
      exact ⟨rfl, rfl⟩
    | false =>
      go_enter Tryz.func208, Tryz.ntmps208
      go_wp2_with (first | (go_at_call 199; (with_reducible refine (c1.out).mono ?_); rintro e w1 ⟨rfl, rfl⟩) | (go_at_call 199; (with_reducible refine (c2.out).mono ?_); rintro e w1 ⟨rfl, rfl⟩))
      first | go_ret | go_ret2 | skip
      exact ⟨rfl, rfl⟩
  · have t1 : ((a : Int) == (b : Int)) = false := beq_eq_false_iff_ne.2 (by omega)
    have t2 : decide ((a : Int) < (b : Int)) = decide (a < b) := by rw [decide_eq_decide]; omega
    rw [if_neg h]
    clear ha hb hX hY h
    go_enter Tryz.func208, Tryz.ntmps208
    go_wp2_with (first | (go_at_call 199; (with_reducible refine (c1.out).mono ?_); rintro e w1 ⟨rfl, rfl⟩) | (go_at_call 199; (with_reducible refine (c2.out).mono ?_); rintro e w1 ⟨rfl, rfl⟩))
    first | go_ret | go_ret2 | skip
    exact ⟨rfl, rfl⟩

/-! ### Where the texts are written from -/
/-- What was there when the text began: its size and the table of powers. -/
def Bas (B : Nat) (w : World) : Prop := ∃ w0 : World, w0.heap.size = B ∧ Laid w0 ∧ Below B w0 w
theorem Bas.start {w : World} (h : Laid w) : Bas w.heap.size w := ⟨w, rfl, h, Below.refl _ _⟩
theorem Bas.le {B : Nat} {w : World} (h : Bas B w) : B ≤ w.heap.size := by
  obtain ⟨w0, rfl, _, h⟩ := h
  exact h.size
theorem Bas.laid {B : Nat} {w : World} (h : Bas B w) : Laid w := by
  obtain ⟨w0, rfl, h1, h2⟩ := h
  exact h1.below h2
theorem Bas.below {B : Nat} {w w1 : World} (h : Bas B w) (k : Below B w w1) : Bas B w1 := by
  obtain ⟨w0, rfl, h1, h2⟩ := h
  exact ⟨w0, rfl, h1, h2.trans k⟩
/-- An expression's cells in letters. -/
theorem exp_let (x : Exp) (A : Option Addr) (cap : Nat) : ∃ (O S : ByteArray) (N : Int) (L : Nat), strV x.opS = .string O ∧ strV x.nam = .string S ∧ (x.numI : Int) = N ∧ x.kids.length = L ∧ eCells x A cap = [.string O, .int .u32 N, .string S, .slice A L cap] := ⟨_, _, _, _, rfl, rfl, rfl, rfl, rfl⟩
theorem box_mk (w : World) (cs : List Value) (T : TypeId) : ∃ W g, w.alloc (.cells cs.toArray T) = W ∧ w.heap.size = g ∧ Blk T W g cs ∧ Below w.heap.size w W := ⟨_, _, rfl, rfl, Blk.new w T cs, boxed w _⟩
/-- A struct of four cells that is stored in a variable. -/
theorem ex_store (w : World) (c0 c1 c2 c3 : Value) : ∃ W g W', w.alloc (.cells #[.string ⟨#[]⟩, .int .u32 0, .string ⟨#[]⟩, .slice none 0 0] 51) = W ∧ w.heap.size = g ∧ (((W.setCell ⟨g, 0, none⟩ c0).setCell ⟨g, 1, none⟩ c1).setCell ⟨g, 2, none⟩ c2).setCell ⟨g, 3, none⟩ c3 = W' ∧
    Blk 51 W g [.string ⟨#[]⟩, .int .u32 0, .string ⟨#[]⟩, .slice none 0 0] ∧ Blk 51 W' g [c0, c1, c2, c3] ∧ Below w.heap.size w W' := by
  obtain ⟨W, g, hW, hg, hb, hl⟩ := box_mk w [.string ⟨#[]⟩, .int .u32 0, .string ⟨#[]⟩, .slice none 0 0] 51
  have hlg : w.heap.size ≤ g := Nat.le_of_eq hg
  exact ⟨W, g, _, hW, hg, rfl, hb, (((hb.set 0 _).set 1 _).set 2 _).set 3 _, (((hl.setCell (p := ⟨g, 0, none⟩) hlg _).setCell (p := ⟨g, 1, none⟩) hlg _).setCell (p := ⟨g, 2, none⟩) hlg _).setCell (p := ⟨g, 3, none⟩) hlg _⟩
abbrev TxB := Tx 81 []
/-- The contract of writeExpr at an expression. -/
def WE (x : Exp) : Prop := ∀ (B b : Nat) (t : Str) (w : World) (A : Option Addr) (L cap : Nat) (O S : ByteArray) (N : Int), eCells x A cap = [.string O, .int .u32 N, .string S, .slice A L cap] → TxB B b t w → Exs w (fun k => k < B) x.kids A cap → Wf x → t.length + (ft x).length ≤ 1000000000 → Bas B w →
  Calls Tryz.prog 194 #[.pointer (some ⟨b, 0, none⟩), .agg #[.string O, .int .u32 N, .string S, .slice A L cap]] w fun e w' => e = .returned (.tuple #[]) ∧ TxB B b (t ++ ft x) w' ∧ Wr B b w w'
theorem jc_take {l : List Exp} {k : Nat} {y : Exp} (hy : l[k]? = some y) : jc ((l.take (k + 1)).map ft) = if k = 0 then ft y else jc ((l.take k).map ft) ++ [44, 32] ++ ft y := by
  have hk : k < l.length := (List.getElem?_eq_some_iff.1 hy).1
  rw [List.take_add_one, hy, Option.toList_some, List.map_append, List.map_cons, List.map_nil, jc_snoc]
  cases k with
  | zero => simp
  | succ k =>
    rw [if_neg (show ¬ (k + 1 = 0) by omega), if_neg]
    rw [List.isEmpty_iff, List.map_eq_nil_iff, List.take_eq_nil_iff]
    rintro (h | h)
    · omega
    · rw [h] at hk; simp at hk
theorem jc_app_le : ∀ (a b : List Str), (jc a).length ≤ (jc (a ++ b)).length
  | [], b => by simp [jc]
  | [x], [] => by simp
  | [x], y :: b => by show x.length ≤ (jc (x :: y :: b)).length; rw [jc]; simp
  | x :: y :: a, b => by
    have := jc_app_le (y :: a) b
    show (jc (x :: y :: a)).length ≤ (jc (x :: y :: (a ++ b))).length
    rw [jc, jc]
    simp only [List.length_append, List.cons_append] at this ⊢
    omega
theorem jc_take_le (l : List Exp) (k : Nat) : (jc ((l.take k).map ft)).length ≤ (jc (l.map ft)).length := by
  have := jc_app_le ((l.take k).map ft) ((l.drop k).map ft)
  rw [← List.map_append, List.take_append_drop] at this
  exact this
set_option maxHeartbeats 8000000 in
theorem list_step {l : List Exp} (hW : ∀ y ∈ l, WE y) (wl : ∀ y ∈ l, Wf y) {B b : Nat} {t : Str} {w : World} {A : Option Addr} {cap n : Nat} (hn : l.length = n) (hT : TxB B b t w) (hE : Exs w (fun k => k < B) l A cap) (hlen : t.length + (jc (l.map ft)).length ≤ 1000000000) (hB : Bas B w) :
    Calls Tryz.prog 167 #[.pointer (some ⟨b, 0, none⟩), .slice A n cap] w fun e w' => e = .returned (.tuple #[]) ∧ TxB B b (t ++ jc (l.map ft)) w' ∧ Wr B b w w' := by
  have hcap := hE.le
  rw [hn] at hcap
  have hml : maxLen = 9223372036854775807 := rfl
  have hn1 : (n : Int) ≤ 9223372036854775807 := by omega
  have hW0 := Wr.refl B b w
  replace hlen := Lib.hid hlen
  replace hB := Lib.hid hB
  replace hE := Lib.hid hE
  replace hW := Lib.hid hW
  replace wl := Lib.hid wl
  go_enter Tryz.func167, Tryz.ntmps167
  go_wp2
  go_loopw [8] (fun iv wr => ∃ k : Nat, iv = .int .i64 (k : Int) ∧ k ≤ n ∧ TxB B b (t ++ jc ((l.take k).map ft)) wr ∧ Wr B b w wr) (fun iv _ => n - (intOf iv).toNat)
  case atStart => exact ⟨0, rfl, Nat.zero_le _, by simpa [jc] using hT, hW0⟩
  case round =>
    clear hT hW0
    obtain ⟨k, rfl, hk, hT, hwr⟩ := hrel
    by_cases hlt : k < n
    · obtain ⟨y, hy⟩ : ∃ y, l[k]? = some y := ⟨_, List.getElem?_eq_getElem (by omega)⟩
      have hEr := hE.out.keep hwr.kept
      obtain ⟨b1, o1, A1, cap1, rfl, hb1, hl1, hK1, x0, x1, x2, x3⟩ := hEr.at hy
      obtain ⟨O, S, N, L, hO, hS, hN, hL, hC⟩ := exp_let y A1 cap1
      rw [hO] at x0
      rw [hN] at x1
      rw [hS] at x2
      rw [hL] at x3
      obtain ⟨W, g, W', hW1, hg, hW2, hz, hbx, hlx⟩ := ex_store wr (.string O) (.int .u32 N) (.string S) (.slice A1 L cap1)
      obtain ⟨z0, z1, z2, z3, f0, f1, f2, f3⟩ := ex_box hz
      have hT2 := hT.below hlx
      have hBr : Bas B wr := hB.out.below hwr.below
      have hle := hBr.le
      have hb := hT.base
      have hW' : Wr B b w W' := hwr.trans (Wr.of_below hlx hle)
      have hgb : g ≠ b := by omega
      have hy2 : y ∈ l := List.mem_of_getElem? hy
      have hjt := jc_take hy
      have hjl := jc_take_le l (k + 1)
      have hcE := fun (t : Str) (w : World) h1 h2 h3 h4 => hW.out y hy2 B b t w A1 L cap1 O S N hC h1 h2 (wl.out y hy2) h3 h4
      have dk : decide ((k : Int) < (n : Int)) = true := decide_eq_true (by omega)
      have k0 : (0 : Int) ≤ (k : Int) := by omega
      have k1 : (k : Int) < (n : Int) := by omega
      have hKx : Exs W' (fun k => k < B) y.kids A1 cap1 := hK1.keep (Kept.of_below hlx)
      have hBx : Bas B W' := hBr.below (hlx.mono hle)
      by_cases h0 : k = 0
      · subst h0
        rw [if_pos rfl] at hjt
        simp only [Nat.zero_mul, Nat.add_zero] at x0 x1 x2 x3
        have c1 := Lib.hid (hcE t W' (by simpa [jc] using hT2) hKx (by have := hlen.out; rw [hjt] at hjl; omega) hBx)
        obtain ⟨y0, y1, y2, y3, _, _, _, _⟩ := ex_box hbx
        rw [← hjt] at c1
        clear hcE hK1 hT hT2 hjt hjl hEr hz hbx hlx hwr hb hBr hKx hBx hO hS hN hL hC hy2
        go_wp2_with fail
        refine (c1.out).mono ?_
        rintro e w3 ⟨rfl, hT3, hW3⟩
        have hW3 := hW'.trans hW3
        go_wp2
        go_roundw
        case rel => exact ⟨1, by go_num, by omega, hT3, hW3⟩
        case measure => simp [intOf]; omega
      · rw [if_neg h0] at hjt
        have hl2 := hlen.out
        rw [hjt] at hjl
        simp only [List.length_append, List.length_cons, List.length_nil] at hjl
        have d0 : decide ((0 : Int) < (k : Int)) = true := decide_eq_true (by omega)
        have c1 := Lib.hid (tx_write headB0 hT2 ⟨#[44, 32]⟩ (by rw [List.length_append]; show _ + 2 ≤ _; omega) hBx.le)
        obtain ⟨p, hp⟩ : ∃ p, t ++ jc ((l.take k).map ft) = p := ⟨_, rfl⟩
        have hpl : p.length = t.length + (jc ((l.take k).map ft)).length := by rw [← hp, List.length_append]
        have hfin : p ++ [44, 32] ++ ft y = t ++ jc ((l.take (k + 1)).map ft) := by rw [hjt, ← hp]; simp
        rw [hp] at c1
        replace hcE := Lib.hid hcE
        replace hBx := Lib.hid hBx
        replace hKx := Lib.hid hKx
        replace hfin := Lib.hid hfin
        clear hK1 hT hT2 hjt hEr hz hlx hwr hb hBr hO hS hN hL hC hy2 hp
        go_wp2_with fail
        refine (c1.out).mono ?_
        rintro e w2 ⟨rfl, hT2, hW2'⟩
        obtain ⟨y0, y1, y2, y3, _, _, _, _⟩ := ex_box (hW2'.blk hbx hgb (by decide))
        have c2 := Lib.hid (hcE.out _ w2 hT2 (hKx.out.keep hW2'.kept) (by rw [List.length_append]; show _ + 2 + _ ≤ _; omega) (hBx.out.below hW2'.below))
        rw [show p ++ (⟨#[44, 32]⟩ : ByteArray).data.toList ++ ft y = _ from hfin.out] at c2
        have hW3 := hW'.trans hW2'
        clear hcE hBx hKx hT2 hW2' hbx hfin c1
        go_wp2_with fail
        refine (c2.out).mono ?_
        rintro e w3 ⟨rfl, hT3, hW4⟩
        have hW4 := hW3.trans hW4
        go_wp2
        go_roundw
        case rel => exact ⟨k + 1, by go_num, by omega, hT3, hW4⟩
        case measure => simp [intOf]; omega
    · obtain rfl : k = n := by omega
      have dk : decide ((k : Int) < (k : Int)) = false := decide_eq_false (by omega)
      rw [List.take_of_length_le (by omega)] at hT
      clear hE hW wl hB hlen
      go_wp2
      first | go_ret | go_ret2 | go_end0 | skip
      exact ⟨rfl, hT, hwr⟩
end Go.Proofs.YtpbcncfbfbghcaaGreatDoor.L20
namespace Go.Proofs.YtpbcncfbfbghcaaGreatDoor.L20
set_option maxRecDepth 100000
open Go.RowKit Mem L19
open M17 (Laid Laid.below)
set_option linter.unusedVariables false
set_option linter.unusedSimpArgs false

/-- One operand as it is written. -/
def piece (x : Exp) (k : Nat) (y : Exp) : Str := (if k = 0 then [] else [32] ++ x.opS ++ [32]) ++ (if encB y.opS x.opS (decide (0 < k)) = true then [40] ++ ft y ++ [41] else ft y)
def opsT (x : Exp) : Nat → Str
  | 0 => []
  | k + 1 => opsT x k ++ (match x.kids[k]? with | none => [] | some y => piece x k y)
theorem opsT_mono (x : Exp) (k : Nat) : ∀ d, (opsT x k).length ≤ (opsT x (k + d)).length
  | 0 => Nat.le_refl _
  | d + 1 => by
    have := opsT_mono x k d
    rw [← Nat.add_assoc, opsT, List.length_append]
    omega
theorem opsT_un {op : Str} {y : Exp} (h : Wf (.un op y)) : op ++ opsT (.un op y) 1 = ft (.un op y) := by
  rw [Wf] at h
  have hU : (Exp.un op y).opS = eNeg ∨ (Exp.un op y).opS = eNot := by
    show (if op = [45] then eNeg else eNot) = eNeg ∨ (if op = [45] then eNeg else eNot) = eNot
    split
    · exact .inl rfl
    · exact .inr rfl
  rw [ft_un]
  show op ++ ([] ++ piece _ 0 y) = _
  unfold piece opd
  rw [if_pos rfl, List.nil_append, List.nil_append, show (decide (0 < 0)) = false from rfl, enc_un h.2 hU]
  by_cases hs : str y < 7
  · rw [if_pos (decide_eq_true hs), if_pos hs]; rfl
  · rw [if_neg (by simp; omega), if_neg hs]
theorem opsT_bin {op : Str} {a b : Exp} (h : Wf (.bin op a b)) : opsT (.bin op a b) 2 = ft (.bin op a b) := by
  rw [Wf] at h
  rw [ft_bin]
  show ([] ++ piece (.bin op a b) 0 a) ++ piece (.bin op a b) 1 b = _
  unfold piece opd
  rw [if_pos rfl, List.nil_append, List.nil_append, if_neg (show ¬ (1 = 0) by decide), show (decide (0 < 0)) = false from rfl, show (decide (0 < 1)) = true from rfl]
  show (if encB a.opS op false = true then _ else _) ++ ([32] ++ op ++ [32] ++ if encB b.opS op true = true then _ else _) = _
  rw [enc_left h.2.1 h.1, enc_right h.2.2 h.1]
  by_cases h1 : str a < lft op
  · rw [if_pos (decide_eq_true h1), if_pos h1]
    by_cases h2 : str b < lev op + 1
    · rw [if_pos (decide_eq_true h2), if_pos h2]; simp
    · rw [if_neg (by simp; omega), if_neg h2]; simp
  · rw [if_neg (by simp; omega), if_neg h1]
    by_cases h2 : str b < lev op + 1
    · rw [if_pos (decide_eq_true h2), if_pos h2]; simp
    · rw [if_neg (by simp; omega), if_neg h2]; simp
theorem strV_list {l : Str} {O : ByteArray} (h : strV l = .string O) : O.data.toList = l := by
  injection h with h
  rw [← h]
theorem three_bytes (a b : ByteArray) (c : ByteArray) : (a ++ b ++ c).data.toList = a.data.toList ++ b.data.toList ++ c.data.toList := by
  rw [ByteArray.data_append, ByteArray.data_append]
  simp
theorem str_len {l : Str} {O : ByteArray} (h : O.data.toList = l) : O.size = l.length := by rw [← h]; simp
set_option maxHeartbeats 16000000 in
theorem operands_step {x : Exp} (hW : ∀ y ∈ x.kids, WE y) (wl : ∀ y ∈ x.kids, Wf y) {B b : Nat} {t : Str} {w : World} {A : Option Addr} {cap n : Nat} {O S : ByteArray} {N : Int} (hC : eCells x A cap = [.string O, .int .u32 N, .string S, .slice A n cap]) (hO1 : O.size ≤ 1000000000) (hT : TxB B b t w) (hE : Exs w (fun k => k < B) x.kids A cap) (hlen : t.length + (opsT x x.kids.length).length ≤ 1000000000) (hB : Bas B w) :
    Calls Tryz.prog 204 #[.pointer (some ⟨b, 0, none⟩), .agg #[.string O, .int .u32 N, .string S, .slice A n cap]] w fun e w' => e = .returned (.tuple #[]) ∧ TxB B b (t ++ opsT x x.kids.length) w' ∧ Wr B b w w' := by
  have hn : x.kids.length = n := by
    unfold eCells at hC
    injection hC with _ hC
    injection hC with _ hC
    injection hC with _ hC
    injection hC with hC _
    injection hC
  have hO : strV x.opS = .string O := by
    unfold eCells at hC
    injection hC
  have hOl := strV_list hO
  have hcap := hE.le
  rw [hn] at hcap hlen ⊢
  have hml : maxLen = 9223372036854775807 := rfl
  have hn1 : (n : Int) ≤ 9223372036854775807 := by omega
  obtain ⟨W0, g0, hW0, hg0, hb0, hl0⟩ := box_mk w [.string O, .int .u32 N, .string S, .slice A n cap] 51
  have hle0 := hB.le
  have hbb := hT.base
  have hg0b : g0 ≠ b := by omega
  have hB0 : Bas B W0 := hB.below (hl0.mono hle0)
  have hT0 := hT.below hl0
  have hE0 := hE.keep (Kept.of_below hl0)
  have hw0 : Wr B b w W0 := Wr.of_below hl0 hle0
  have hsep : (((⟨#[32]⟩ : ByteArray) ++ O ++ ⟨#[32]⟩).data.toList) = [32] ++ x.opS ++ [32] := by rw [three_bytes, hOl]
  obtain ⟨P, hP⟩ : ∃ P, (⟨#[32]⟩ : ByteArray) ++ O ++ ⟨#[32]⟩ = P := ⟨_, rfl⟩
  rw [hP] at hsep
  have hPs : P.size = ([32] ++ x.opS ++ [32]).length := str_len hsep
  obtain ⟨z0, z1, z2, z3, _, _, _, _⟩ := ex_box hb0
  have hWx := Wr.refl B b W0
  replace hlen := Lib.hid hlen
  replace hB0 := Lib.hid hB0
  replace hE0 := Lib.hid hE0
  replace hW := Lib.hid hW
  replace wl := Lib.hid wl
  replace hb0 := Lib.hid hb0
  replace hw0 := Lib.hid hw0
  replace hO := Lib.hid hO
  replace hPs := Lib.hid hPs
  replace hsep := Lib.hid hsep
  clear hB hT hE hl0 hC hOl
  go_enter Tryz.func204, Tryz.ntmps204
  go_wp2
  clear z0 z1 z2 z3
  go_loopw [9] (fun iv wr => ∃ k : Nat, iv = .int .i64 (k : Int) ∧ k ≤ n ∧ TxB B b (t ++ opsT x k) wr ∧ Wr B b W0 wr) (fun iv _ => n - (intOf iv).toNat)
  case atStart => exact ⟨0, rfl, Nat.zero_le _, by simpa [opsT] using hT0, hWx⟩
  case round =>
    clear hT0 hWx
    obtain ⟨k, rfl, hk, hT, hwr⟩ := hrel
    by_cases hlt : k < n
    · obtain ⟨y, hy⟩ : ∃ y, x.kids[k]? = some y := ⟨_, List.getElem?_eq_getElem (by omega)⟩
      have hEr := hE0.out.keep hwr.kept
      obtain ⟨b1, o1, A1, cap1, rfl, hb1, hl1, hK1, x0, x1, x2, x3⟩ := hEr.at hy
      obtain ⟨Oy, Sy, Ny, Ly, hOy, hSy, hNy, hLy, hCy⟩ := exp_let y A1 cap1
      rw [hOy] at x0
      rw [hNy] at x1
      rw [hSy] at x2
      rw [hLy] at x3
      obtain ⟨W, g, W', hW1, hg, hW2, hz, hbx, hlx⟩ := ex_store wr (.string Oy) (.int .u32 Ny) (.string Sy) (.slice A1 Ly cap1)
      obtain ⟨z0, z1, z2, z3, f0, f1, f2, f3⟩ := ex_box hz
      have hT2 := hT.below hlx
      have hBr : Bas B wr := hB0.out.below hwr.below
      have hle := hBr.le
      have hb := hT.base
      have hW' : Wr B b W0 W' := hwr.trans (Wr.of_below hlx hle)
      have hgb : g ≠ b := by omega
      have hy2 : y ∈ x.kids := List.mem_of_getElem? hy
      have hcE := fun (t : Str) (w : World) h1 h2 h3 h4 => hW.out y hy2 B b t w A1 Ly cap1 Oy Sy Ny hCy h1 h2 (wl.out y hy2) h3 h4
      have dk : decide ((k : Int) < (n : Int)) = true := decide_eq_true (by omega)
      have k0 : (0 : Int) ≤ (k : Int) := by omega
      have k1 : (k : Int) < (n : Int) := by omega
      have hKx : Exs W' (fun k => k < B) y.kids A1 cap1 := hK1.keep (Kept.of_below hlx)
      have hBx : Bas B W' := hBr.below (hlx.mono hle)
      have hnext : opsT x (k + 1) = opsT x k ++ piece x k y := by rw [opsT, hy]
      have hmo := opsT_mono x (k + 1) (n - (k + 1))
      rw [show k + 1 + (n - (k + 1)) = n by omega, hnext, List.length_append] at hmo
      have hl2 := hlen.out
      have hcI := fun (W : World) => enc_any hOy hO.out (decide (0 < k)) W
      obtain ⟨q, hq⟩ : ∃ q, encB y.opS x.opS (decide (0 < k)) = q := ⟨_, rfl⟩
      rw [hq] at hcI
      -- what the operand itself adds
      by_cases h0 : k = 0
      · subst h0
        simp only [Nat.zero_mul, Nat.add_zero] at x0 x1 x2 x3
        rw [show (decide (0 < 0)) = false from rfl] at hcI hq
        obtain ⟨p, hp⟩ : ∃ p, t ++ opsT x 0 = p := ⟨_, rfl⟩
        have hpl : p.length + (if q = true then [40] ++ ft y ++ [41] else ft y).length ≤ 1000000000 := by rw [← hp]; unfold piece at hmo; rw [if_pos rfl, show (decide (0 < 0)) = false from rfl, hq, List.nil_append] at hmo; rw [List.length_append]; omega
        have hfin : p ++ (if q = true then [40] ++ ft y ++ [41] else ft y) = t ++ opsT x 1 := by rw [show opsT x 1 = _ from hnext, ← hp]; unfold piece; rw [if_pos rfl, show (decide (0 < 0)) = false from rfl, hq]; simp
        have hTp := hT2
        rw [hp] at hTp
        have hWp := Wr.refl B b W'
        obtain ⟨w2, hw2⟩ : ∃ w2, W' = w2 := ⟨_, rfl⟩
        clear hw2 w2
        clear hT hT2 hnext hmo hz hlx hwr hb hBr hOy hSy hNy hLy hCy hy2 hEr hp hq hl2
        replace hpl := Lib.hid hpl
        replace hfin := Lib.hid hfin
        cases q with
        | false =>
          replace hpl := hpl.out
          replace hfin := hfin.out
          simp only [Bool.false_eq_true, if_false] at hfin
          replace hfin := Lib.hid hfin
          have cI := Lib.hid (hcI W')
          obtain ⟨u0, u1, u2, u3, _, _, _, _⟩ := ex_box ((hW'.trans hWp).blk hb0.out hg0b (by decide))
          obtain ⟨y0, y1, y2, y3, _, _, _, _⟩ := ex_box (hWp.blk hbx hgb (by decide))
          replace hb0 := Lib.hid hb0
          have hbx := Lib.hid hbx
          have hBx := Lib.hid hBx
          have hKx := Lib.hid hKx
          have hTp := Lib.hid hTp
          have hWp := Lib.hid hWp
          have hW' := Lib.hid hW'
          have hcE := Lib.hid hcE
          clear hcI
          go_wp2_with fail
          refine (cI.out).mono ?_
          rintro e w9 ⟨rfl, rfl⟩
          have hbx := hbx.out
          have hBx := hBx.out
          have hKx := hKx.out
          have hTp := hTp.out
          have hWp := hWp.out
          have hW' := hW'.out
          have hcE := hcE.out
          clear u0 u1 u2 u3 y0 y1 y2 y3 cI
          obtain ⟨y0, y1, y2, y3, _, _, _, _⟩ := ex_box (hWp.blk hbx hgb (by decide))
          have c4 := Lib.hid (hcE _ W' hTp (hKx.keep hWp.kept) (by simp only [Bool.false_eq_true, if_false] at hpl; omega) (hBx.below hWp.below))
          have hW' := Lib.hid (hW'.trans hWp)
          clear hTp hWp hcE hKx hBx hbx hK1
          go_wp2_with fail
          refine (c4.out).mono ?_
          rintro e w5 ⟨rfl, hT5, hW5⟩
          have hW5 := hW'.out.trans hW5
          rw [show p ++ ft y = _ from hfin.out] at hT5
          clear c4 hW' y0 y1 y2 y3
          go_wp2
          go_roundw
          case rel => exact ⟨1, by go_num, by omega, hT5, hW5⟩
          case measure => simp [intOf]; omega
        | true =>
          replace hpl := hpl.out
          replace hfin := hfin.out
          simp only [if_true] at hfin
          rw [← List.append_assoc, ← List.append_assoc] at hfin
          replace hfin := Lib.hid hfin
          have cI := Lib.hid (hcI W')
          obtain ⟨u0, u1, u2, u3, _, _, _, _⟩ := ex_box ((hW'.trans hWp).blk hb0.out hg0b (by decide))
          obtain ⟨y0, y1, y2, y3, _, _, _, _⟩ := ex_box (hWp.blk hbx hgb (by decide))
          replace hb0 := Lib.hid hb0
          have hbx := Lib.hid hbx
          have hBx := Lib.hid hBx
          have hKx := Lib.hid hKx
          have hTp := Lib.hid hTp
          have hWp := Lib.hid hWp
          have hW' := Lib.hid hW'
          have hcE := Lib.hid hcE
          clear hcI
          go_wp2_with fail
          refine (cI.out).mono ?_
          rintro e w9 ⟨rfl, rfl⟩
          have hbx := hbx.out
          have hBx := hBx.out
          have hKx := hKx.out
          have hTp := hTp.out
          have hWp := hWp.out
          have hW' := hW'.out
          have hcE := hcE.out
          clear u0 u1 u2 u3 y0 y1 y2 y3 cI
          have c3 := Lib.hid (tx_write headB0 hTp ⟨#[40]⟩ (by show _ + 1 ≤ _; simp only [if_true, List.length_append, List.length_cons, List.length_nil] at hpl; omega) (hBx.below hWp.below).le)
          obtain ⟨pl, hplE⟩ : ∃ n, p.length = n := ⟨_, rfl⟩
          have hbp := Lib.hid (hWp.blk hbx hgb (by decide))
          have hcE := Lib.hid hcE
          have hBx := Lib.hid hBx
          have hKx := Lib.hid hKx
          have hW' := Lib.hid hW'
          have hWp := Lib.hid hWp
          clear hTp hK1 hbx
          go_wp2_with fail
          refine (c3.out).mono ?_
          rintro e w3 ⟨rfl, hT3, hW3⟩
          have hWq := hWp.out.trans hW3
          obtain ⟨y0, y1, y2, y3, _, _, _, _⟩ := ex_box (hW3.blk hbp.out hgb (by decide))
          have c4 := Lib.hid (hcE.out _ w3 hT3 (hKx.out.keep hWq.kept) (by rw [List.length_append]; show _ + 1 + _ ≤ _; simp only [if_true, List.length_append, List.length_cons, List.length_nil] at hpl; omega) (hBx.out.below hWq.below))
          clear hT3 hW3 c3 hbp hcE hKx
          go_wp2_with fail
          refine (c4.out).mono ?_
          rintro e w4 ⟨rfl, hT4, hW4⟩
          have hWr := hWq.trans hW4
          have c5 := Lib.hid (tx_write headB0 hT4 ⟨#[41]⟩ (by rw [List.length_append, List.length_append]; show _ + 1 + _ + 1 ≤ _; simp only [if_true, List.length_append, List.length_cons, List.length_nil] at hpl; omega) (hBx.out.below hWr.below).le)
          clear hT4 hW4 hWq c4 y0 y1 y2 y3
          go_wp2_with fail
          refine (c5.out).mono ?_
          rintro e w5 ⟨rfl, hT5, hW5⟩
          have hW5 := hW'.out.trans (hWr.trans hW5)
          rw [show p ++ (⟨#[40]⟩ : ByteArray).data.toList ++ ft y ++ (⟨#[41]⟩ : ByteArray).data.toList = _ from hfin.out] at hT5
          clear c5 hWr hBx hWp hW'
          go_wp2
          go_roundw
          case rel => exact ⟨1, by go_num, by omega, hT5, hW5⟩
          case measure => simp [intOf]; omega
      · have d0 : decide ((0 : Int) < (k : Int)) = true := decide_eq_true (by omega)
        rw [show (decide (0 < k)) = true from decide_eq_true (by omega)] at hcI hq
        have hpie : piece x k y = ([32] ++ x.opS ++ [32]) ++ (if q = true then [40] ++ ft y ++ [41] else ft y) := by unfold piece; rw [if_neg h0, show (decide (0 < k)) = true from decide_eq_true (by omega), hq]
        rw [hpie] at hnext hmo
        rw [List.length_append, ← hPs.out] at hmo
        have c1 := Lib.hid (tx_write headB0 hT2 P (by rw [List.length_append]; omega) hBx.le)
        rw [hsep.out] at c1
        obtain ⟨p, hp⟩ : ∃ p, t ++ opsT x k ++ ([32] ++ x.opS ++ [32]) = p := ⟨_, rfl⟩
        rw [hp] at c1
        have hpl : p.length + (if q = true then [40] ++ ft y ++ [41] else ft y).length ≤ 1000000000 := by rw [← hp, List.length_append, List.length_append, ← hPs.out]; omega
        have hfin : p ++ (if q = true then [40] ++ ft y ++ [41] else ft y) = t ++ opsT x (k + 1) := by rw [hnext, ← hp]; simp
        have hbq := Lib.hid (hW'.blk hb0.out hg0b (by decide))
        obtain ⟨u0, u1, u2, u3, _, _, _, _⟩ := ex_box hbq.out
        have hbx := Lib.hid hbx
        have hBx := Lib.hid hBx
        have hKx := Lib.hid hKx
        have hW' := Lib.hid hW'
        have hcE := Lib.hid hcE
        have hcI := Lib.hid hcI
        clear hT hT2 hnext hmo hz hlx hwr hb hBr hOy hSy hNy hLy hCy hy2 hEr hp hq hl2 hpie
        go_wp2_with fail
        refine (c1.out).mono ?_
        rintro e w2 ⟨rfl, hTp, hWp⟩
        have hbx := hbx.out
        have hBx := hBx.out
        have hKx := hKx.out
        have hW' := hW'.out
        have hcE := hcE.out
        have hcI := hcI.out
        clear c1 u0 u1 u2 u3 hbq
        replace hpl := Lib.hid hpl
        replace hfin := Lib.hid hfin
        cases q with
        | false =>
          replace hpl := hpl.out
          replace hfin := hfin.out
          simp only [Bool.false_eq_true, if_false] at hfin
          replace hfin := Lib.hid hfin
          have cI := Lib.hid (hcI w2)
          obtain ⟨u0, u1, u2, u3, _, _, _, _⟩ := ex_box ((hW'.trans hWp).blk hb0.out hg0b (by decide))
          obtain ⟨y0, y1, y2, y3, _, _, _, _⟩ := ex_box (hWp.blk hbx hgb (by decide))
          replace hb0 := Lib.hid hb0
          have hbx := Lib.hid hbx
          have hBx := Lib.hid hBx
          have hKx := Lib.hid hKx
          have hTp := Lib.hid hTp
          have hWp := Lib.hid hWp
          have hW' := Lib.hid hW'
          have hcE := Lib.hid hcE
          clear hcI
          go_wp2_with fail
          refine (cI.out).mono ?_
          rintro e w9 ⟨rfl, rfl⟩
          have hbx := hbx.out
          have hBx := hBx.out
          have hKx := hKx.out
          have hTp := hTp.out
          have hWp := hWp.out
          have hW' := hW'.out
          have hcE := hcE.out
          clear u0 u1 u2 u3 y0 y1 y2 y3 cI
          obtain ⟨y0, y1, y2, y3, _, _, _, _⟩ := ex_box (hWp.blk hbx hgb (by decide))
          have c4 := Lib.hid (hcE _ w2 hTp (hKx.keep hWp.kept) (by simp only [Bool.false_eq_true, if_false] at hpl; omega) (hBx.below hWp.below))
          have hW' := Lib.hid (hW'.trans hWp)
          clear hTp hWp hcE hKx hBx hbx hK1
          go_wp2_with fail
          refine (c4.out).mono ?_
          rintro e w5 ⟨rfl, hT5, hW5⟩
          have hW5 := hW'.out.trans hW5
          rw [show p ++ ft y = _ from hfin.out] at hT5
          clear c4 hW' y0 y1 y2 y3
          go_wp2
          go_roundw
          case rel => exact ⟨k + 1, by go_num, by omega, hT5, hW5⟩
          case measure => simp [intOf]; omega
        | true =>
          replace hpl := hpl.out
          replace hfin := hfin.out
          simp only [if_true] at hfin
          rw [← List.append_assoc, ← List.append_assoc] at hfin
          replace hfin := Lib.hid hfin
          have cI := Lib.hid (hcI w2)
          obtain ⟨u0, u1, u2, u3, _, _, _, _⟩ := ex_box ((hW'.trans hWp).blk hb0.out hg0b (by decide))
          obtain ⟨y0, y1, y2, y3, _, _, _, _⟩ := ex_box (hWp.blk hbx hgb (by decide))
          replace hb0 := Lib.hid hb0
          have hbx := Lib.hid hbx
          have hBx := Lib.hid hBx
          have hKx := Lib.hid hKx
          have hTp := Lib.hid hTp
          have hWp := Lib.hid hWp
          have hW' := Lib.hid hW'
          have hcE := Lib.hid hcE
          clear hcI
          go_wp2_with fail
          refine (cI.out).mono ?_
          rintro e w9 ⟨rfl, rfl⟩
          have hbx := hbx.out
          have hBx := hBx.out
          have hKx := hKx.out
          have hTp := hTp.out
          have hWp := hWp.out
          have hW' := hW'.out
          have hcE := hcE.out
          clear u0 u1 u2 u3 y0 y1 y2 y3 cI
          have c3 := Lib.hid (tx_write headB0 hTp ⟨#[40]⟩ (by show _ + 1 ≤ _; simp only [if_true, List.length_append, List.length_cons, List.length_nil] at hpl; omega) (hBx.below hWp.below).le)
          obtain ⟨pl, hplE⟩ : ∃ n, p.length = n := ⟨_, rfl⟩
          have hbp := Lib.hid (hWp.blk hbx hgb (by decide))
          have hcE := Lib.hid hcE
          have hBx := Lib.hid hBx
          have hKx := Lib.hid hKx
          have hW' := Lib.hid hW'
          have hWp := Lib.hid hWp
          clear hTp hK1 hbx
          go_wp2_with fail
          refine (c3.out).mono ?_
          rintro e w3 ⟨rfl, hT3, hW3⟩
          have hWq := hWp.out.trans hW3
          obtain ⟨y0, y1, y2, y3, _, _, _, _⟩ := ex_box (hW3.blk hbp.out hgb (by decide))
          have c4 := Lib.hid (hcE.out _ w3 hT3 (hKx.out.keep hWq.kept) (by rw [List.length_append]; show _ + 1 + _ ≤ _; simp only [if_true, List.length_append, List.length_cons, List.length_nil] at hpl; omega) (hBx.out.below hWq.below))
          clear hT3 hW3 c3 hbp hcE hKx
          go_wp2_with fail
          refine (c4.out).mono ?_
          rintro e w4 ⟨rfl, hT4, hW4⟩
          have hWr := hWq.trans hW4
          have c5 := Lib.hid (tx_write headB0 hT4 ⟨#[41]⟩ (by rw [List.length_append, List.length_append]; show _ + 1 + _ + 1 ≤ _; simp only [if_true, List.length_append, List.length_cons, List.length_nil] at hpl; omega) (hBx.out.below hWr.below).le)
          clear hT4 hW4 hWq c4 y0 y1 y2 y3
          go_wp2_with fail
          refine (c5.out).mono ?_
          rintro e w5 ⟨rfl, hT5, hW5⟩
          have hW5 := hW'.out.trans (hWr.trans hW5)
          rw [show p ++ (⟨#[40]⟩ : ByteArray).data.toList ++ ft y ++ (⟨#[41]⟩ : ByteArray).data.toList = _ from hfin.out] at hT5
          clear c5 hWr hBx hWp hW'
          go_wp2
          go_roundw
          case rel => exact ⟨k + 1, by go_num, by omega, hT5, hW5⟩
          case measure => simp [intOf]; omega
    · obtain rfl : k = n := by omega
      have dk : decide ((k : Int) < (k : Int)) = false := decide_eq_false (by omega)
      have hfin := Lib.hid (hw0.out.trans hwr)
      clear hE0 hW wl hB0 hlen hwr hb0 hw0 hO hPs hsep
      go_wp2
      first | go_ret | go_ret2 | go_end0 | skip
      exact ⟨rfl, hT, hfin.out⟩
end Go.Proofs.YtpbcncfbfbghcaaGreatDoor.L20
namespace Go.Proofs.YtpbcncfbfbghcaaGreatDoor.L20
set_option maxRecDepth 100000
open Go.RowKit Mem L19
open M17 (Laid Laid.below)
set_option linter.unusedVariables false
set_option linter.unusedSimpArgs false

theorem dec_bytes (n : Nat) : (⟨(Lib.decDigits n).toArray⟩ : ByteArray).data.toList = dec n := by rfl
theorem two_bytes (a b : ByteArray) : (a ++ b).data.toList = a.data.toList ++ b.data.toList := by
  rw [ByteArray.data_append]; simp
section
variable {B b : Nat} {t : Str} {w : World} {A : Option Addr} {L cap : Nat} {O S : ByteArray} {N : Int}
/-- How a call of writeExpr begins. -/
theorem we_start (hT : TxB B b t w) (hB : Bas B w) : ∃ W0 g0, w.alloc (.cells #[.string O, .int .u32 N, .string S, .slice A L cap] 51) = W0 ∧ w.heap.size = g0 ∧ Blk 51 W0 g0 [.string O, .int .u32 N, .string S, .slice A L cap] ∧ g0 ≠ b ∧ Bas B W0 ∧ TxB B b t W0 ∧ Wr B b w W0 := by
  obtain ⟨W0, g0, hW0, hg0, hb0, hl0⟩ := box_mk w [.string O, .int .u32 N, .string S, .slice A L cap] 51
  have hle0 := hB.le
  have hbb := hT.base
  exact ⟨W0, g0, hW0, hg0, hb0, by omega, hB.below (hl0.mono hle0), hT.below hl0, Wr.of_below hl0 hle0⟩
set_option maxHeartbeats 4000000 in
theorem we_num (n : Nat) : WE (.num n) := by
  intro B b t w A L cap O S N hC hT hE hw hlen hB
  rw [Wf] at hw
  rw [ft_num] at hlen ⊢
  obtain ⟨W0, g0, hW0, hg0, hb0, hgb, hB0, hT0, hw0⟩ := we_start (O := O) (N := N) (S := S) (A := A) (L := L) (cap := cap) hT hB
  obtain ⟨z0, z1, z2, z3, _, _, _, _⟩ := ex_box hb0
  obtain rfl : (⟨#[110, 117, 109]⟩ : ByteArray) = O := by unfold eCells at hC; injection hC with h _; injection h
  obtain rfl : (n : Int) = N := by unfold eCells at hC; injection hC with _ h; injection h with h _; injection h
  have c1 := Lib.hid (fmt_pub n (by omega) W0 hB0.laid)
  have t1 : IntKind.u64.wrap (n : Int) = (n : Int) := by rw [IntKind.wrap_u64]; omega
  have n0 : (0 : Int) ≤ (n : Int) := by omega
  have n1 : (n : Int) < 4294967296 := by omega
  obtain ⟨D, hD⟩ : ∃ D : ByteArray, ⟨(Lib.decDigits n).toArray⟩ = D := ⟨_, rfl⟩
  have hDl := dec_bytes n
  rw [hD] at c1 hDl
  replace hT0 := Lib.hid hT0
  replace hB0 := Lib.hid hB0
  clear hC hT hE hB hb0 hw hD
  go_enter Tryz.func194, Tryz.ntmps194
  go_wp2_with fail
  refine (c1.out).mono ?_
  rintro e w1 ⟨rfl, hb1⟩
  have c2 := Lib.hid (tx_write headB0 (hT0.out.below hb1) D (by rw [str_len hDl]; omega) (hB0.out.below (hb1.mono hB0.out.le)).le)
  rw [hDl] at c2
  have hw1 := hw0.trans (Wr.of_below hb1 hB0.out.le)
  clear c1 z0 z1 z2 z3
  go_wp2_with fail
  refine (c2.out).mono ?_
  rintro e w2 ⟨rfl, hT2, hW2⟩
  go_wp2
  first | go_ret | go_ret2 | go_end0 | skip
  exact ⟨rfl, hT2, hw1.trans hW2⟩
set_option maxHeartbeats 4000000 in
theorem we_var (s : Str) : WE (.var s) := by
  intro B b t w A L cap O S N hC hT hE hw hlen hB
  rw [Wf] at hw
  rw [ft_var] at hlen ⊢
  obtain ⟨W0, g0, hW0, hg0, hb0, hgb, hB0, hT0, hw0⟩ := we_start (O := O) (N := N) (S := S) (A := A) (L := L) (cap := cap) hT hB
  obtain ⟨z0, z1, z2, z3, _, _, _, _⟩ := ex_box hb0
  obtain rfl : (⟨#[118, 97, 114]⟩ : ByteArray) = O := by unfold eCells at hC; injection hC with h _; injection h
  have hS : S.data.toList = s := strV_list (by unfold eCells at hC; injection hC with _ h; injection h with _ h; injection h)
  have c2 := Lib.hid (tx_write headB0 hT0 S (by rw [str_len hS]; omega) hB0.le)
  rw [hS] at c2
  clear hC hT hE hB hb0 hw hT0
  go_enter Tryz.func194, Tryz.ntmps194
  go_wp2_with fail
  refine (c2.out).mono ?_
  rintro e w2 ⟨rfl, hT2, hW2⟩
  go_wp2
  first | go_ret | go_ret2 | go_end0 | skip
  exact ⟨rfl, hT2, hw0.trans hW2⟩
set_option maxHeartbeats 8000000 in
theorem we_elem (s : Str) (i : Exp) (hi : WE i) : WE (.elem s i) := by
  intro B b t w A L cap O S N hC hT hE hw hlen hB
  have hw' := hw
  rw [Wf] at hw
  rw [ft_elem] at hlen ⊢
  obtain ⟨W0, g0, hW0, hg0, hb0, hgb, hB0, hT0, hw0⟩ := we_start (O := O) (N := N) (S := S) (A := A) (L := L) (cap := cap) hT hB
  obtain ⟨z0, z1, z2, z3, _, _, _, _⟩ := ex_box hb0
  obtain rfl : (⟨#[101, 108, 101, 109]⟩ : ByteArray) = O := by unfold eCells at hC; injection hC with h _; injection h
  have hS : S.data.toList = s := strV_list (by unfold eCells at hC; injection hC with _ h; injection h with _ h; injection h)
  obtain rfl : (1 : Nat) = L := by unfold eCells at hC; injection hC with _ h; injection h with _ h; injection h with _ h; injection h with h _; injection h
  have h1 : (S ++ ⟨#[91]⟩).data.toList = s ++ [91] := by rw [two_bytes, hS]
  obtain ⟨P, hP⟩ : ∃ P, S ++ (⟨#[91]⟩ : ByteArray) = P := ⟨_, rfl⟩
  rw [hP] at h1
  have nl := name_len hw.1
  have hS1 : S.size ≤ 24 := by rw [str_len hS]; exact nl
  have hl : (s ++ [91]).length ≤ 25 := by simp; omega
  have hl2 : t.length + ((s ++ [91]).length + (ft i).length + 1) ≤ 1000000000 := by simp only [List.length_append, List.length_cons, List.length_nil] at hlen ⊢; omega
  have c1 := Lib.hid (tx_write headB0 hT0 P (by rw [str_len h1]; omega) hB0.le)
  rw [h1] at c1
  have hls := fun (t : Str) (w : World) h1 h2 h3 h4 => list_step (l := [i]) (fun y hy => by rw [List.mem_singleton.1 hy]; exact hi) (fun y hy => by rw [List.mem_singleton.1 hy]; exact hw.2) (n := 1) rfl (t := t) (w := w) (B := B) (b := b) (A := A) (cap := cap) h1 h2 h3 h4
  simp only [List.map_cons, List.map_nil, jc] at hls
  have hE0 := Lib.hid (show Exs W0 (fun k => k < B) [i] A cap from hE.keep hw0.kept)
  obtain ⟨p, hp⟩ : ∃ p, t ++ (s ++ [91]) = p := ⟨_, rfl⟩
  have hpl : p.length = t.length + (s ++ [91]).length := by rw [← hp, List.length_append]
  have hfin : p ++ ft i ++ [93] = t ++ (s ++ [91] ++ ft i ++ [93]) := by rw [← hp]; simp
  rw [hp] at c1
  replace hls := Lib.hid hls
  replace hB0 := Lib.hid hB0
  replace hb0 := Lib.hid hb0
  replace hfin := Lib.hid hfin
  clear hC hT hE hB hw hT0 hi hw' h1 hS hlen hp
  go_enter Tryz.func194, Tryz.ntmps194
  go_wp2_with fail
  refine (c1.out).mono ?_
  rintro e w1 ⟨rfl, hT1, hW1⟩
  obtain ⟨y0, y1, y2, y3, _, _, _, _⟩ := ex_box (hW1.blk hb0.out hgb (by decide))
  have c2 := Lib.hid (hls.out p w1 hT1 (hE0.out.keep hW1.kept) (by omega) (hB0.out.below hW1.below))
  clear z0 z1 z2 z3 c1 hls hT1
  go_wp2_with fail
  refine (c2.out).mono ?_
  rintro e w2 ⟨rfl, hT2, hW2⟩
  have hW2 := hW1.trans hW2
  have c3 := Lib.hid (tx_write headB0 hT2 ⟨#[93]⟩ (by rw [List.length_append]; show _ + 1 ≤ _; omega) (hB0.out.below hW2.below).le)
  rw [show p ++ ft i ++ (⟨#[93]⟩ : ByteArray).data.toList = _ from hfin.out] at c3
  clear hT2 c2
  go_wp2_with fail
  refine (c3.out).mono ?_
  rintro e w3 ⟨rfl, hT3, hW3⟩
  go_wp2
  first | go_ret | go_ret2 | go_end0 | skip
  exact ⟨rfl, hT3, hw0.trans (hW2.trans hW3)⟩
set_option maxHeartbeats 8000000 in
theorem we_call (s : Str) (l : List Exp) (hi : ∀ y ∈ l, WE y) : WE (.call s l) := by
  intro B b t w A L cap O S N hC hT hE hw hlen hB
  have hw' := wf_kids hw
  rw [Wf] at hw
  rw [ft_call] at hlen ⊢
  obtain ⟨W0, g0, hW0, hg0, hb0, hgb, hB0, hT0, hw0⟩ := we_start (O := O) (N := N) (S := S) (A := A) (L := L) (cap := cap) hT hB
  obtain ⟨z0, z1, z2, z3, _, _, _, _⟩ := ex_box hb0
  obtain rfl : (⟨#[99, 97, 108, 108]⟩ : ByteArray) = O := by unfold eCells at hC; injection hC with h _; injection h
  have hS : S.data.toList = s := strV_list (by unfold eCells at hC; injection hC with _ h; injection h with _ h; injection h)
  have hL : l.length = L := by unfold eCells at hC; injection hC with _ h; injection h with _ h; injection h with _ h; injection h with h _; injection h
  have h1 : (S ++ ⟨#[40]⟩).data.toList = s ++ [40] := by rw [two_bytes, hS]
  obtain ⟨P, hP⟩ : ∃ P, S ++ (⟨#[40]⟩ : ByteArray) = P := ⟨_, rfl⟩
  rw [hP] at h1
  have nl := name_len hw.1
  have hS1 : S.size ≤ 24 := by rw [str_len hS]; exact nl
  have hl : (s ++ [40]).length ≤ 25 := by simp; omega
  obtain ⟨J, hJ⟩ : ∃ J, jc (l.map ft) = J := ⟨_, rfl⟩
  rw [hJ] at hlen ⊢
  have hl2 : t.length + ((s ++ [40]).length + J.length + 1) ≤ 1000000000 := by simp only [List.length_append, List.length_cons, List.length_nil] at hlen ⊢; omega
  have c1 := Lib.hid (tx_write headB0 hT0 P (by rw [str_len h1]; omega) hB0.le)
  rw [h1] at c1
  have hls := fun (t : Str) (w : World) h1 h2 h3 h4 => list_step (l := l) hi hw' (n := L) hL (t := t) (w := w) (B := B) (b := b) (A := A) (cap := cap) h1 h2 h3 h4
  simp only [hJ] at hls
  have hE0 := Lib.hid (show Exs W0 (fun k => k < B) l A cap from hE.keep hw0.kept)
  obtain ⟨p, hp⟩ : ∃ p, t ++ (s ++ [40]) = p := ⟨_, rfl⟩
  have hpl : p.length = t.length + (s ++ [40]).length := by rw [← hp, List.length_append]
  have hfin : p ++ J ++ [41] = t ++ (s ++ [40] ++ J ++ [41]) := by rw [← hp]; simp
  rw [hp] at c1
  replace hls := Lib.hid hls
  replace hB0 := Lib.hid hB0
  replace hb0 := Lib.hid hb0
  replace hfin := Lib.hid hfin
  clear hC hT hE hB hw hT0 hi hw' h1 hS hlen hp hJ hL
  go_enter Tryz.func194, Tryz.ntmps194
  go_wp2_with fail
  refine (c1.out).mono ?_
  rintro e w1 ⟨rfl, hT1, hW1⟩
  obtain ⟨y0, y1, y2, y3, _, _, _, _⟩ := ex_box (hW1.blk hb0.out hgb (by decide))
  have c2 := Lib.hid (hls.out p w1 hT1 (hE0.out.keep hW1.kept) (by omega) (hB0.out.below hW1.below))
  clear z0 z1 z2 z3 c1 hls hT1
  go_wp2_with fail
  refine (c2.out).mono ?_
  rintro e w2 ⟨rfl, hT2, hW2⟩
  have hW2 := hW1.trans hW2
  have c3 := Lib.hid (tx_write headB0 hT2 ⟨#[41]⟩ (by rw [List.length_append]; show _ + 1 ≤ _; omega) (hB0.out.below hW2.below).le)
  rw [show p ++ J ++ (⟨#[41]⟩ : ByteArray).data.toList = _ from hfin.out] at c3
  clear hT2 c2
  go_wp2_with fail
  refine (c3.out).mono ?_
  rintro e w3 ⟨rfl, hT3, hW3⟩
  go_wp2
  first | go_ret | go_ret2 | go_end0 | skip
  exact ⟨rfl, hT3, hw0.trans (hW2.trans hW3)⟩
set_option maxHeartbeats 8000000 in
theorem we_un (op : Str) (y : Exp) (hi : WE y) : WE (.un op y) := by
  intro B b t w A L cap O S N hC hT hE hw hlen hB
  have hft := opsT_un hw
  have hwl := wf_kids hw
  rw [Wf] at hw
  obtain ⟨W0, g0, hW0, hg0, hb0, hgb, hB0, hT0, hw0⟩ := we_start (O := O) (N := N) (S := S) (A := A) (L := L) (cap := cap) hT hB
  obtain ⟨z0, z1, z2, z3, _, _, _, _⟩ := ex_box hb0
  have hO1 : O.size ≤ 1000000000 := by
    have : O.data.toList = (Exp.un op y).opS := strV_list (by unfold eCells at hC; injection hC)
    rw [str_len this]
    show (if op = [45] then eNeg else eNot).length ≤ _
    split <;> decide
  have hst := fun (t : Str) (w : World) h1 h2 h3 h4 => operands_step (x := .un op y) (fun z hz => by rw [List.mem_singleton.1 hz]; exact hi) hwl (t := t) (w := w) (B := B) (b := b) hC hO1 h1 h2 h3 h4
  have hE0 := Lib.hid (hE.keep hw0.kept)
  rw [← hft, List.length_append] at hlen
  rw [← hft]
  have hop1 : op.length = 1 := by rcases hw.1 with rfl | rfl <;> rfl
  rw [hop1] at hlen
  have hkl : (Exp.un op y).kids.length = 1 := rfl
  simp only [hkl] at hst
  obtain ⟨X, hX⟩ : ∃ X, opsT (.un op y) 1 = X := ⟨_, rfl⟩
  simp only [hX] at hst
  rw [hX] at hlen ⊢
  rcases hw.1 with rfl | rfl
  · obtain rfl : (⟨#[110, 101, 103]⟩ : ByteArray) = O := by unfold eCells at hC; injection hC with h _; injection h
    have c1 := Lib.hid (tx_write headB0 hT0 ⟨#[45]⟩ (by show _ + 1 ≤ _; omega) hB0.le)
    rw [show (⟨#[45]⟩ : ByteArray).data.toList = [45] from rfl] at c1
    obtain ⟨p, hp⟩ : ∃ p, t ++ [45] = p := ⟨_, rfl⟩
    have hpl : p.length = t.length + 1 := by rw [← hp, List.length_append]; rfl
    have hfin : p ++ X = t ++ ([45] ++ X) := by rw [← hp]; simp
    rw [hp] at c1
    replace hst := Lib.hid hst
    replace hB0 := Lib.hid hB0
    replace hb0 := Lib.hid hb0
    replace hfin := Lib.hid hfin
    clear hC hT hE hB hw hT0 hi hp hwl hft hX hkl hO1
    go_enter Tryz.func194, Tryz.ntmps194
    go_wp2_with fail
    refine (c1.out).mono ?_
    rintro e w1 ⟨rfl, hT1, hW1⟩
    obtain ⟨y0, y1, y2, y3, _, _, _, _⟩ := ex_box (hW1.blk hb0.out hgb (by decide))
    have c2 := Lib.hid (hst.out p w1 hT1 (hE0.out.keep hW1.kept) (by omega) (hB0.out.below hW1.below))
    rw [hfin.out] at c2
    clear z0 z1 z2 z3 c1 hst hT1
    go_wp2_with fail
    refine (c2.out).mono ?_
    rintro e w2 ⟨rfl, hT2, hW2⟩
    have hW2 := hW1.trans hW2
    go_wp2
    first | go_ret | go_ret2 | go_end0 | skip
    exact ⟨rfl, hT2, hw0.trans hW2⟩
  · obtain rfl : (⟨#[110, 111, 116]⟩ : ByteArray) = O := by unfold eCells at hC; injection hC with h _; injection h
    have c1 := Lib.hid (tx_write headB0 hT0 ⟨#[33]⟩ (by show _ + 1 ≤ _; omega) hB0.le)
    rw [show (⟨#[33]⟩ : ByteArray).data.toList = [33] from rfl] at c1
    obtain ⟨p, hp⟩ : ∃ p, t ++ [33] = p := ⟨_, rfl⟩
    have hpl : p.length = t.length + 1 := by rw [← hp, List.length_append]; rfl
    have hfin : p ++ X = t ++ ([33] ++ X) := by rw [← hp]; simp
    rw [hp] at c1
    replace hst := Lib.hid hst
    replace hB0 := Lib.hid hB0
    replace hb0 := Lib.hid hb0
    replace hfin := Lib.hid hfin
    clear hC hT hE hB hw hT0 hi hp hwl hft hX hkl hO1
    go_enter Tryz.func194, Tryz.ntmps194
    go_wp2_with fail
    refine (c1.out).mono ?_
    rintro e w1 ⟨rfl, hT1, hW1⟩
    obtain ⟨y0, y1, y2, y3, _, _, _, _⟩ := ex_box (hW1.blk hb0.out hgb (by decide))
    have c2 := Lib.hid (hst.out p w1 hT1 (hE0.out.keep hW1.kept) (by omega) (hB0.out.below hW1.below))
    rw [hfin.out] at c2
    clear z0 z1 z2 z3 c1 hst hT1
    go_wp2_with fail
    refine (c2.out).mono ?_
    rintro e w2 ⟨rfl, hT2, hW2⟩
    have hW2 := hW1.trans hW2
    go_wp2
    first | go_ret | go_ret2 | go_end0 | skip
    exact ⟨rfl, hT2, hw0.trans hW2⟩
set_option maxHeartbeats 8000000 in
theorem we_bin (op : Str) (y z : Exp) (hy : WE y) (hz : WE z) : WE (.bin op y z) := by
  intro B b t w A L cap O S N hC hT hE hw hlen hB
  have hft := opsT_bin hw
  have hwl := wf_kids hw
  rw [Wf] at hw
  obtain ⟨W0, g0, hW0, hg0, hb0, hgb, hB0, hT0, hw0⟩ := we_start (O := O) (N := N) (S := S) (A := A) (L := L) (cap := cap) hT hB
  obtain ⟨z0, z1, z2, z3, _, _, _, _⟩ := ex_box hb0
  have hOl : O.data.toList = op := strV_list (show strV (Exp.bin op y z).opS = .string O by unfold eCells at hC; injection hC)
  have hO1 : O.size ≤ 1000000000 := by
    have := op_len hw.1
    rw [str_len hOl]
    omega
  have c1 := Lib.hid (operands_step (x := .bin op y z) (fun u hu => by
    rcases List.mem_cons.1 hu with rfl | hu
    · exact hy
    · rw [List.mem_singleton.1 hu]; exact hz) hwl (t := t) (w := W0) (B := B) (b := b) hC hO1 hT0 (hE.keep hw0.kept) (by show _ + (opsT _ 2).length ≤ _; rw [hft]; exact hlen) hB0)
  rw [show opsT (.bin op y z) (Exp.bin op y z).kids.length = _ from hft] at c1
  have hq : ∀ c : Str, lev c = 0 → (O.toList == c) = false := fun c hc => by
    rw [ByteArray.toList_eq, hOl, beq_eq_false_iff_ne]
    rintro rfl
    have := hw.1
    omega
  have q1 := hq [110, 117, 109] (by decide)
  have q2 := hq [118, 97, 114] (by decide)
  have q3 := hq [101, 108, 101, 109] (by decide)
  have q4 := hq [99, 97, 108, 108] (by decide)
  have q5 := hq [110, 101, 103] (by decide)
  have q6 := hq [110, 111, 116] (by decide)
  clear hC hT hE hB hw hT0 hy hz hwl hft hq hOl hb0
  go_enter Tryz.func194, Tryz.ntmps194
  go_wp2_with fail
  refine (c1.out).mono ?_
  rintro e w1 ⟨rfl, hT1, hW1⟩
  go_wp2
  first | go_ret | go_ret2 | go_end0 | skip
  exact ⟨rfl, hT1, hw0.trans hW1⟩
end
theorem we_all (x : Exp) : WE x := by
  induction x using Exp.ind with
  | h1 n => exact we_num n
  | h2 s => exact we_var s
  | h3 s i ih => exact we_elem s i ih
  | h4 s l ih => exact we_call s l ih
  | h5 op y ih => exact we_un op y ih
  | h6 op y z ih1 ih2 => exact we_bin op y z ih1 ih2
theorem tx_builder {B b : Nat} {l : Str} {w : World} (h : TxB B b l w) : Lib.IsBuilder 81 5 B b (Lib.byteCells l) w := by
  rcases h with ⟨h1, v, h2, h3, h4⟩ | ⟨h1, v, h2, h3, h4⟩
  · exact .inl ⟨h1, v, h2, by rw [Lib.byteCells_length]; exact h3, h4⟩
  · exact .inr ⟨h1, v, h2, by rw [Lib.byteCells_length]; exact h3, h4⟩
set_option maxHeartbeats 4000000 in
/-- formatted: expressions with commas between them. -/
theorem formatted_any {l : List Exp} {F : Nat → Prop} {A : Option Addr} {cap n : Nat} {w : World} (hE : Exs w F l A cap) (wl : WfL l) (hn : l.length = n) (hlen : (jc (l.map ft)).length ≤ 1000000000) (hL : Laid w) :
    Calls Tryz.prog 139 #[.slice A n cap] w fun e w' => (∃ S : ByteArray, S.data.toList = jc (l.map ft) ∧ e = .returned (.string S)) ∧ Below w.heap.size w w' := by
  have hE1 : Exs w (fun k => k < w.heap.size) l A cap := hE.mono fun b hb _ => hb
  have hf0 := Lib.fresh_isBuilder 81 5 w
  have hl0 : Below w.heap.size w (w.alloc (.cells #[.pointer none, .slice none 0 0] 81)) := boxed w _
  obtain ⟨W0, hW0⟩ : ∃ W, w.alloc (.cells #[.pointer none, .slice none 0 0] 81) = W := ⟨_, rfl⟩
  rw [hW0] at hf0 hl0
  obtain ⟨B, hBe⟩ : ∃ B, w.heap.size = B := ⟨_, rfl⟩
  have hB : Bas B W0 := by rw [← hBe]; exact (Bas.start hL).below hl0
  have hT : TxB B B [] W0 := by rw [← hBe]; exact hf0
  rw [hBe] at hE1 hl0 ⊢
  have c1 := Lib.hid (list_step (l := l) (fun y _ => we_all y) wl hn hT (hE1.keep (by rw [← hBe]; exact Kept.of_below (hBe ▸ hl0))) (by rw [List.length_nil, Nat.zero_add]; exact hlen) hB)
  rw [List.nil_append] at c1
  have hl0 := Lib.hid hl0
  have hB := Lib.hid hB
  clear hE hE1 hf0 hT hL wl
  go_enter Tryz.func139, Tryz.ntmps139
  go_wp2_with fail
  refine (c1.out).mono ?_
  rintro e w1 ⟨rfl, hT1, hW1⟩
  have c2 := Lib.hid (Tryz.Builder_String_any_k B B (jc (l.map ft)) w1 (Lib.IsBuilderF.of (tx_builder hT1)) (hB.out.below hW1.below).le)
  have hbl := Lib.hid (hl0.out.trans hW1.below)
  clear c1 hT1 hW1
  go_wp2_with fail
  refine (c2.out).mono ?_
  rintro e w2 ⟨rfl, _, hb2, _⟩
  have hbl := Lib.hid (hbl.out.trans hb2)
  clear c2 hb2
  go_wp2
  first | go_ret | go_ret2 | skip
  exact ⟨⟨_, rfl, rfl⟩, hbl.out⟩
end Go.Proofs.YtpbcncfbfbghcaaGreatDoor.L20
namespace Go.Proofs.YtpbcncfbfbghcaaGreatDoor.L20
set_option maxRecDepth 100000
open Go.RowKit Mem L19
open M17 (Laid Laid.below)
set_option linter.unusedVariables false
set_option linter.unusedSimpArgs false

theorem join_jc : ∀ l : List Str, Lib.join l [44, 32] = jc l
  | [] => rfl
  | [a] => by rw [Lib.join_one, jc]
  | a :: b :: r => by
    have ih := join_jc (b :: r)
    rw [Lib.join_cons] at ih ⊢
    rw [jc, ← ih]
    simp [Lib.joinTail]
theorem join_lines : ∀ l : List Str, Lib.join l [10] = joinL l
  | [] => rfl
  | [a] => by rw [Lib.join_one, joinL]
  | a :: b :: r => by
    have ih := join_lines (b :: r)
    rw [Lib.join_cons] at ih ⊢
    rw [joinL, ← ih]
    simp [Lib.joinTail]
theorem join_any {w : World} {F : Nat → Prop} {l : List Str} {A : Option Addr} {cap n : Nat} (h : StrsF w F l A cap) (hn : l.length = n) (sep : ByteArray) (hlen : (Lib.join l sep.data.toList).length ≤ 1000000000) (hl9 : n ≤ 1000000000) :
    Calls Tryz.prog 20 #[.slice A n cap, .string sep] w fun e w' => (∃ S : ByteArray, S.data.toList = Lib.join l sep.data.toList ∧ e = .returned (.string S)) ∧ Below w.heap.size w w' := by
  cases l with
  | nil =>
    obtain rfl : n = 0 := hn.symm
    refine (Tryz.strings_Join_none A cap sep w).mono ?_
    rintro e w' ⟨rfl, rfl⟩
    exact ⟨⟨_, rfl, rfl⟩, Below.refl _ _⟩
  | cons s r =>
    obtain ⟨b, o, rfl, _, hb, _⟩ := h.at (i := 0) (s := s) rfl
    have hmap : ((s :: r).map fun t => (⟨t.toArray⟩ : ByteArray)).map (·.data.toList) = s :: r := by
      rw [List.map_map]
      conv => rhs; rw [← List.map_id (s :: r)]
      rfl
    have hc := Tryz.strings_Join b o cap ((s :: r).map fun t => (⟨t.toArray⟩ : ByteArray)) sep w (fun j x hx => by
      rw [List.getElem?_map] at hx
      obtain ⟨t, ht, rfl⟩ := Option.map_eq_some_iff.1 hx
      obtain ⟨b', o', e, _, _, hcell⟩ := h.at ht
      injection e with e
      injection e with e1 e2
      subst e1 e2
      exact hcell) hb (by rw [List.length_map]; omega) (by rw [List.length_map]; exact h.le.1) (by rw [hmap]; omega)
    rw [hmap, List.length_map, hn] at hc
    refine hc.mono ?_
    rintro e w' ⟨rfl, hbl⟩
    exact ⟨⟨_, rfl, rfl⟩, hbl⟩
end Go.Proofs.YtpbcncfbfbghcaaGreatDoor.L20
