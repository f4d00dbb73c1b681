/- A slice of bytes as a law's argument; the contract of the laws' helper Bits. -/
import Derived.Test.YtmkmikegddafdaaV10Dev
namespace Go.Proofs.Ytmkmikegddafdaa.V10
open Go.RowKit Mem C9
set_option linter.unusedVariables false
set_option linter.unusedSimpArgs false

/-- What a walk is told of a slice of bytes that came in. -/
structure IsBy (w : World) (A : Option Addr) (n cap : Nat) (zs : List Nat) : Prop where
  len : zs.length = n
  le : n ≤ cap
  capm : cap ≤ maxLen
  nil : A = none → cap = 0
  fit : ∀ z ∈ zs, z ≤ 255
  rd : Rd w A (zs.map fun (z : Nat) => .int .u8 (z : Int))
theorem IsBy.of_row {w : World} {A : Option Addr} {n cap : Nat} {zs : List Int} (h : IsRow .u8 w A n cap zs) : ∃ l, IsBy w A n cap l := by
  rcases h with ⟨rfl, rfl, rfl, rfl⟩ | ⟨x, rfl, hle, hcap, hzl, hcell, hwf⟩
  · exact ⟨[], rfl, Nat.le_refl _, by decide, fun _ => rfl, fun z h => (by cases h), fun j h => (by simp at h)⟩
  · have hfit : ∀ z ∈ zs, 0 ≤ z ∧ z ≤ 255 := fun z hz => (Lit.wf_int_iff .u8 _).1 (hwf z hz)
    refine ⟨(zs.take n).map Int.toNat, (by simp; omega), hle, hcap, (fun h => by cases h), ?_, fun j hj => ?_⟩
    · intro z hz
      obtain ⟨q, hq, rfl⟩ := List.mem_map.1 hz
      have := hfit q (List.mem_of_mem_take hq)
      omega
    · have hj' : j < n := by simp at hj; omega
      obtain ⟨b, o, spot⟩ := x
      have h0 := hcell 0 (by omega)
      have hspot : spot = none := by simpa [Addr.add] using World.cell?_spot h0
      subst hspot
      refine ⟨b, o, rfl, World.block_lt_of_cell? _ _ h0, ?_⟩
      have hc := hcell j (by omega)
      have e : (⟨b, o, none⟩ : Addr).add j = ⟨b, o + j, none⟩ := by
        by_cases h : j = 0
        · subst h; rfl
        · simp [Addr.add, h]
      have hjz : j < zs.length := by omega
      rw [e, List.getD_eq_getElem?_getD, List.getElem?_eq_getElem hjz] at hc
      have hz := hfit zs[j] (List.getElem_mem _)
      rw [hc]
      simp only [List.getElem_map, List.getElem_take, Option.getD_some]
      rw [Int.toNat_of_nonneg hz.1]
theorem IsBy.below {w w1 : World} {A : Option Addr} {n cap : Nat} {zs : List Nat} (h : IsBy w A n cap zs) (k : Below w.heap.size w w1) : IsBy w1 A n cap zs := ⟨h.len, h.le, h.capm, h.nil, h.fit, h.rd.below k⟩
theorem IsBy.take {w : World} {A : Option Addr} {n cap : Nat} {zs : List Nat} (h : IsBy w A n cap zs) (m : Nat) (hm : m ≤ n) : IsBy w A m cap (zs.take m) := by
  have hl := h.len
  refine ⟨by rw [List.length_take]; omega, by have := h.le; omega, h.capm, h.nil, fun z hz => h.fit z (List.mem_of_mem_take hz), fun j hj => ?_⟩
  have hj' : j < m := by simp at hj; omega
  obtain ⟨b, o, e, hb, hc⟩ := h.rd j (by simp; omega)
  refine ⟨b, o, e, hb, ?_⟩
  rw [hc]
  simp
def bitL (zs : List Nat) : List Bool := zs.map fun z => z % 2 == 1
theorem bitL_len (zs : List Nat) : (bitL zs).length = zs.length := by simp [bitL]
theorem one_at (w : World) (x : Value) (t : TypeId) : (w.alloc (.cells #[x] t)).cell? ⟨w.heap.size, 0, none⟩ = some x := by
  have h := one_new w x t 0 x rfl
  rw [add_at] at h
  exact h
theorem conv_one {P : Program} (w W : World) {src dst e : TypeId} {x : UInt8} {a : Int} (ha : a = (x.toNat : Int)) (hs : P.underlying src = some (.slice e)) (he : P.underlying e = some (.int .u8)) (hd : P.underlying dst = some .string)
    (h0 : W.cell? ⟨w.heap.size, 0, none⟩ = some (.int .u8 a)) :
    (convert src dst (.slice (some ⟨w.heap.size, 0, none⟩) 1 1)).run P W = .ok (.string ⟨#[x]⟩) W := by
  subst ha
  refine run_convert_bytes_back _ src dst e ⟨w.heap.size, 0, none⟩ 1 [x] hs he hd fun j hj => ?_
  match j, hj with
  | 0, _ => exact h0
theorem bn_cell (b : Bool) : 48 + (bn b : Int) = ((cell b).toNat : Int) := by cases b <;> rfl
set_option maxRecDepth 100000 in
set_option maxHeartbeats 4000000 in
theorem bits_any (A : Option Addr) (n cap : Nat) (zs : List Nat) (w : World) (h : IsBy w A n cap zs) (hn : n ≤ 1000000) :
    Calls Try.prog 19 #[.slice A n cap] w fun e w' => e = .returned (.string (sb (bitL zs))) ∧ Below w.heap.size w w' := by
  have hlen := h.len
  have hle := h.le
  have hcap := h.capm
  have hm : maxLen = 9223372036854775807 := rfl
  replace h := Lib.hid h
  replace hlen := Lib.hid hlen
  replace hcap := Lib.hid hcap
  clear hm
  go_enter Try.func19, Try.ntmps19
  go_wp2
  go_loopw [3, 8] (fun v i wr => ∃ j : Nat, j ≤ n ∧ i = .int .i64 (j : Int) ∧ v = .string (sb (bitL (zs.take j))) ∧ Below w.heap.size w wr) (fun _ i _ => n - (intOf i).toNat)
  case atStart => exact ⟨0, Nat.zero_le _, rfl, rfl, Below.refl _ _⟩
  case round =>
    obtain ⟨j, hj, rfl, rfl, hb⟩ := hrel
    by_cases hlt : j < n
    · have hjz : j < zs.length := by rw [hlen.out]; exact hlt
      obtain ⟨b, o, rfl, hbl, hcell⟩ := (h.out.below hb).rd j (by rw [List.length_map]; exact hjz)
      rw [List.getElem_map] at hcell
      have hz := h.out.fit zs[j] (List.getElem_mem _)
      have hts : bitL (zs.take (j + 1)) = bitL (zs.take j) ++ [zs[j] % 2 == 1] := by
        rw [List.take_succ_eq_append_getElem hjz]
        unfold bitL
        rw [List.map_append]
        rfl
      have hbn : bn (zs[j] % 2 == 1) = zs[j] % 2 := by
        rcases Nat.mod_two_eq_zero_or_one zs[j] with h | h <;> rw [h] <;> rfl
      obtain ⟨z, hz'⟩ : ∃ z, zs[j] = z := ⟨_, rfl⟩
      rw [hz'] at hcell hz hts hbn
      obtain ⟨d, hd⟩ : ∃ d, z % 2 = d := ⟨_, rfl⟩
      obtain ⟨B, hB⟩ : ∃ B, (z % 2 == 1) = B := ⟨_, rfl⟩
      rw [hB] at hts hbn
      rw [hd] at hbn
      have hdI : (z : Int) % 2 = (d : Int) := by omega
      have hd1 : d ≤ 1 := by omega
      have hC := bn_cell B
      rw [hbn] at hC
      obtain ⟨C, hCC⟩ : ∃ C, cell B = C := ⟨_, rfl⟩
      obtain ⟨S, hS⟩ : ∃ S, sb (bitL (zs.take j)) = S := ⟨_, rfl⟩
      obtain ⟨S2, hS2⟩ : ∃ S, sb (bitL (zs.take (j + 1))) = S := ⟨_, rfl⟩
      have hSs : S.size = j := by rw [← hS, sb_size, bitL_len, List.length_take]; omega
      have r1 : ∀ W, (Op.stringOp .add S ⟨#[C]⟩).run Try.prog W = .ok (.string S2) W := fun W => by
        rw [Go.run_string_add_sum _ _ _ (by show S.size + 1 ≤ _; omega), ← hS2, hts, ← sb_app, hS, ← hCC]
        rfl
      have cv := conv_one (P := Try.prog) (dst := 9) wr (wr.alloc (.cells #[.int .u8 (48 + (d : Int))] 5)) (x := C) (by rw [hC, hCC]) Try.underlying31 Try.underlying5 Try.underlying9 (one_at wr _ _)
      have hb2 : Below w.heap.size w (wr.alloc (.cells #[.int .u8 (48 + (d : Int))] 5)) := hb.alloc hb.size _
      have i0 : (0 : Int) ≤ (j : Int) := by omega
      have i1 : (j : Int) < (n : Int) := by omega
      have dl : decide ((j : Int) < (n : Int)) = true := decide_eq_true i1
      have dl' : decide (j < n) = true := decide_eq_true hlt
      rw [hS]
      replace hS2 := Lib.hid hS2
      clear hts hbn hz' hd hB hC hCC hS hSs
      go_wp2
      go_roundw
      case rel => exact ⟨j + 1, by omega, by go_num, by rw [hS2.out], hb2⟩
      case measure => simp [intOf]; omega
    · obtain rfl : j = n := by omega
      have dl : decide ((j : Int) < (j : Int)) = false := decide_eq_false (by omega)
      have dl' : decide (j < j) = false := decide_eq_false (by omega)
      rw [show zs.take j = zs from List.take_of_length_le (by rw [hlen.out]; exact Nat.le_refl _)]
      go_wp2
      go_ret
      exact ⟨rfl, hb⟩
end Go.Proofs.Ytmkmikegddafdaa.V10
