/- The contracts of the package's Strings and ReadStrings; all six together. -/
import Derived.Test.YtjmnjcjpcmonjaaDoorN2Own2
import Derived.Test.YtjmnjcjpcmonjaaDoorN2Law4
namespace Go.Proofs.YtjmnjcjpcmonjaaDoor.N2
open Go.RowKit Mem
set_option linter.unusedVariables false

theorem builder_below {T e B b : Nat} {bs : List Value} {w w1 : World} (h : Lib.IsBuilder T e B b bs w) (k : Below w.heap.size w w1) : Lib.IsBuilder T e B b bs w1 := by
  have one : ∀ p, Lib.BuilderAt T e B b p bs w → Lib.BuilderAt T e B b p bs w1 := by
    intro p h
    have hlt := h.lt
    obtain ⟨hB, v, hb, hown, hne⟩ := h
    exact ⟨hB, v, (k.block b hlt).trans hb, own_below hown k, hne⟩
  rcases h with h | h
  · exact .inl (one _ h)
  · exact .inr (one _ h)
theorem cells_snoc (a b : List UInt8) : Lib.byteCells a ++ Lib.strCells ⟨b.toArray⟩ = Lib.byteCells (a ++ b) := by
  unfold Lib.byteCells Lib.strCells
  rw [List.map_append]
theorem cells_len (a : List UInt8) : (Lib.byteCells a).length = a.length := by simp [Lib.byteCells]
theorem below_new {B : Nat} {w w1 w2 : World} (h : Below B w w1) (k : Below w1.heap.size w1 w2) (hB : B ≤ w1.heap.size) : Below B w w2 := h.trans (k.mono hB)

set_option maxHeartbeats 1000000 in
theorem strings_any (A : Option Addr) (cap : Nat) (l : List (List UInt8)) (w : World) (hl : tot l ≤ 1000000) (hc : l.length ≤ cap) (hcm : cap ≤ 9223372036854775807) (hr : Rd w A (strVs l)) (hL0 : Laid w) :
    Calls Tryd.prog 18 #[.slice A l.length cap] w fun e w' => e = .returned (.string ⟨(strsL l).toArray⟩) ∧ Below w.heap.size w w' := by
  have hrh := Lib.hid hr
  have hlen := tot_len l
  clear hr
  go_enter Tryd.func18, Tryd.ntmps18
  go_wp2
  go_loopw [8] (fun i wr => ∃ k : Nat, k ≤ l.length ∧ i = .int .i64 k ∧ Lib.IsBuilder 48 5 w.heap.size w.heap.size (Lib.byteCells (strsL (l.take k))) wr ∧ Below w.heap.size w wr) (fun i _ => l.length - (intOf i).toNat)
  case atStart => exact ⟨0, Nat.zero_le _, rfl, Lib.fresh_isBuilder _ _ _, (Below.refl _ _).alloc (Nat.le_refl _) _⟩
  case round =>
    obtain ⟨k, hk, rfl, hB, hb⟩ := hrel
    have hL := hL0.below hb
    by_cases hlt : k < l.length
    · obtain ⟨b, o, rfl, hbl, hcell⟩ := (hrh.out.below hb) k (by rw [strVs_len]; exact hlt)
      rw [strV_get l k hlt] at hcell
      obtain ⟨x, hx⟩ : ∃ x, l[k] = x := ⟨_, rfl⟩
      have hxl := tot_get l k hlt
      rw [hx] at hcell hxl
      have hs := string_any ⟨x.toArray⟩ wr (by rw [str_size]; omega) hL
      rw [str_list] at hs
      have hs := Lib.hid hs
      have hsn := Lib.hid (show strsL (l.take (k + 1)) = strsL (l.take k) ++ strL x by rw [lt_snoc l k hlt, strsL_snoc, hx])
      have h1 := strsL_len (l.take k) (Nat.le_trans (tot_take_le _ _) hl)
      have h2 := tot_take_le l k
      have h3 := strL_len x (by omega)
      have hI0 : (0 : Int) ≤ (k : Int) := by omega
      have hI1 : (k : Int) < (l.length : Int) := by omega
      clear hx
      go_wp2_with fail
      refine hs.out.mono ?_
      rintro e w1 ⟨rfl, hb1⟩
      have hB1 := builder_below hB hb1
      have hbb := chain hb hb1
      clear hB hb1
      go_wp2_with fail
      refine (write_any _ _ _ ⟨(strL x).toArray⟩ w1 hB1 (by rw [cells_len, str_size]; omega) hbb.size).mono ?_
      rintro e w2 ⟨rfl, hB2, hb2⟩
      rw [cells_snoc, ← hsn.out] at hB2
      go_wp2
      go_roundw
      case rel => exact ⟨k + 1, by omega, by go_num, hB2, hbb.trans hb2⟩
      case measure => simp [intOf]; omega
    · have hfin : l.take k = l := List.take_of_length_le (by omega)
      rw [hfin] at hB
      clear hfin
      go_wp2_with fail
      refine (Tryd.Builder_String_any _ _ _ _ hB hb.size).mono ?_
      rintro e w1 ⟨rfl, hb1⟩
      go_wp2
      go_ret
      exact ⟨rfl, hb.trans hb1⟩

set_option maxHeartbeats 2000000 in
theorem readStrings_any (s : ByteArray) (w : World) (hs : s.size ≤ 1000000) (hL0 : Laid w) :
    Calls Tryd.prog 24 #[.string s] w (RlPost s.data.toList w) := by
  obtain ⟨i0, hi, hz0, hz1, hz2⟩ := info_parts info_str
  have hlen : s.data.toList.length = s.size := rfl
  have hlenh := Lib.hid hlen
  clear hlen
  go_enter Tryd.func24, Tryd.ntmps24
  go_wp2
  go_loopw [4, 5] (fun v i wr => ∃ (k f : Nat) (xs : List (List UInt8)), k ≤ s.size ∧ i = .int .i64 k ∧ xs.length ≤ k ∧ s.size < f + k ∧ Hid (rdL s.data.toList = comb xs (rdLF s.data.toList f k)) ∧
    wr.ownsRow w.heap.size 9 1 v xs.length (strVs xs) ∧ Below w.heap.size w wr) (fun _ i _ => s.size - (intOf i).toNat)
  case atStart => exact ⟨0, s.size + 1, [], Nat.zero_le _, rfl, Nat.le_refl _, by omega, Lib.hid (by unfold rdL; rw [hlenh.out, comb_start]), World.ownsRow_nil _ _ _ _, Below.refl _ _⟩
  case round =>
    obtain ⟨k, f, xs, hk, rfl, hxs, hf, hR, hown, hb⟩ := hrel
    have hL := hL0.below hb
    by_cases hlt : k < s.size
    · obtain ⟨x, y, e, hr⟩ : ∃ x y e, rdS s.data.toList (k : Int) = (x, y, e) := ⟨_, _, _, rfl⟩
      have hc := readString_any s (k : Int) wr hs (by omega) (by omega) hL
      unfold RsB at hc
      rw [hr] at hc
      have hc := Lib.hid hc
      obtain ⟨f, rfl⟩ : ∃ g, f = g + 1 := ⟨f - 1, by omega⟩
      rcases rdS_next (by rw [hlenh.out]; exact hk) hr with ⟨rfl, n, rfl, hkn, hnl, hxl⟩ | he
      · rw [hlenh.out] at hnl
        have hR' := Lib.hid (hR.out.trans (by rw [rdLF_ok (by rw [hlenh.out]; exact hlt) hr, comb_comb]))
        have hsn := Lib.hid (strVs_snoc xs x)
        clear hr
        go_wp2_with fail
        refine hc.out.mono ?_
        rintro e w1 ⟨rfl, hb1⟩
        have hown1 := own_below hown hb1
        have hbb := chain hb hb1
        clear hown hb1
        go_wp2_with (at_builtin; refine wpList_append_own _ rfl _ _ 22 rfl w.heap.size 9 i0 (.string ByteArray.empty) 1 16 Tryd.underlying22 hi hz0 hz1 hz2 rfl (by decide) _ _ _ rfl (hown1.alloc _) ⟨w1.heap.size, 0, none⟩ 1 1 [strV x] rfl rfl (one_new _ _ _) (one_str _) ?c3 ?c4 ?c5 ?_)
        case c3 => unfold maxLen; omega
        case c4 => omega
        case c5 => have := hbb.size; simp; omega
        intro v' w2 hown' hgrow _
        rw [← hsn.out] at hown'
        have hb' : Below w.heap.size w w2 := (hbb.alloc hbb.size _).grown hgrow (by have := hbb.size; simp; omega) (fun j hj => (hown1.lt j hj).1)
        clear hown1 hb hbb hgrow
        go_wp2
        go_roundw
        case rel => exact ⟨n, f, xs ++ [x], hnl, rfl, by simp; omega, by omega, hR', by simpa using hown', hb'⟩
        case measure => simp [intOf]; omega
      · have hR' := Lib.hid (hR.out.trans (by rw [rdLF_err (by rw [hlenh.out]; exact hlt) hr (by omega), comb_err xs (by omega)]))
        clear hr
        rcases he with rfl | rfl | rfl
        all_goals
          go_wp2_with fail
          refine hc.out.mono ?_
          rintro e w1 ⟨rfl, hb1⟩
          go_wp2
          go_ret2
          exact rl_of hR'.out (World.ownsRow_nil _ _ _ _) (chain hb hb1)
    · have hR' := Lib.hid (hR.out.trans (by rw [rdLF_end (by rw [hlenh.out]; omega) (by omega), comb_nil]))
      go_wp2
      go_ret2
      exact rl_of hR'.out hown hb

/-- The landed package keeps its contracts. -/
theorem dev : Dev where
  number := number_any
  string := string_any
  strings := strings_any
  readNumber := readNumber_any
  readString := readString_any
  readStrings := readStrings_any
end Go.Proofs.YtjmnjcjpcmonjaaDoor.N2
