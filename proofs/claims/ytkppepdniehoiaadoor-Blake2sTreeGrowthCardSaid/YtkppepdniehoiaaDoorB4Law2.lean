/- The walk of the law Blake2sConcatenation, under the package's contracts. -/
import Derived.Test.YtkppepdniehoiaaDoorB4Law1
namespace Go.Proofs.YtkppepdniehoiaaDoor.B4
open Go.RowKit Mem
set_option linter.unusedVariables false
variable {L : World → Prop}

theorem cut_whole (s : ByteArray) (n : Nat) : (s.extract 0 n).data.toList ++ (s.extract n s.size).data.toList = s.data.toList := by
  simp only [ByteArray.data_extract, Array.toList_extract, List.extract_eq_take_drop, Nat.sub_zero, List.drop_zero]
  rw [List.take_of_length_le (l := List.drop n s.data.toList) (by simp), List.take_append_drop]
theorem flat_str (l : List (List UInt8)) (x : List UInt8) : (l ++ [x]).flatten = l.flatten ++ x := by simp
theorem totl_flat (l : List (List UInt8)) : totl l = l.flatten.length := by
  simp [totl, List.length_flatten]
theorem sum1 (D : Dev L) (s : ByteArray) (w : World) (hs : s.size ≤ 1000000) (hL : L w) :
    Calls Tryd.prog 13 #[.slice (some ⟨w.heap.size, 0, none⟩) 1 1] (w.alloc (.cells #[.string s] 9)) fun e w' => e = .returned (.string ⟨(digL s.data.toList).toArray⟩) ∧ Below w.heap.size w w' := by
  have h := D.sum (some ⟨w.heap.size, 0, none⟩) 1 [s.data.toList] _ (by simp [totl]; exact hs) (by simp) (by simp) (by decide) (rd_made w 9 _ #[.string s] rfl) (D.alloc hL _)
  rw [show [s.data.toList].flatten = s.data.toList by simp] at h
  exact h.mono fun e w' ⟨a, b⟩ => ⟨a, chain (below_made w _) b⟩
theorem info_str : (Tryd.prog.info? 9).map (fun i => (i.zero, i.size, i.bytes)) = some (some (.string ByteArray.empty), 1, 16) := by kernel_rfl
/-- The cells of a slice of integers that came in. -/
theorem row_cells {k : IntKind} {w : World} {A : Option Addr} {len cap : Nat} {z : List Int} (hz : IsRow k w A len cap z) :
    ∀ j, j < len → ∃ blk off : Nat, A = some ⟨blk, off, none⟩ ∧ blk < w.heap.size ∧ ∃ v : Int, (Lit.int k v).wf = true ∧ w.cell? ⟨blk, off + j, none⟩ = some (.int k v) := by
  intro j hk
  rcases hz with ⟨rfl, rfl, rfl, rfl⟩ | ⟨x, rfl, h1, h2, h3, h4, h5⟩
  · omega
  · obtain ⟨blk, off, spot⟩ := x
    have hc := h4 j (by omega)
    have hspot : spot = none := by simpa [Addr.add] using World.cell?_spot (h4 0 (by omega))
    subst hspot
    have hlt := World.block_lt_of_cell? _ _ hc
    have hwf := h5 (z.getD j 0) (by rw [List.getD_eq_getElem?_getD, List.getElem?_eq_getElem (by omega)]; exact List.getElem_mem _)
    refine ⟨blk, off, rfl, ?_, z.getD j 0, hwf, ?_⟩
    · by_cases e : j = 0
      · subst e; exact hlt
      · simpa [Addr.add, e] using hlt
    · rw [← hc]
      congr 1
      by_cases e : j = 0
      · subst e; rfl
      · simp [Addr.add, e]

set_option maxHeartbeats 2000000 in
theorem walk_concatenation (D : Dev L) (s : ByteArray) (A : Option Addr) (len cap : Nat) (z : List Int) (w : World) (hL0 : L w) (hs : s.size ≤ 140737488351232) (hz : IsRow .u16 w A len cap z) :
    Calls Tryd.prog 4 #[.string s, .slice A len cap] w fun e w' => e = .returned (.bool true) ∧ Below w.heap.size w w' := by
  have hlm : (len : Int) ≤ 9223372036854775807 := by
    rcases hz with ⟨rfl, rfl, rfl, rfl⟩ | ⟨x, rfl, h1, h2, h3, h4, h5⟩
    · decide
    · unfold maxLen at h2; omega
  by_cases h2000 : 2000 < s.size
  · have d1 : decide ((2000 : Int) < (s.size : Int)) = true := decide_eq_true (by omega)
    clear hz
    go_enter Tryd.func4, Tryd.ntmps4
    go_wp2_with fail
    refine (alive_any D _ hL0).mono ?_
    rintro e w7 ⟨rfl, hb7⟩
    go_wp2
    go_ret
    exact ⟨rfl, hb7⟩
  · have d1 : decide ((2000 : Int) < (s.size : Int)) = false := decide_eq_false (by omega)
    by_cases h20 : 20 < len
    · have d2 : decide ((20 : Int) < (len : Int)) = true := decide_eq_true (by omega)
      clear hz
      go_enter Tryd.func4, Tryd.ntmps4
      go_wp2_with fail
      refine (alive_any D _ hL0).mono ?_
      rintro e w7 ⟨rfl, hb7⟩
      go_wp2
      go_ret
      exact ⟨rfl, hb7⟩
    · have d2 : decide ((20 : Int) < (len : Int)) = false := decide_eq_false (by omega)
      obtain ⟨i0, hi, hz0, hz1, hz2⟩ := info_parts info_str
      have hrow := Lib.hid (row_cells hz)
      clear hz
      have hs2 : s.size ≤ 2000 := by omega
      have hl2 : len ≤ 20 := by omega
      have c1 := fun W (h : L W) => sum1 D s W (by omega) h
      have hdl := Lib.hid (digL_len s.data.toList)
      obtain ⟨X, hX⟩ : ∃ X, digL s.data.toList = X := ⟨_, rfl⟩
      rw [hX] at c1 hdl
      have c1 := Lib.hid c1
      have hX := Lib.hid hX
      clear h2000 h20
      go_enter Tryd.func4, Tryd.ntmps4
      go_wp2_with fail
      refine (alive_any D _ hL0).mono ?_
      rintro e w7 ⟨rfl, hb7⟩
      have hL7 := D.keep hL0 hb7
      go_wp2
      go_loopw [5, 6, 7] (fun v r i wr => ∃ (k : Nat) (xs : List (List UInt8)) (R : ByteArray), k ≤ len ∧ i = .int .i64 k ∧ r = .string R ∧ Hid (xs.length = k) ∧ Hid (xs.flatten ++ R.data.toList = s.data.toList) ∧ R.size ≤ 2000 ∧
        wr.ownsRow w7.heap.size 9 1 v k (strVs xs) ∧ Below w7.heap.size w7 wr) (fun _ _ i _ => len - (intOf i).toNat)
      case atStart => exact ⟨0, [], s, Nat.zero_le _, rfl, rfl, Lib.hid rfl, Lib.hid (by simp), hs2, World.ownsRow_nil _ _ _ _, Below.refl _ _⟩
      case round =>
        obtain ⟨k, xs, R, hk, rfl, rfl, hxl, hfl, hR, hown, hb⟩ := hrel
        by_cases hlt : k < len
        · obtain ⟨blk, off, rfl, hblk, v, hwf, hcell⟩ := hrow.out k hlt
          obtain ⟨hv1, hv2⟩ : 0 ≤ v ∧ v ≤ 65535 := (Lit.wf_int_iff .u16 _).1 hwf
          have hcell : wr.cell? ⟨blk, off + k, none⟩ = some (.int .u16 v) := ((chain hb7 hb).cell (p := ⟨blk, off + k, none⟩) hblk).trans hcell
          obtain ⟨n, hn⟩ : ∃ n : Nat, v % ((R.size : Int) + 1) = (n : Int) := ⟨(v % ((R.size : Int) + 1)).toNat, by
            have := Int.emod_nonneg v (show ((R.size : Int) + 1) ≠ 0 by omega)
            omega⟩
          have hns : n ≤ R.size := by
            have := Int.emod_lt_of_pos v (show (0 : Int) < ((R.size : Int) + 1) by omega)
            omega
          have hw := cut_whole R n
          obtain ⟨P, hPe⟩ : ∃ P, R.extract 0 n = P := ⟨_, rfl⟩
          obtain ⟨Q, hQe⟩ : ∃ Q, R.extract n R.size = Q := ⟨_, rfl⟩
          rw [hPe, hQe] at hw
          have hfl' := Lib.hid (show (xs ++ [P.data.toList]).flatten ++ Q.data.toList = s.data.toList by rw [flat_str, List.append_assoc, hw, hfl.out])
          have hQs : Q.size ≤ 2000 := by rw [← hQe]; simp; omega
          have hsn := Lib.hid (strVs_snoc xs P.data.toList)
          have hn0 : (0 : Int) ≤ (n : Int) := by omega
          have hnI : (n : Int) ≤ (R.size : Int) := by omega
          have hI0 : (0 : Int) ≤ (k : Int) := by omega
          have hI1 : (k : Int) < (len : Int) := by omega
          clear hw hwf
          go_wp2_with (at_builtin; refine wpList_append_own _ rfl _ _ 22 rfl w7.heap.size 9 i0 (.string ByteArray.empty) 1 16 Tryd.underlying22 hi hz0 hz1 hz2 rfl (by decide) _ _ _ rfl (hown.alloc _) ⟨wr.heap.size, 0, none⟩ 1 1 [.string P] rfl rfl (one_new _ _ _) (one_str _) ?c3 ?c4 ?c5 ?_)
          case c3 => unfold maxLen; omega
          case c4 => omega
          case c5 => have := hb.size; simp; omega
          intro v' w1 hown' hgrow _
          rw [show strVs xs ++ [.string P] = strVs (xs ++ [P.data.toList]) from hsn.out.symm] at hown'
          have hb' : Below w7.heap.size w7 w1 := (hb.alloc hb.size _).grown hgrow (by have := hb.size; simp; omega) (fun j hj => (hown.lt j hj).1)
          clear hown hb hgrow
          go_wp2
          go_roundw
          case rel => exact ⟨k + 1, xs ++ [P.data.toList], Q, by omega, by go_num, rfl, Lib.hid (by simp [hxl.out]), hfl', hQs, hown', hb'⟩
          case measure => simp [intOf]; omega
        · have hke : k = len := by omega
          subst hke
          have hsn := Lib.hid (strVs_snoc xs R.data.toList)
          have hfl' := Lib.hid (show (xs ++ [R.data.toList]).flatten = s.data.toList by rw [flat_str, hfl.out])
          have hll := Lib.hid (show (xs ++ [R.data.toList]).length = k + 1 by simp [hxl.out])
          go_wp2_with (at_builtin; refine wpList_append_own _ rfl _ _ 22 rfl w7.heap.size 9 i0 (.string ByteArray.empty) 1 16 Tryd.underlying22 hi hz0 hz1 hz2 rfl (by decide) _ _ _ rfl (hown.alloc _) ⟨wr.heap.size, 0, none⟩ 1 1 [.string R] rfl rfl (one_new _ _ _) (one_str _) ?d3 ?d4 ?d5 ?_)
          case d3 => unfold maxLen; omega
          case d4 => omega
          case d5 => have := hb.size; simp; omega
          intro v' w1 hown' hgrow _
          rw [show strVs xs ++ [.string R] = strVs (xs ++ [R.data.toList]) from hsn.out.symm] at hown'
          have hb' : Below w7.heap.size w7 w1 := (hb.alloc hb.size _).grown hgrow (by have := hb.size; simp; omega) (fun j hj => (hown.lt j hj).1)
          clear hown hb hgrow
          obtain ⟨Y, hY⟩ : ∃ Y, xs ++ [R.data.toList] = Y := ⟨_, rfl⟩
          rw [hY] at hown' hfl' hll
          obtain ⟨B, cb, rfl, hcb1, hcb2⟩ := own_slice hown'
          have hrd := Rd.of_own hown'
          have hL1 := D.keep hL7 hb'
          have c2 := D.sum B cb Y w1 (by rw [totl_flat, hfl'.out]; show s.size ≤ _; omega) (by rw [hll.out]; omega) (by rw [hll.out]; exact hcb1) (by unfold maxLen at hcb2; omega) hrd hL1
          rw [hfl'.out, hX.out, hll.out] at c2
          have c2 := Lib.hid c2
          clear hown' hrd hY hsn hfl' hll hfl hxl
          go_wp2_with fail
          refine c2.out.mono ?_
          rintro e w2 ⟨rfl, hb2⟩
          have hL2 := D.keep hL1 hb2
          go_wp2_with fail
          refine (c1.out _ hL2).mono ?_
          rintro e w3 ⟨rfl, hb3⟩
          have hL3 := D.keep hL2 hb3
          go_wp2_with fail
          refine (c1.out _ hL3).mono ?_
          rintro e w4 ⟨rfl, hb4⟩
          have hdl := hdl.out
          go_wp2
          go_ret
          exact ⟨rfl, chain (chain (chain (chain hb7 hb') hb2) hb3) hb4⟩
end Go.Proofs.YtkppepdniehoiaaDoor.B4
