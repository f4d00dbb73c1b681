/- The contracts of the landed package's bytesOf and Hex. -/
import Derived.Test.YtkppepdniehoiaaDoorB4Own6
import Derived.Deep.AppendLies
namespace Go.Proofs.YtkppepdniehoiaaDoor.B4
open Go.RowKit Mem
set_option linter.unusedVariables false
set_option linter.unusedSimpArgs false

theorem info_byte : (Tryd.prog.info? 5).map (fun i => (i.zero, i.size, i.bytes)) = some (some (.int .u8 0), 1, 1) := by kernel_rfl
theorem outL_len (h : List R) : (outL h).length = 32 := by simp [outL]
theorem outL_take (h : List R) (i : Nat) (hi : i < 32) : (outL h).take (i + 1) = (outL h).take i ++ [outB h i] := by
  rw [List.take_succ_eq_append_getElem (by rw [outL_len]; exact hi)]
  simp [outL]
theorem outB_nat (h : List R) (k j : Nat) (hj : j < 4) : ((outB h (4 * k + j)).toNat : Int) = ((g h k).toNat : Int) / 2 ^ (8 * j) % 256 := by
  unfold outB
  rw [show (4 * k + j) / 4 = k by omega, show (4 * k + j) % 4 = j by omega, UInt8.toNat_ofNat']
  simp
theorem idx8 (l : List R) (hl : l.length = 8) (k : Nat) (hk : k < 8) (w : World) : (Instr.index 32 (.agg (wvs l).toArray) (.int .i64 (k : Int))).run Tryd.prog w = .ok (wv (g l k)) w := by
  obtain ⟨a0, a1, a2, a3, a4, a5, a6, a7, rfl⟩ := list8 l hl
  obtain rfl | rfl | rfl | rfl | rfl | rfl | rfl | rfl : k = 0 ∨ k = 1 ∨ k = 2 ∨ k = 3 ∨ k = 4 ∨ k = 5 ∨ k = 6 ∨ k = 7 := by omega
  all_goals kernel_rfl

set_option maxHeartbeats 1000000 in
theorem obytes_any (h : List R) (w : World) (hh : h.length = 8) : Calls Tryd.prog 23 #[av h] w fun e w' => e = .returned (.string ⟨(outL h).toArray⟩) ∧ Below w.heap.size w w' := by
  obtain ⟨i0, hi, hz0, hz1, hz2⟩ := info_parts info_byte
  have hsz : (wvs h).toArray.size = 8 := by simp [wvs_len, hh]
  have hz8 : (Tryd.prog.info? 32).map (·.size) = some (wvs h).toArray.size := by rw [info_8w]; simp [wvs_len, hh]
  have hidx := Lib.hid (idx8 h hh)
  have hA0 : Arr 32 (w.alloc (.cells (wvs h).toArray 32)) w.heap.size h := arr_new w h _
  have hb0 := (Below.refl w.heap.size w).alloc (Nat.le_refl _) (.cells (wvs h).toArray 32)
  unfold av
  obtain ⟨cs, hcs⟩ : ∃ cs, (wvs h).toArray = cs := ⟨_, rfl⟩
  have hA0 : (w.alloc (.cells (wvs h).toArray 32)).heap[w.heap.size]? = some (.cells (wvs h).toArray 32 (0, 0)) := hA0
  rw [hcs] at hA0 hb0 hz8 hidx hsz ⊢
  clear hcs
  go_enter Tryd.func23, Tryd.ntmps23
  go_wp2_with (at_make; refine wpList_make_own _ rfl _ _ 46 rfl w.heap.size 5 i0 (.int .u8 0) 1 Tryd.underlying46 hi hz0 hz1 _ _ _ 32 rfl rfl (by omega) ?b2 ?b3 (by simp) ?_)
  case b2 => rw [hz2]; omega
  case b3 => unfold maxLen; omega
  intro w0 hown0 hgrow0
  have hg0 : w.heap.size < (w.alloc (.cells cs 32)).heap.size := by simp
  have hA1 : w0.heap[w.heap.size]? = some (.cells cs 32 (0, 0)) := (hgrow0.block w.heap.size hg0 (by simp)).trans hA0
  have hb1 : Below w.heap.size w w0 := hb0.grown hgrow0 (by simp) (fun k h => by cases h)
  clear hA0 hb0 hgrow0
  go_wp2_with (refine wpList_load_row rfl 32 (.tmp 1) rfl w.heap.size rfl 32 cs (0, 0) _ hA1 Tryd.underlying32 rfl hz8 ?_)
  go_loopw [3, 9] (fun v i wr => ∃ k : Nat, k ≤ 8 ∧ i = .int .i64 k ∧ wr.ownsRow w.heap.size 5 1 v (4 * k) (bys ((outL h).take (4 * k))) ∧ Below w.heap.size w wr) (fun _ i _ => 8 - (intOf i).toNat)
  case atStart => exact ⟨0, by omega, rfl, hown0, hb1⟩
  case round =>
    obtain ⟨k, hk, rfl, hown, hb⟩ := hrel
    by_cases hlt : k < 8
    · have hix := hidx.out k hlt wr
      have d1 : decide ((k : Int) < 8) = true := decide_eq_true (by omega)
      have hbt := Lib.hid (fun j hj => outB_nat h k j hj)
      obtain ⟨x, hx⟩ : ∃ x, g h k = x := ⟨_, rfl⟩
      unfold wv at hix
      rw [hx] at hix hbt
      have hxl := x.isLt
      clear hx
      go_wp2_with fail
      obtain ⟨wo, hwo⟩ : ∃ wo : World, wo = wr := ⟨_, rfl⟩
      subst hwo
      clear hix
      go_loopw [3, 12] (fun v i wr => ∃ j : Nat, j ≤ 4 ∧ i = .int .i64 j ∧ wr.ownsRow w.heap.size 5 1 v (4 * k + j) (bys ((outL h).take (4 * k + j))) ∧ Below w.heap.size w wr) (fun _ i _ => 4 - (intOf i).toNat)
      case atStart => exact ⟨0, by omega, rfl, hown, hb⟩
      case round =>
        obtain ⟨j, hj, rfl, hown1, hb1⟩ := hrel
        clear hown hb
        by_cases hlt1 : j < 4
        · have d2 : decide ((j : Int) < 4) = true := decide_eq_true (by omega)
          have hv := hbt.out j hlt1
          obtain ⟨m, hm⟩ : ∃ m, 8 * j = m := ⟨_, rfl⟩
          rw [hm] at hv
          have hmI : (j : Int) * 8 = (m : Int) := by omega
          have hm32 : m ≤ 24 := by omega
          obtain ⟨c, hc⟩ : ∃ c, outB h (4 * k + j) = c := ⟨_, rfl⟩
          have hl1 : bys ((outL h).take (4 * k + j)) ++ [.int .u8 (c.toNat : Int)] = bys ((outL h).take (4 * k + j + 1)) := by
            rw [← bys_snoc, outL_take h _ (by omega), hc]
          rw [hc] at hv
          have hv' := hv.symm
          have hlh := Lib.hid hl1
          clear hl1 hc hv hm
          go_wp2_with (at_builtin; refine wpList_append_own _ rfl _ _ 46 rfl w.heap.size 5 i0 (.int .u8 0) 1 1 Tryd.underlying46 hi hz0 hz1 hz2 rfl (by decide) _ _ _ rfl (hown1.alloc _) ⟨wr.heap.size, 0, none⟩ 1 1 [.int .u8 (c.toNat : Int)] rfl rfl (one_new _ _ _) (one_cell _ _) ?c3 ?c4 ?c5 ?_)
          case c3 => unfold maxLen; omega
          case c4 => omega
          case c5 => have := hb1.size; simp; omega
          intro v' w1 hown' hgrow _
          rw [hlh.out] at hown'
          have hb' : Below w.heap.size w w1 := (hb1.alloc hb1.size _).grown hgrow (by have := hb1.size; simp; omega) (fun j hj => (hown1.lt j hj).1)
          clear hown1 hb1 hgrow hv' hlh
          go_wp2
          go_roundw
          case rel => exact ⟨j + 1, by omega, by go_num, hown', hb'⟩
          case measure => simp [intOf]; omega
        · obtain rfl : j = 4 := by omega
          go_wp2
          go_roundw
          case rel => exact ⟨k + 1, by omega, by go_num, by rw [show 4 * (k + 1) = 4 * k + 4 by omega]; exact hown1, hb1⟩
          case measure => simp [intOf]; omega
    · have hconv := conv_own (dst := 9) Tryd.underlying46 Tryd.underlying5 Tryd.underlying9 hown
      rw [List.take_of_length_le (by rw [outL_len]; omega)] at hconv
      go_wp2
      go_ret
      exact ⟨rfl, hb⟩
theorem hexD_at (n : Nat) (h : n < 16) : (⟨#[48, 49, 50, 51, 52, 53, 54, 55, 56, 57, 97, 98, 99, 100, 101, 102]⟩ : ByteArray)[n]? = some (hexD n) := by
  have : ∀ n, n < 16 → (⟨#[48, 49, 50, 51, 52, 53, 54, 55, 56, 57, 97, 98, 99, 100, 101, 102]⟩ : ByteArray)[n]? = some (hexD n) := by decide
  exact this n h
theorem hexD_get (n : Nat) (h : n < 16) : ∀ hh, (⟨#[48, 49, 50, 51, 52, 53, 54, 55, 56, 57, 97, 98, 99, 100, 101, 102]⟩ : ByteArray)[n]'hh = hexD n := fun hh => by
  have := hexD_at n h
  rw [getElem?_pos _ n hh] at this
  exact Option.some.inj this
theorem and15 (c : Nat) (h : c < 256) : bits .and .u8 (c : Int) 15 = ((c % 16 : Nat) : Int) := by
  rw [show (15 : Int) = ((15 : Nat) : Int) from rfl, u8_and_nat _ _ h (by decide), show (15 : Nat) = 2 ^ 4 - 1 from rfl, Nat.and_two_pow_sub_one_eq_mod]

set_option maxHeartbeats 2000000 in
theorem ohex_any (s : ByteArray) (w : World) (hs : s.size ≤ 1000000) : Calls Tryd.prog 18 #[.string s] w fun e w' => e = .returned (.string ⟨(hexL s.data.toList).toArray⟩) ∧ Below w.heap.size w w' := by
  obtain ⟨i0, hi, hz0, hz1, hz2⟩ := info_parts info_byte
  go_enter Tryd.func18, Tryd.ntmps18
  go_wp2_with (at_make; refine wpList_make_own _ rfl _ _ 46 rfl w.heap.size 5 i0 (.int .u8 0) 1 Tryd.underlying46 hi hz0 hz1 _ _ _ (s.size * 2) rfl rfl (by omega) ?b2 ?b3 (Nat.le_refl _) ?_)
  case b2 => rw [hz2]; omega
  case b3 => unfold maxLen; omega
  intro w0 hown0 hgrow0
  go_wp2
  go_loopw [3, 11] (fun v i wr => ∃ k : Nat, k ≤ s.size ∧ i = .int .i64 k ∧ wr.ownsRow w.heap.size 5 1 v (2 * k) (bys (hexL (s.data.toList.take k))) ∧ Below w.heap.size w wr) (fun _ i _ => s.size - (intOf i).toNat)
  case atStart => exact ⟨0, Nat.zero_le _, rfl, hown0, (Below.refl _ _).grown hgrow0 (Nat.le_refl _) (fun k h => by cases h)⟩
  case round =>
    obtain ⟨k, hk, rfl, hown, hb⟩ := hrel
    by_cases hlt : k < s.size
    · have d1 : decide ((k : Int) < (s.size : Int)) = true := decide_eq_true (by omega)
      have hn := hexL_snoc (s.data.toList.take k) s[k]
      rw [← take_snoc s k hlt] at hn
      have hc := (s[k]).toNat_lt
      obtain ⟨p, hp⟩ : ∃ p, (s[k]).toNat / 16 = p := ⟨_, rfl⟩
      obtain ⟨q, hq⟩ : ∃ q, (s[k]).toNat % 16 = q := ⟨_, rfl⟩
      have hpI : ((s[k]).toNat : Int) / 16 = (p : Int) := by omega
      have hqI : bits .and .u8 ((s[k]).toNat : Int) 15 = (q : Int) := by rw [and15 _ hc, hq]
      have hp16 : p < 16 := by omega
      have hq16 : q < 16 := by omega
      rw [hp, hq] at hn
      have hsp := hexD_get p hp16
      have hsq := hexD_get q hq16
      obtain ⟨x, hx⟩ : ∃ x, hexD p = x := ⟨_, rfl⟩
      obtain ⟨y, hy⟩ : ∃ x, hexD q = x := ⟨_, rfl⟩
      simp only [hx] at hsp
      rw [hx] at hn
      simp only [hy] at hsq
      rw [hy] at hn
      have hn2 : bys (hexL (s.data.toList.take k)) ++ [.int .u8 (x.toNat : Int), .int .u8 (y.toNat : Int)] = bys (hexL (s.data.toList.take (k + 1))) := by
        rw [hn, bys_append, bys_append]
        simp [bys]
      have hnh := Lib.hid hn2
      have i0' : (0 : Int) ≤ (k : Int) := by omega
      have i1 : (k : Int) < (s.size : Int) := by omega
      have p0 : (0 : Int) ≤ (p : Int) := by omega
      have p1 : (p : Int) < 16 := by omega
      have q0 : (0 : Int) ≤ (q : Int) := by omega
      have q1 : (q : Int) < 16 := by omega
      clear hp hq hn hn2 hx hy
      go_wp2_with fail
      go_region_held3 (fun _ => True) (trivial)
        ((refine step_append_lies _ (by rfl) _ _ _ (by rfl) w.heap.size 5 i0 (.int .u8 0) 1 1 Tryd.underlying46 hi hz0 hz1 hz2 rfl (by decide) u3 (2 * k) _ (by rfl) ((hown.alloc _).drew)
              ⟨wr.heap.size, 0, none⟩ 2 2 [.int .u8 (x.toNat : Int), .int .u8 (y.toNat : Int)] (by rfl) (by rfl) (World.news_of_block (cs := #[.int .u8 (x.toNat : Int), .int .u8 (y.toNat : Int)]) (t := 5) (fr := (0, 0)) (heap_alloc_new wr _)) (by simp [Value.oneCell'])
              (by omega) (by unfold maxLen; omega) (by omega) (by have := hb.size; simp; omega) (wr.heap.size + 1) (by simp) ?_; intro gg cap w1 hown1 hgrow hat hlt1))
      all_goals
        rw [hnh.out] at hown1
        have hb1 : Below w.heap.size w w1 := ((hb.alloc hb.size _).drew).grown hgrow (by have := hb.size; simp; omega) (fun j hj => (hown.lt j hj).1)
        clear hown hb hgrow hnh hat hlt1
        go_wp2
        go_roundw
        case rel => exact ⟨k + 1, by omega, by go_num, by rw [show 2 * (k + 1) = 2 * k + 2 by omega]; exact hown1, hb1⟩
        case measure => simp [intOf]; omega
    · have d1 : decide ((k : Int) < (s.size : Int)) = false := decide_eq_false (by omega)
      have hconv := conv_own (dst := 9) Tryd.underlying46 Tryd.underlying5 Tryd.underlying9 hown
      rw [show s.data.toList.take k = s.data.toList by rw [show k = s.size by omega, take_all]] at hconv
      go_wp2
      go_ret
      exact ⟨rfl, hb⟩
end Go.Proofs.YtkppepdniehoiaaDoor.B4
