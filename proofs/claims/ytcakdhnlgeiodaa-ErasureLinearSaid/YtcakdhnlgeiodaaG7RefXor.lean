/- The contract of the reference's Xor of layer 7. -/
import Derived.Test.YtcakdhnlgeiodaaG7RefTimes
import Derived.DataShut
import Derived.Deep.RegionHeld3
import Derived.Deep.AppendLies
namespace Go.Proofs.Ytcakdhnlgeiodaa.G7
open Go.Proofs.Ytcakdhnlgeiodaa.G5
open Go.Proofs.Ytcakdhnlgeiodaa.G6 (rs rs_len rs_snoc IsSl u8s take_snoc Gives info_byte conv_sl mb)
open Go.RowKit Mem
set_option linter.unusedVariables false
set_option linter.unusedSimpArgs false

theorem xr_len2 : ∀ u v : List R, (xr u v).length = min u.length v.length
  | [], v => by simp [xr]
  | a :: u, [] => by simp [xr]
  | a :: u, b :: v => by
    show (xr u v).length + 1 = _
    rw [xr_len2 u v, List.length_cons, List.length_cons]
    omega
theorem xr_get : ∀ (u v : List R) (k : Nat), k < u.length → k < v.length → (xr u v).getD k 0 = u.getD k 0 ^^^ v.getD k 0
  | [], v, k, h, _ => by simp at h
  | a :: u, [], k, _, h => by simp at h
  | a :: u, b :: v, 0, _, _ => rfl
  | a :: u, b :: v, k + 1, h, h' => xr_get u v k (by simpa using h) (by simpa using h')

set_option maxRecDepth 100000 in
set_option maxHeartbeats 4000000 in
theorem rxor_any (a b : ByteArray) (w : World) (ha : a.size ≤ 100000) (hb0 : b.size ≤ 100000) :
    Calls Try.prog 23 #[.string a, .string b] w fun e w' => e = .returned (.string ⟨(u8s (xr (el a) (el b))).toArray⟩) ∧ Below w.heap.size w w' := by
  obtain ⟨i0, hi, hz0, hz1, hz2⟩ := info_parts info_byte
  have hxl := xr_len2 (el a) (el b)
  rw [el_len, el_len] at hxl
  have hxl := Lib.hid hxl
  go_enter Try.func23, Try.ntmps23
  go_wp2
  go_loopw [5, 6] (fun v i wr => ∃ k : Nat, k ≤ 100000 ∧ Hid (k ≤ (xr (el a) (el b)).length) ∧ i = .int .i64 k ∧ wr.ownsRow w.heap.size 5 1 v k (rs ((xr (el a) (el b)).take k)) ∧ Below w.heap.size w wr) (fun _ i _ => 200000 - (intOf i).toNat)
  case atStart => exact ⟨0, Nat.zero_le _, Lib.hid (Nat.zero_le _), rfl, empty_at rfl (Nat.le_refl _), (Below.refl _ _).alloc (Nat.le_refl _) _⟩
  case round =>
    obtain ⟨k, hk, hkx, rfl, hown, hb⟩ := hrel
    by_cases hlt : k < (xr (el a) (el b)).length
    · have hts := take_snoc (xr (el a) (el b)) k hlt
      have hka : k < a.size := by have := hxl.out; omega
      have hkb : k < b.size := by have := hxl.out; omega
      rw [xr_get _ _ k (by rw [el_len]; exact hka) (by rw [el_len]; exact hkb)] at hts
      obtain ⟨X, hX⟩ : ∃ X, (el a).getD k 0 = X := ⟨_, rfl⟩
      obtain ⟨Y, hY⟩ : ∃ Y, (el b).getD k 0 = Y := ⟨_, rfl⟩
      have hbx := byte_val a k hka X hX
      have hby := byte_val b k hkb Y hY
      rw [hX, hY] at hts
      have hx := bxr X Y
      obtain ⟨S, hS⟩ : ∃ S, X ^^^ Y = S := ⟨_, rfl⟩
      rw [hS] at hx hts
      have hts := Lib.hid hts
      have hkn := Lib.hid (show k + 1 ≤ (xr (el a) (el b)).length from hlt)
      have d1 : decide ((k : Int) < (a.size : Int)) = true := decide_eq_true (by omega)
      have d2 : decide ((k : Int) < (b.size : Int)) = true := decide_eq_true (by omega)
      have i1 : (0 : Int) ≤ (k : Int) := by omega
      have i2 : (k : Int) < (a.size : Int) := by omega
      have i3 : (k : Int) < (b.size : Int) := by omega
      have hk1 : k < 100000 := by omega
      clear hX hY hS hlt
      go_wp2_with fail
      go_region_held3 (fun _ => True) (trivial)
        ((refine step_append_lies _ (by rfl) _ _ _ (by rfl) w.heap.size 5 i0 (.int .u8 0) 1 1 Try.underlying43 hi hz0 hz1 hz2 rfl (by decide) u5 k _ (by rfl) ((hown.alloc _).drew)
              ⟨wr.heap.size, 0, none⟩ 1 1 [bv S] (by rfl) (by rfl) (World.news_of_block (cs := #[bv S]) (t := 5) (fr := (0, 0)) (heap_alloc_new wr _)) (by simp [Value.oneCell'])
              (by omega) (by unfold maxLen; omega) (by omega) (by have := hb.size; simp; omega) (wr.heap.size + 1) (by simp) ?_; intro gg cap w1 hown1 hgrow hat hlt1))
      all_goals
        rw [← rs_snoc, ← hts.out] at hown1
        have hb1 : Below w.heap.size w w1 := ((hb.alloc hb.size _).drew).grown hgrow (by have := hb.size; simp; omega) (fun j hj => (hown.lt j hj).1)
        clear hown hb hgrow hat hlt1
        go_wp2
        go_roundw
        case rel => exact ⟨k + 1, by omega, hkn, by go_num, hown1, hb1⟩
        case measure => simp [intOf]; omega
    · have hke : (xr (el a) (el b)).length = k := by have := hkx.out; omega
      rw [List.take_of_length_le (by omega)] at hown
      obtain ⟨A', c', rfl, _, _⟩ := own_slice hown
      obtain ⟨hsl, hlen⟩ := IsSl.of_own hown
      have hconv := conv_sl (P := Try.prog) (dst := 9) Try.underlying43 Try.underlying5 Try.underlying9 hsl hke
      by_cases hka : k < a.size
      · have d1 : decide ((k : Int) < (a.size : Int)) = true := decide_eq_true (by omega)
        have d2 : decide ((k : Int) < (b.size : Int)) = false := decide_eq_false (by have := hxl.out; omega)
        have d3 : decide (k < a.size) = true := decide_eq_true (by omega)
        have d4 : decide (k < b.size) = false := decide_eq_false (by have := hxl.out; omega)
        clear hown hsl hlen hke hlt hka
        go_wp2
        go_ret
        exact ⟨rfl, hb⟩
      · have d1 : decide ((k : Int) < (a.size : Int)) = false := decide_eq_false (by omega)
        have d3 : decide (k < a.size) = false := decide_eq_false (by omega)
        clear hown hsl hlen hke hlt hka
        go_wp2
        go_ret
        exact ⟨rfl, hb⟩

end Go.Proofs.Ytcakdhnlgeiodaa.G7
