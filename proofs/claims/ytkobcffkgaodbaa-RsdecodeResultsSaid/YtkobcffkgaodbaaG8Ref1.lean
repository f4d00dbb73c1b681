/- The contracts of the reference's Locate, Radius, Same. -/
import Derived.Test.YtkobcffkgaodbaaG8Dev
import Derived.Laws.AppendOwn
namespace Go.Proofs.Ytkobcffkgaodbaa.G8
open Go.Proofs.Ytkobcffkgaodbaa.G5
open Go.Proofs.Ytkobcffkgaodbaa.G7
open Go.RowKit Mem
set_option linter.unusedVariables false
set_option linter.unusedSimpArgs false

set_option maxRecDepth 100000 in
set_option maxHeartbeats 2000000 in
theorem rloc_any (a b : ByteArray) (w : World) (ha : a.size ≤ 1000) (hb0 : b.size ≤ 1000) : Calls Try.prog 17 #[.string a, .string b] w (Loc (el a) (el b) w) := by
  by_cases hl : a.size = b.size
  · obtain ⟨j0, hj, hy0, hy1, hy2⟩ := info_parts info_int
    obtain ⟨N, hN⟩ : ∃ N, a.size = N := ⟨_, rfl⟩
    have t1 : ((a.size : Int) != (b.size : Int)) = false := by rw [hl]; simp
    have hNh := Lib.hid hN
    have hlh := Lib.hid hl
    have hN1 : N ≤ 1000 := by omega
    have t2 : (a.size != b.size) = false := by rw [hl]; simp
    clear hl hN
    go_enter Try.func17, Try.ntmps17
    go_wp2
    go_loopw [6, 7] (fun v x wr => ∃ k n : Nat, k ≤ N ∧ n ≤ k ∧ x = .int .i64 k ∧ wr.ownsRow w.heap.size 3 1 v n (is (lk (el a) (el b) k)) ∧ Below w.heap.size w wr) (fun _ x _ => N - (intOf x).toNat)
    case atStart => exact ⟨0, 0, Nat.zero_le _, Nat.le_refl _, rfl, World.ownsRow_nil _ _ _ _, Below.refl _ _⟩
    case round =>
      obtain ⟨k, n, hk, hnk, rfl, hown, hb⟩ := hrel
      by_cases hlt : k < N
      · have hka : k < a.size := by have := hNh.out; omega
        have hkb : k < b.size := by have := hNh.out; have := hlh.out; omega
        obtain ⟨X, hX⟩ : ∃ X, (el a).getD k 0 = X := ⟨_, rfl⟩
        obtain ⟨Y, hY⟩ : ∃ Y, (el b).getD k 0 = Y := ⟨_, rfl⟩
        have hbx := byte_val a k hka X hX
        have hby := byte_val b k hkb Y hY
        have hdf : differ (el a) (el b) k = !(X == Y) := by unfold differ; rw [hX, hY]
        have d1 : decide (k < a.size) = true := decide_eq_true hka
        have i1 : (0 : Int) ≤ (k : Int) := by omega
        have i2 : (k : Int) < (a.size : Int) := by omega
        have i3 : (k : Int) < (b.size : Int) := by omega
        rcases he : X == Y with _ | _
        · have ht : ((X.toNat : Int) != (Y.toNat : Int)) = true := by rw [bne, bv_eq1, he]; rfl
          have hs := Lib.hid (lk_yes (a := el a) (b := el b) (k := k) (by rw [hdf, he]; rfl))
          clear hX hY he hdf
          go_wp2
          go_quiet (fail)
          rename_i nq _
          have hown := (show (wr.drewN nq).ownsRow _ _ _ _ _ _ from hown)
          have hb := chainN hb nq
          obtain ⟨W, hW⟩ : ∃ W, wr.drewN nq = W := ⟨_, rfl⟩
          rw [hW] at hown hb ⊢
          clear hW
          go_wp2_with (at_builtin; refine wpList_append_own _ rfl _ _ 22 rfl w.heap.size 3 j0 (.int .i64 0) 1 8 Try.underlying22 hj hy0 hy1 hy2 rfl (by decide) _ _ _ rfl (hown.alloc _) ⟨W.heap.size, 0, none⟩ 1 1 [.int .i64 (k : Int)] rfl rfl (one_new _ _ _) (one_cell _ _) ?d3 ?d4 ?d5 ?_)
          case d3 => unfold maxLen; omega
          case d4 => omega
          case d5 => have := hb.size; simp; omega
          intro v' w2 hown2 hgr _
          rw [show [Value.int .i64 (k : Int)] = is [(k : Int)] from rfl, ← is_append, ← hs.out] at hown2
          have hb2 := (hb.alloc hb.size _).grown hgr (by have := hb.size; simp; omega) (fun j hj => (hown.lt j hj).1)
          clear hown hgr hb
          go_wp2
          go_roundw
          case rel => exact ⟨k + 1, n + 1, by omega, by omega, by go_num, hown2, hb2⟩
          case measure => simp [intOf]; omega
        · have ht : ((X.toNat : Int) != (Y.toNat : Int)) = false := by rw [bne, bv_eq1, he]; rfl
          have hs := Lib.hid (lk_no (a := el a) (b := el b) (k := k) (by rw [hdf, he]; rfl))
          clear hX hY he hdf
          go_wp2
          go_quiet (fail)
          rename_i nq _
          have hown := (show (wr.drewN nq).ownsRow _ _ _ _ _ _ from hown)
          rw [← hs.out] at hown
          have hb := chainN hb nq
          go_wp2
          go_roundw
          case rel => exact ⟨k + 1, n, by omega, by omega, by go_num, hown, hb⟩
          case measure => simp [intOf]; omega
      · have hke : k = (el a).length := by rw [el_len, hNh.out]; omega
        have d1 : decide (k < a.size) = false := decide_eq_false (by have := hNh.out; omega)
        obtain ⟨A', c', rfl, _, _⟩ := own_slice hown
        have hfit := lk_fit (el a) (el b) k (by omega)
        obtain ⟨hsl, hlen⟩ := IsInts.of_own hown hfit
        have hsl := Lib.hid hsl
        have hlen := Lib.hid hlen
        have hq : Hid (LocQ (el a) (el b) (lk (el a) (el b) k) 0) := Lib.hid ⟨fun h => absurd (by rw [el_len, el_len]; exact hlh.out) h, fun _ => ⟨by rw [locL_lk, hke], rfl⟩⟩
        clear hown hfit hke
        go_wp2
        go_ret2
        exact ⟨A', n, c', _, 0, hq.out, hlen.out, rfl, hsl.out, hb⟩
  · have t1 : ((a.size : Int) != (b.size : Int)) = true := by
      rw [bne_iff_ne]
      omega
    have t2 : (a.size != b.size) = true := by rw [bne_iff_ne]; exact hl
    have hlh := Lib.hid hl
    clear hl
    go_enter Try.func17, Try.ntmps17
    go_wp2
    go_ret2
    exact ⟨none, 0, 0, [], 1, ⟨fun _ => ⟨rfl, rfl⟩, fun h => absurd (by rw [← el_len, ← el_len]; exact h) hlh.out⟩, rfl, rfl, IsInts.no _, Below.refl _ _⟩
end Go.Proofs.Ytkobcffkgaodbaa.G8
