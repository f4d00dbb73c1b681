/- The contracts of the reference's ReadStrings, Same, Total and Strings. -/
import Derived.Test.YtjmnjcjpcmonjaaDoorN2Ref4
namespace Go.Proofs.YtjmnjcjpcmonjaaDoor.N2
open Go.RowKit Mem
set_option linter.unusedVariables false

theorem info_str : (Tryd.prog.info? 9).map (fun i => (i.zero, i.size, i.bytes)) = some (some (.string ByteArray.empty), 1, 16) := by kernel_rfl

def comb (xs : List (List UInt8)) (r : List (List UInt8) × Int) : List (List UInt8) × Int := if r.2 = 0 then (xs ++ r.1, 0) else ([], r.2)
theorem comb_comb (xs : List (List UInt8)) (x : List UInt8) (r : List (List UInt8) × Int) : comb xs (comb [x] r) = comb (xs ++ [x]) r := by
  unfold comb
  by_cases h : r.2 = 0
  · rw [if_pos h, if_pos rfl, if_pos h, List.append_assoc]
  · rw [if_neg h, if_neg h, if_neg h]
/-- What a call of ReadStrings leaves. -/
def RlPost (l : List UInt8) (w : World) (e : Ending) (w' : World) : Prop :=
  ∃ v : Value, e = .returned (.tuple #[v, .int .i64 (rdL l).2]) ∧ w'.ownsRow w.heap.size 9 1 v (rdL l).1.length (strVs (rdL l).1) ∧ Below w.heap.size w w'

theorem rl_of {l : List UInt8} {w w' : World} {v : Value} {xs : List (List UInt8)} {e : Int} (h : rdL l = (xs, e)) (hown : w'.ownsRow w.heap.size 9 1 v xs.length (strVs xs)) (hb : Below w.heap.size w w') : RlPost l w (.returned (.tuple #[v, .int .i64 e])) w' := by
  refine ⟨v, ?_, ?_, hb⟩
  · rw [h]
  · rw [h]; exact hown
theorem comb_nil (xs : List (List UInt8)) : comb xs ([], 0) = (xs, 0) := by simp [comb]
theorem comb_err (xs : List (List UInt8)) {e : Int} (h : e ≠ 0) : comb xs ([], e) = ([], e) := by simp [comb, h]
theorem rdLF_end {l : List UInt8} {f k : Nat} (h : l.length ≤ k) (hf : 0 < f) : rdLF l f k = ([], 0) := by
  cases f with
  | zero => omega
  | succ f => unfold rdLF; rw [if_pos h]
theorem rdLF_ok {l x : List UInt8} {f k n : Nat} (h : k < l.length) (hr : rdS l (k : Int) = (x, (n : Int), 0)) : rdLF l (f + 1) k = comb [x] (rdLF l f n) := by
  conv => lhs; unfold rdLF
  rw [if_neg (by omega), hr]
  simp only [Int.toNat_natCast, if_true]
  unfold comb
  rfl
theorem rdLF_err {l x : List UInt8} {f k : Nat} {y e : Int} (h : k < l.length) (hr : rdS l (k : Int) = (x, y, e)) (he : e ≠ 0) : rdLF l (f + 1) k = ([], e) := by
  conv => lhs; unfold rdLF
  rw [if_neg (by omega), hr, if_neg he]
theorem rdLF_nil (l : List UInt8) : ∀ f k : Nat, (rdLF l f k).2 ≠ 0 → (rdLF l f k).1 = []
  | 0, k, h => rfl
  | f + 1, k, h => by
    unfold rdLF at h ⊢
    by_cases h1 : l.length ≤ k
    · rw [if_pos h1]
    · rw [if_neg h1] at h ⊢
      by_cases h2 : (rdS l (k : Int)).2.2 = 0
      · rw [if_pos h2] at h ⊢
        by_cases h3 : (rdLF l f (rdS l (k : Int)).2.1.toNat).2 = 0
        · rw [if_pos h3] at h
          exact absurd rfl h
        · rw [if_neg h3]
      · rw [if_neg h2]
theorem comb_start (l : List UInt8) (f k : Nat) : comb [] (rdLF l f k) = rdLF l f k := by
  unfold comb
  by_cases h : (rdLF l f k).2 = 0
  · rw [if_pos h, List.nil_append, ← h]
  · rw [if_neg h, ← rdLF_nil l f k h]
/-- Where ReadString answers OK its index lies behind, and not behind the end. -/
theorem rdS_next {l x : List UInt8} {k : Nat} {y e : Int} (hk : k ≤ l.length) (hr : rdS l (k : Int) = (x, y, e)) : (e = 0 ∧ ∃ n : Nat, y = (n : Int) ∧ k < n ∧ n ≤ l.length ∧ x.length ≤ n) ∨ (e = 1 ∨ e = 3 ∨ e = 4) := by
  rcases posI_cases l k 58 with hp | ⟨p, hp, hkp, hps, _, _⟩
  · rw [rdS_short hk hp] at hr
    injection hr with _ hr
    injection hr with _ hr
    exact .inr (.inr (.inr hr.symm))
  · rw [rdS_at hk hp rfl] at hr
    obtain ⟨N, hN⟩ : ∃ N, dcv ((l.drop k).take (p - k)) = N := ⟨_, rfl⟩
    rw [hN] at hr
    by_cases h1 : dcok ((l.drop k).take (p - k)) = false
    · rw [if_pos h1] at hr
      injection hr with _ hr
      injection hr with _ hr
      exact .inr (.inr (.inl hr.symm))
    · rw [if_neg h1] at hr
      by_cases h2 : (l.length : Int) - (p : Int) - 1 ≤ (N : Int)
      · rw [if_pos h2] at hr
        injection hr with _ hr
        injection hr with _ hr
        exact .inr (.inr (.inr hr.symm))
      · rw [if_neg h2] at hr
        by_cases h3 : l[p + 1 + N]? ≠ some 44
        · rw [if_pos h3] at hr
          injection hr with _ hr
          injection hr with _ hr
          exact .inr (.inr (.inl hr.symm))
        · rw [if_neg h3] at hr
          injection hr with hx hr
          injection hr with hy hr
          refine .inl ⟨hr.symm, p + 2 + N, by rw [← hy]; simp, by omega, by omega, ?_⟩
          rw [← hx]
          exact Nat.le_trans (List.length_take_le _ _) (by omega)

set_option maxHeartbeats 2000000 in
theorem rreadStrings_any (s : ByteArray) (w : World) (hs : s.size ≤ 1000000) :
    Calls Tryd.prog 25 #[.string s] w (RlPost s.data.toList w) := by
  obtain ⟨i0, hi, hz0, hz1, hz2⟩ := info_parts info_str
  have hlen : s.data.toList.length = s.size := rfl
  have hlenh := Lib.hid hlen
  clear hlen
  go_enter Tryd.func25, Tryd.ntmps25
  go_wp2
  go_loopw [4, 5] (fun v i wr => ∃ (k f : Nat) (xs : List (List UInt8)), k ≤ s.size ∧ i = .int .i64 k ∧ xs.length ≤ k ∧ s.size < f + k ∧ Hid (rdL s.data.toList = comb xs (rdLF s.data.toList f k)) ∧
    wr.ownsRow w.heap.size 9 1 v xs.length (strVs xs) ∧ Below w.heap.size w wr) (fun _ i _ => s.size - (intOf i).toNat)
  case atStart => exact ⟨0, s.size + 1, [], Nat.zero_le _, rfl, Nat.le_refl _, by omega, Lib.hid (by unfold rdL; rw [hlenh.out, comb_start]), empty_at rfl (Nat.le_refl _), (Below.refl _ _).alloc (Nat.le_refl _) _⟩
  case round =>
    obtain ⟨k, f, xs, hk, rfl, hxs, hf, hR, hown, hb⟩ := hrel
    by_cases hlt : k < s.size
    · obtain ⟨x, y, e, hr⟩ : ∃ x y e, rdS s.data.toList (k : Int) = (x, y, e) := ⟨_, _, _, rfl⟩
      have hc := rreadString_any s (k : Int) wr hs (by omega) (by omega)
      unfold RsPost at hc
      rw [hr] at hc
      have hc := Lib.hid hc
      obtain ⟨f, rfl⟩ : ∃ g, f = g + 1 := ⟨f - 1, by omega⟩
      rcases rdS_next (by rw [hlenh.out]; exact hk) hr with ⟨rfl, n, rfl, hkn, hnl, hxl⟩ | he
      · rw [hlenh.out] at hnl
        have hR' := Lib.hid (hR.out.trans (by rw [rdLF_ok (by rw [hlenh.out]; exact hlt) hr, comb_comb]))
        have hsn := Lib.hid (strVs_snoc xs x)
        clear hr
        go_wp2_with fail
        refine hc.out.mono ?_
        rintro e w1 ⟨rfl, rfl⟩
        go_wp2_with (at_builtin; refine wpList_append_own _ rfl _ _ 22 rfl w.heap.size 9 i0 (.string ByteArray.empty) 1 16 Tryd.underlying22 hi hz0 hz1 hz2 rfl (by decide) _ _ _ rfl (hown.alloc _) ⟨wr.heap.size, 0, none⟩ 1 1 [strV x] rfl rfl (one_new _ _ _) (one_str _) ?c3 ?c4 ?c5 ?_)
        case c3 => unfold maxLen; omega
        case c4 => omega
        case c5 => have := hb.size; simp; omega
        intro v' w1 hown' hgrow _
        rw [← hsn.out] at hown'
        have hb' : Below w.heap.size w w1 := (hb.alloc hb.size _).grown hgrow (by have := hb.size; simp; omega) (fun j hj => (hown.lt j hj).1)
        clear hown hb hgrow
        go_wp2
        go_roundw
        case rel => exact ⟨n, f, xs ++ [x], hnl, rfl, by simp; omega, by omega, hR', by simpa using hown', hb'⟩
        case measure => simp [intOf]; omega
      · have hR' := Lib.hid (hR.out.trans (by rw [rdLF_err (by rw [hlenh.out]; exact hlt) hr (by omega), comb_err xs (by omega)]))
        clear hr
        rcases he with rfl | rfl | rfl
        all_goals
          go_wp2_with fail
          refine hc.out.mono ?_
          rintro e w1 ⟨rfl, rfl⟩
          go_wp2
          go_ret2
          exact rl_of hR'.out (empty_at rfl hb.size) (hb.alloc hb.size _)
    · have hR' := Lib.hid (hR.out.trans (by rw [rdLF_end (by rw [hlenh.out]; omega) (by omega), comb_nil]))
      go_wp2
      go_ret2
      exact rl_of hR'.out hown hb
end Go.Proofs.YtjmnjcjpcmonjaaDoor.N2
