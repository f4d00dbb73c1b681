/- The contracts of the landed functions of layer 6: size, Trim, Eval. -/
import Derived.Test.YtcakdhnlgeiodaaG6At
import Derived.Test.YtcakdhnlgeiodaaG5OwnMul
namespace Go.Proofs.Ytcakdhnlgeiodaa.G6
set_option maxRecDepth 100000
open Go.Proofs.Ytcakdhnlgeiodaa.G5
open Go.RowKit Mem
set_option linter.unusedVariables false
set_option linter.unusedSimpArgs false

set_option maxHeartbeats 1000000 in
theorem size_own {A : Option Addr} {c : Nat} {l : List R} {w : World} (h : IsSl w A c l) (hl : l.length ≤ 1000000) :
    Calls Try.prog 48 #[.slice A l.length c] w fun e w' => e = .returned (.int .i64 ((trim l).length : Int)) ∧ w = w' := by
  have hsh := Lib.hid h
  clear h
  go_enter Try.func48, Try.ntmps48
  go_wp2
  go_loop [3, 7] (fun n i => ∃ k m : Nat, k ≤ l.length ∧ i = .int .i64 k ∧ n = .int .i64 m ∧ m ≤ k ∧ Hid ((trim (l.take k)).length = m)) (fun _ i => l.length - (intOf i).toNat)
  case atStart => exact ⟨0, 0, Nat.zero_le _, rfl, rfl, Nat.le_refl _, Lib.hid rfl⟩
  case round =>
    obtain ⟨k, m, hk, rfl, rfl, hmk, hm⟩ := hrel
    by_cases hlt : k < l.length
    · obtain ⟨b, o, rfl, hb, hc⟩ := hsh.out.read k hlt
      have hts := take_snoc l k hlt
      obtain ⟨X, hX⟩ : ∃ X, l.getD k 0 = X := ⟨_, rfl⟩
      rw [hX] at hc hts
      have hi : (k : Int) < (l.length : Int) := by omega
      rcases hz : (X == 0#8) with _ | _
      · have t1 : ((X.toNat : Int) != 0) = true := by rw [nz_el, hz]; rfl
        have hm2 := Lib.hid (show (trim (l.take (k + 1))).length = k + 1 by rw [hts, trim_snoc (by simpa using hz)]; simp; omega)
        clear hz hX hts
        go_wp2
        go_round
        case rel => exact ⟨k + 1, k + 1, by omega, by go_num, by go_num, Nat.le_refl _, hm2⟩
        case measure => simp [intOf]; omega
      · have t1 : ((X.toNat : Int) != 0) = false := by rw [nz_el, hz]; rfl
        have hm2 := Lib.hid (show (trim (l.take (k + 1))).length = m by rw [hts, show X = 0 by simpa using hz, trim_snoc0]; exact hm.out)
        clear hz hX hts
        go_wp2
        go_round
        case rel => exact ⟨k + 1, m, by omega, by go_num, rfl, by omega, hm2⟩
        case measure => simp [intOf]; omega
    · have hfin := Lib.hid (show (trim l).length = m by rw [← hm.out, List.take_of_length_le (by omega)])
      have hi : ¬ (k : Int) < (l.length : Int) := by omega
      go_wp2
      go_ret
      exact ⟨by rw [hfin.out]; rfl, rfl⟩

set_option maxHeartbeats 1000000 in
theorem trim_row {A : Option Addr} {c : Nat} {l : List R} {w : World} (h : IsSl w A c l) (hl : l.length ≤ 1000) :
    Calls Try.prog 49 #[.slice A l.length c] w fun e w' => e = .returned (.slice (some ⟨w.heap.size, 0, none⟩) (trim l).length (trim l).length) ∧ VAt w' w.heap.size (rs (trim l)) ∧ w.heap.size < w'.heap.size ∧ Below w.heap.size w w' := by
  have hsh := Lib.hid h
  have cc := size_own h (by omega)
  have hnl := trim_len l
  obtain ⟨n, hn⟩ : ∃ n, (trim l).length = n := ⟨_, rfl⟩
  rw [hn] at cc hnl
  have hnh := Lib.hid hn
  have cc := Lib.hid cc
  have hmk := make_zeros w n (by omega)
  clear h hn
  go_enter Try.func49, Try.ntmps49
  go_wp2_with fail
  refine cc.out.mono ?_
  rintro e w1 ⟨rfl, rfl⟩
  have hn1000 : n ≤ 1000000 := by omega
  go_wp2_with (with_reducible refine wpList_copy_made rfl (.tmp 7) (.tmp 8) rfl n A _ c l rfl rfl rfl hsh.out hn1000 ?_)
  intro w1 v hcp
  clear hmk
  go_wp2
  go_ret
  have e : l.take n ++ List.replicate (n - l.length) 0#8 = trim l := by
    rw [← hnh.out, trim_take, show (trim l).length - l.length = 0 by have := trim_len l; omega]
    simp
  have hat := hcp.row
  rw [e] at hat
  exact ⟨by rw [hnh.out]; rfl, hat, hcp.lt, hcp.below⟩

theorem trim_own {A : Option Addr} {c : Nat} {l : List R} {w : World} (h : IsSl w A c l) (hl : l.length ≤ 1000) :
    Calls Try.prog 49 #[.slice A l.length c] w (Gives w (trim l)) :=
  (trim_row h hl).mono fun e w' ⟨h1, h2, h3, h4⟩ => ⟨_, _, h1, IsSl.of_at h2 rfl (by have := trim_len l; omega) h3, h4⟩

theorem ev_drop (l : List R) (J : Nat) (h : J < l.length) (x : R) : ev (l.drop J) x = l.getD J 0 ^^^ tms x (ev (l.drop (J + 1)) x) := by
  rw [List.drop_eq_getElem_cons h, ev_cons]
  simp [List.getD_eq_getElem?_getD, List.getElem?_eq_getElem h]

set_option maxHeartbeats 1000000 in
theorem eval_own {A : Option Addr} {c : Nat} {l : List R} {w : World} (x : R) (h : IsSl w A c l) (hl : l.length ≤ 1000) :
    Calls Try.prog 25 #[.slice A l.length c, bv x] w fun e w' => e = .returned (bv (ev l x)) ∧ ∃ n, w' = w.drewN n := by
  have hsh := Lib.hid h
  clear h
  obtain ⟨nl, hnl⟩ : ∃ nl, l.length = nl := ⟨_, rfl⟩
  rw [hnl] at hl ⊢
  have hnlh := Lib.hid hnl
  clear hnl
  go_enter Try.func25, Try.ntmps25
  go_wp2
  go_loopw [5, 9] (fun s i wr => ∃ (k : Nat) (S : R), k ≤ nl ∧ i = .int .i64 k ∧ s = bv S ∧ Hid (S = ev (l.drop (nl - k)) x) ∧ Hid (∃ n, wr = w.drewN n) ∧ Hid (IsSl wr A c l)) (fun _ i _ => nl - (intOf i).toNat)
  case atStart => exact ⟨0, 0, Nat.zero_le _, rfl, rfl, Lib.hid (by rw [List.drop_of_length_le (by have := hnlh.out; omega)]; rfl), Lib.hid ⟨0, rfl⟩, hsh⟩
  case round =>
    obtain ⟨k, S, hk, rfl, rfl, hS, hw, hsl⟩ := hrel
    by_cases hlt : k < nl
    · obtain ⟨M, hM⟩ : ∃ M, nl = M + 1 := ⟨nl - 1, by omega⟩
      obtain ⟨J, hJ⟩ : ∃ J, M = J + k := ⟨M - k, by omega⟩
      have hJl : J < l.length := by have := hnlh.out; omega
      obtain ⟨b, o, rfl, hb, hc⟩ := hsl.out.read J hJl
      have he := ev_drop l J hJl x
      rw [show J + 1 = nl - k by omega, ← hS.out] at he
      obtain ⟨X, hX⟩ : ∃ X, l.getD J 0 = X := ⟨_, rfl⟩
      rw [hX] at hc he
      have cM := fun W => (mul_own S x W).mono fun _ _ ⟨a, b⟩ => And.intro a b.symm
      obtain ⟨T, hT⟩ : ∃ T, tms S x = T := ⟨_, rfl⟩
      rw [tms_comm x S, hT, BitVec.xor_comm] at he
      rw [hT] at cM
      have cA := fun W => (add_own T X W).mono fun _ _ ⟨a, b⟩ => And.intro a b.symm
      obtain ⟨U, hU⟩ : ∃ U, T ^^^ X = U := ⟨_, rfl⟩
      rw [hU] at cA he
      have hU2 : Hid (U = ev (l.drop (nl - (k + 1))) x) := Lib.hid (by rw [← he]; congr 2; omega)
      have cA := Lib.hid cA
      have cM := Lib.hid cM
      have e1 : (nl : Int) - 1 = (M : Int) := by omega
      have e2 : (M : Int) - (k : Int) = (J : Int) := by omega
      have i0 : (k : Int) < (nl : Int) := by omega
      have i1 : (0 : Int) ≤ (J : Int) := by omega
      have i2 : (J : Int) < (nl : Int) := by omega
      have hM1000 : M ≤ 1000 := by omega
      clear hM hJ hJl hX hT hU he
      go_wp2
      go_quiet ((first | (go_at_call 40; exact Calls.quiet_of_same (cM.out _)) | (go_at_call 36; exact Calls.quiet_of_same (cA.out _))))
      rename_i nq _
      go_wp2
      go_roundw
      case rel => exact ⟨k + 1, U, by omega, by go_num, rfl, hU2, Lib.hid (by obtain ⟨n0, e⟩ := hw.out; exact ⟨n0 + nq, by rw [e, World.drewN_drewN]⟩), Lib.hid (hsl.out.drewN nq)⟩
      case measure => simp [intOf]; omega
    · have hfin := Lib.hid (show S = ev l x by rw [hS.out, show nl - k = 0 by omega]; rfl)
      have i0 : ¬ (k : Int) < (nl : Int) := by omega
      go_wp2
      go_ret
      exact ⟨by rw [hfin.out]; rfl, hw.out⟩
end Go.Proofs.Ytcakdhnlgeiodaa.G6
