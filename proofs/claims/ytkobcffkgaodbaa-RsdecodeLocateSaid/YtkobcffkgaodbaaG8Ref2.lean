/- The contracts of the reference's Radius, Same; the walk of the law RsdecodeLocate. -/
import Derived.Test.YtkobcffkgaodbaaG8Ref1
import Derived.Test.YtkobcffkgaodbaaG8Law1
namespace Go.Proofs.Ytkobcffkgaodbaa.G8
open Go.Proofs.Ytkobcffkgaodbaa.G5
open Go.Proofs.Ytkobcffkgaodbaa.G7
open Go.RowKit Mem
set_option linter.unusedVariables false
set_option linter.unusedSimpArgs false

theorem rrad_any (p e s : Int) (w : World) : Calls Try.prog 20 #[.int .i64 p, .int .i64 e, .int .i64 s] w fun o w' => o = .returned (.bool (radB p e s)) ∧ w = w' := by
  by_cases h1 : p < 1
  · have d1 : decide (p < 1) = true := decide_eq_true h1
    have hr : radB p e s = false := decide_eq_false (by omega)
    go_enter Try.func20, Try.ntmps20
    go_wp2
    go_ret
    first | exact ⟨rfl, rfl⟩ | exact ⟨by rw [hr]; rfl, rfl⟩
  have d1 : decide (p < 1) = false := decide_eq_false h1
  by_cases h2 : 64 < p
  · have d2 : decide (64 < p) = true := decide_eq_true h2
    have hr : radB p e s = false := decide_eq_false (by omega)
    go_enter Try.func20, Try.ntmps20
    go_wp2
    go_ret
    first | exact ⟨rfl, rfl⟩ | exact ⟨by rw [hr]; rfl, rfl⟩
  have d2 : decide (64 < p) = false := decide_eq_false h2
  by_cases h3 : e < 0
  · have d3 : decide (e < 0) = true := decide_eq_true h3
    have hr : radB p e s = false := decide_eq_false (by omega)
    go_enter Try.func20, Try.ntmps20
    go_wp2
    go_ret
    first | exact ⟨rfl, rfl⟩ | exact ⟨by rw [hr]; rfl, rfl⟩
  have d3 : decide (e < 0) = false := decide_eq_false h3
  by_cases h4 : s < 0
  · have d4 : decide (s < 0) = true := decide_eq_true h4
    have hr : radB p e s = false := decide_eq_false (by omega)
    go_enter Try.func20, Try.ntmps20
    go_wp2
    go_ret
    first | exact ⟨rfl, rfl⟩ | exact ⟨by rw [hr]; rfl, rfl⟩
  have d4 : decide (s < 0) = false := decide_eq_false h4
  by_cases h5 : 64 < e
  · have d5 : decide (64 < e) = true := decide_eq_true h5
    have hr : radB p e s = false := decide_eq_false (by omega)
    go_enter Try.func20, Try.ntmps20
    go_wp2
    go_ret
    first | exact ⟨rfl, rfl⟩ | exact ⟨by rw [hr]; rfl, rfl⟩
  have d5 : decide (64 < e) = false := decide_eq_false h5
  by_cases h6 : 64 < s
  · have d6 : decide (64 < s) = true := decide_eq_true h6
    have hr : radB p e s = false := decide_eq_false (by omega)
    go_enter Try.func20, Try.ntmps20
    go_wp2
    go_ret
    first | exact ⟨rfl, rfl⟩ | exact ⟨by rw [hr]; rfl, rfl⟩
  have d6 : decide (64 < s) = false := decide_eq_false h6
  have hr : radB p e s = decide (2 * e + s ≤ p) := decide_eq_decide.2 ⟨fun h => by omega, fun h => by omega⟩
  have b1 : 0 ≤ e := by omega
  have b2 : e ≤ 64 := by omega
  have b3 : 0 ≤ s := by omega
  have b4 : s ≤ 64 := by omega
  rw [hr]
  clear hr
  go_enter Try.func20, Try.ntmps20
  go_wp2
  go_ret
  exact ⟨rfl, rfl⟩

set_option maxHeartbeats 1000000 in
theorem same_any {A B : Option Addr} {n c d : Nat} {l : List Int} {w : World} (h : IsInts w A c l) (k : IsInts w B d l) (hl : l.length = n) (hn : n ≤ 100000) :
    Calls Try.prog 18 #[.slice A n c, .slice B n d] w fun e w' => e = .returned (.bool true) ∧ ∃ m, w' = w.drewN m := by
  have hh := Lib.hid h
  have hkk := Lib.hid k
  have hlh := Lib.hid hl
  clear h k hl
  go_enter Try.func18, Try.ntmps18
  go_wp2
  go_loopw [5] (fun x wr => ∃ k m : Nat, k ≤ n ∧ x = .int .i64 k ∧ Hid (wr = w.drewN m)) (fun x _ => n - (intOf x).toNat)
  case atStart => exact ⟨0, 0, Nat.zero_le _, rfl, Lib.hid rfl⟩
  case round =>
    obtain ⟨k, m, hk, rfl, hw⟩ := hrel
    have hbw : Below w.heap.size w wr := by rw [hw.out]; exact chainN (Below.refl _ _) m
    by_cases hlt : k < n
    · obtain ⟨b1, o1, rfl, hb1, hc1⟩ := (hh.out.below hbw).read k (by rw [hlh.out]; exact hlt)
      obtain ⟨b2, o2, rfl, hb2, hc2⟩ := (hkk.out.below hbw).read k (by rw [hlh.out]; exact hlt)
      obtain ⟨z, hz⟩ : ∃ z, l.getD k 0 = z := ⟨_, rfl⟩
      rw [hz] at hc1 hc2
      have k0 : (0 : Int) ≤ (k : Int) := by omega
      have k1 : (k : Int) < (n : Int) := by omega
      have d1 : decide (k < n) = true := decide_eq_true hlt
      clear hz hbw
      go_wp2
      go_quiet (fail)
      rename_i nq _
      go_wp2
      go_roundw
      case rel => exact ⟨k + 1, m + nq, by omega, by go_num, Lib.hid (by rw [hw.out]; exact World.drewN_drewN _ _ _)⟩
      case measure => simp [intOf]; omega
    · have d1 : decide (k < n) = false := decide_eq_false hlt
      have k1 : ¬ (k : Int) < (n : Int) := by omega
      go_wp2
      go_ret
      exact ⟨rfl, m, hw.out⟩
theorem LocQ.only {a b : List R} {l l' : List Int} {k k' : Int} (h : LocQ a b l k) (h' : LocQ a b l' k') : l = l' ∧ k = k' := by
  by_cases e : a.length = b.length
  · obtain ⟨rfl, rfl⟩ := h.2 e
    obtain ⟨rfl, rfl⟩ := h'.2 e
    exact ⟨rfl, rfl⟩
  · obtain ⟨rfl, rfl⟩ := h.1 e
    obtain ⟨rfl, rfl⟩ := h'.1 e
    exact ⟨rfl, rfl⟩
theorem LocQ.len {a b : List R} {l : List Int} {k : Int} (h : LocQ a b l k) : l.length ≤ a.length := by
  by_cases e : a.length = b.length
  · obtain ⟨rfl, rfl⟩ := h.2 e
    rw [locL_lk]
    exact lk_len a b a.length
  · obtain ⟨rfl, rfl⟩ := h.1 e
    exact Nat.zero_le _

set_option maxHeartbeats 2000000 in
theorem walk_locate (D : Dev) (a b : ByteArray) (p e s : Int) (w : World) (ha : a.size ≤ 140737488351232) (hb : b.size ≤ 140737488351232) (hp : (Lit.int .i64 p).wf = true) (he : (Lit.int .i64 e).wf = true) (hs : (Lit.int .i64 s).wf = true) :
    Calls Try.prog 8 #[.string a, .string b, .int .i64 p, .int .i64 e, .int .i64 s] w fun e w' => e = .returned (.bool true) ∧ Below w.heap.size w w' := by
  have cA := Lib.hid (alive_any D w)
  by_cases h1 : a.size ≤ 300
  · have d1 : decide ((300 : Int) < (a.size : Int)) = false := decide_eq_false (by omega)
    have d1' : decide (300 < a.size) = false := decide_eq_false (by omega)
    by_cases h2 : b.size ≤ 300
    · have d2 : decide ((300 : Int) < (b.size : Int)) = false := decide_eq_false (by omega)
      have d2' : decide (300 < b.size) = false := decide_eq_false (by omega)
      have c1 := Lib.hid (fun W => D.locate a b W (by omega) (by omega))
      have c2 := Lib.hid (fun W => rloc_any a b W (by omega) (by omega))
      have c3 := Lib.hid (fun W => D.radius p e s W hp he hs)
      have c4 := Lib.hid (fun W => rrad_any p e s W)
      clear hp he hs
      go_enter Try.func8, Try.ntmps8
      go_wp2_with fail
      refine cA.out.mono ?_
      rintro e1 w1 ⟨rfl, hB⟩
      go_wp2_with fail
      refine (c1.out _).mono ?_
      rintro e1 w2 ⟨A1, n1, d1, l1, k1, q1, hl1, rfl, s1, hb1⟩
      have hB := chain hB hb1
      have s1 := Lib.hid s1
      have q1 := Lib.hid q1
      have hl1 := Lib.hid hl1
      clear hb1
      go_wp2_with fail
      refine (c2.out _).mono ?_
      rintro e1 w3 ⟨A2, n2, d2, l2, k2, q2, hl2, rfl, s2, hb1⟩
      obtain ⟨rfl, rfl⟩ := q1.out.only q2
      obtain rfl : n1 = n2 := by rw [← hl1.out, ← hl2]
      have hB := chain hB hb1
      have s1 := Lib.hid (s1.out.below hb1)
      have hlen := q2.len
      have cS := Lib.hid (same_any s1.out s2 hl1.out (by rw [← hl1.out]; rw [el_len] at hlen; omega))
      clear hb1 q2 hl2 s2 hlen
      go_wp2_with fail
      refine cS.out.mono ?_
      rintro e1 w4 ⟨rfl, m, rfl⟩
      have hB := chainN hB m
      obtain ⟨B, hBB⟩ : ∃ B, radB p e s = B := ⟨_, rfl⟩
      rw [hBB] at c3 c4
      clear hBB
      go_wp2_with fail
      refine (c3.out _).mono ?_
      rintro e1 w5 ⟨rfl, hb1⟩
      go_wp2_with fail
      refine (c4.out _).mono ?_
      rintro e1 w6 ⟨rfl, rfl⟩
      go_wp2
      go_ret
      exact ⟨rfl, chain hB hb1⟩
    · have d2 : decide ((300 : Int) < (b.size : Int)) = true := decide_eq_true (by omega)
      have d2' : decide (300 < b.size) = true := decide_eq_true (by omega)
      go_enter Try.func8, Try.ntmps8
      go_wp2_with fail
      refine cA.out.mono ?_
      rintro e1 w1 ⟨rfl, hB⟩
      go_wp2
      go_ret
      exact ⟨rfl, hB⟩
  · have d1 : decide ((300 : Int) < (a.size : Int)) = true := decide_eq_true (by omega)
    have d1' : decide (300 < a.size) = true := decide_eq_true (by omega)
    go_enter Try.func8, Try.ntmps8
    go_wp2_with fail
    refine cA.out.mono ?_
    rintro e1 w1 ⟨rfl, hB⟩
    go_wp2
    go_ret
    exact ⟨rfl, hB⟩
end Go.Proofs.Ytkobcffkgaodbaa.G8
