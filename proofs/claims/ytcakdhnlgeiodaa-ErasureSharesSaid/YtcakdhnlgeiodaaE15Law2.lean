/- The walk of the law ErasureShares. -/
import Derived.Test.YtcakdhnlgeiodaaE15Awake
import Derived.Test.YtcakdhnlgeiodaaE15Own9
import Derived.Test.YtcakdhnlgeiodaaE15Ref6
import Derived.Test.YtcakdhnlgeiodaaE15Ref7
import Derived.Test.YtcakdhnlgeiodaaE15Open
namespace Go.Proofs.Ytcakdhnlgeiodaa.E15
set_option maxRecDepth 100000
open Go.RowKit Mem S14
open Go.Proofs.Ytcakdhnlgeiodaa.G5 Go.Proofs.Ytcakdhnlgeiodaa.G7
open Go.Proofs.Ytcakdhnlgeiodaa.G6 (IsSl rs rs_len rs_get rs_set rs_one rs_snoc make_zeros zeros_at own_zeros info_byte u8s conv_sl)
set_option linter.unusedVariables false
set_option linter.unusedSimpArgs false

theorem rst_len {l : List Rw} {d k : Int} {bl : List (List R)} (h : RstQ l d k bl) : bl.length ≤ 15 := by
  by_cases h0 : k = 0
  · rw [h.yes h0]
    have := err_zero (by rw [← h.err, h0])
    simp
    omega
  · rw [h.no h0]; exact Nat.zero_le _
set_option maxHeartbeats 8000000 in
theorem walk_shares (A : Option Addr) (n c : Nat) (l : List Rw) (d x : Int) (w : World) (h0 : IsShares w A n c l) (hd : -9223372036854775808 ≤ d ∧ d ≤ 9223372036854775807) (hx : -9223372036854775808 ≤ x ∧ x ≤ 9223372036854775807) :
    Calls Try.prog 4 #[.slice A n c, .int .i64 d, .int .i64 x] w fun e w' => e = .returned (.bool true) ∧ Below w.heap.size w w' := by
  have h := h0.raw
  have cA := fun W => awake_any W
  replace cA := Lib.hid cA
  by_cases hn : 16 < n
  · have t1 : decide (16 < (n : Int)) = true := decide_eq_true (by omega)
    replace cA := Lib.hid (cA.out w)
    clear h h0
    go_enter Try.func4, Try.ntmps4
    go_wp2_with fail
    refine (cA.out).mono ?_
    rintro e w1 ⟨rfl, hb1⟩
    replace hb1 := Lib.hid hb1
    clear cA
    go_wp2
    go_ret
    exact ⟨rfl, hb1.out⟩
  have t1 : decide (16 < (n : Int)) = false := decide_eq_false (by omega)
  have n16 : n ≤ 16 := by omega
  have hlen := h.len
  have hget := fun (k : Nat) (hk : k < l.length) => h.get hk
  have hyes : (∀ j (hj : j < l.length), l[j].2.length ≤ 40) → ∀ r ∈ l, r.2.length ≤ 1000000 := fun h r hr => by
    obtain ⟨j, hj, rfl⟩ := List.getElem_of_mem hr
    have := h j hj
    omega
  have c1 := fun (hs : ∀ r ∈ l, r.2.length ≤ 1000000) => restore_own d h (by omega) hs
  have c2 := fun (hs : ∀ r ∈ l, r.2.length ≤ 1000000) (W : World) (hb : Below w.heap.size w W) => rrestore_any d (h.below hb) (by omega) hs
  have c3 := fun (hs : ∀ r ∈ l, r.2.length ≤ 1000000) (W : World) (hb : Below w.heap.size w W) => eblock_own d x (h.below hb) (by omega) hs
  have c4 := fun (hs : ∀ r ∈ l, r.2.length ≤ 1000000) (W : World) (hb : Below w.heap.size w W) => rblock_any d x (h.below hb) (by omega) hs
  replace hlen := Lib.hid hlen
  replace hget := Lib.hid hget
  replace hyes := Lib.hid hyes
  replace c1 := Lib.hid c1
  replace c2 := Lib.hid c2
  replace c3 := Lib.hid c3
  replace c4 := Lib.hid c4
  clear h h0 hn
  go_enter Try.func4, Try.ntmps4
  go_wp2
  go_loop [22] (fun iv => ∃ (k : Nat), iv = .int .i64 (k : Int) ∧ k ≤ n ∧ Hid (∀ j (hj : j < l.length), j < k → l[j].2.length ≤ 40)) (fun iv => n - (intOf iv).toNat)
  case atStart => exact ⟨0, rfl, Nat.zero_le _, Lib.hid (fun j _ h => by omega)⟩
  case round =>
    obtain ⟨k, rfl, hk, hI⟩ := hrel
    by_cases hlt : k < n
    · have dk : decide ((k : Int) < (n : Int)) = true := decide_eq_true (by omega)
      have k0 : (0 : Int) ≤ (k : Int) := by omega
      have k1 : (k : Int) < (n : Int) := by omega
      have hkl : k < l.length := by have := hlen.out; omega
      obtain ⟨b, o, rfl, hbl, hc⟩ := hget.out k hkl
      obtain ⟨-, g1⟩ := hc
      have hs : l[k].2.length ≤ 40 → ∀ j (hj : j < l.length), j < k + 1 → l[j].2.length ≤ 40 := fun h j hj h1 => by
        by_cases e : j = k
        · subst e; exact h
        · exact hI.out j hj (by omega)
      obtain ⟨S, hS⟩ : ∃ S, str l[k].2 = S := ⟨_, rfl⟩
      have hz : S.size = l[k].2.length := by rw [← hS, size_str]
      rw [hS] at g1
      rw [← hz] at hs
      replace hs := Lib.hid hs
      clear hS hz hget hbl hI hyes c1 c2 c3 c4
      by_cases e : 40 < S.size
      · have q1 : decide (40 < (S.size : Int)) = true := decide_eq_true (by omega)
        replace cA := Lib.hid (cA.out w)
        clear hs e
        go_wp2_with fail
        refine (cA.out).mono ?_
        rintro e w1 ⟨rfl, hb1⟩
        replace hb1 := Lib.hid hb1
        clear cA
        go_wp2
        go_ret
        exact ⟨rfl, hb1.out⟩
      · have q1 : decide (40 < (S.size : Int)) = false := decide_eq_false (by omega)
        have hs2 := Lib.hid (hs.out (by omega))
        clear hs e cA
        go_wp2
        go_round
        case rel => exact ⟨k + 1, by go_num, by omega, hs2⟩
        case measure => simp [intOf]; omega
    · obtain rfl : k = n := by omega
      have dk : decide ((k : Int) < (k : Int)) = false := decide_eq_false (by omega)
      have hsm := hyes.out (fun j hj => hI.out j hj (by have := hlen.out; omega))
      replace c1 := Lib.hid (c1.out hsm)
      replace c2 := Lib.hid (c2.out hsm)
      replace c3 := Lib.hid (c3.out hsm)
      replace c4 := Lib.hid (c4.out hsm)
      clear hyes hget hI hsm
      go_wp2_with fail
      refine (c1.out).mono ?_
      rintro e w1 ⟨k1, b1, A1, m1, hq1, rfl, hB1, hb1⟩
      replace c2 := Lib.hid (c2.out w1 hb1)
      replace hq1 := Lib.hid hq1
      replace hB1 := Lib.hid hB1
      replace hb1 := Lib.hid hb1
      clear c1
      go_wp2_with fail
      refine (c2.out).mono ?_
      rintro e w2 ⟨k2, b2, A2, m2, hq2, rfl, hB2, hb2⟩
      obtain ⟨rfl, rfl⟩ := hq1.out.only hq2
      have hbl := rst_len hq2
      have hB3 := Lib.hid (hB1.out.below hb2)
      have hb3 := Lib.hid (chain hb1.out hb2)
      replace c3 := Lib.hid (c3.out w2 hb3.out)
      replace hB2 := Lib.hid hB2
      clear hq1 hq2 hB1 hb1 hb2 c2
      go_wp2_with fail
      refine (c3.out).mono ?_
      rintro e w3 ⟨k3, s3, hq3, rfl, hb4⟩
      have hb5 := Lib.hid (chain hb3.out hb4)
      replace c4 := Lib.hid (c4.out w3 hb5.out)
      have hB4 := Lib.hid (hB3.out.below hb4)
      have hB5 := Lib.hid (hB2.out.below hb4)
      replace hq3 := Lib.hid hq3
      clear hB3 hB2 hb3 hb4 c3
      go_wp2_with fail
      refine (c4.out).mono ?_
      rintro e w4 ⟨k4, s4, hq4, rfl, hb6⟩
      obtain ⟨rfl, rfl⟩ := hq3.out.only hq4
      have cSm := same_any (hB4.out.below hb6) (hB5.out.below hb6) (by omega) (by omega)
      have hb7 := Lib.hid (chain hb5.out hb6)
      obtain ⟨S, hS⟩ : ∃ S, str s3 = S := ⟨_, rfl⟩
      have q1 : (k1 == k1) = true := beq_self_eq_true k1
      have q2 : (k3 == k3) = true := beq_self_eq_true k3
      have q3 : (S.toList == S.toList) = true := by simp
      rw [hS]
      replace cSm := Lib.hid cSm
      clear hq3 hq4 hB4 hB5 hb5 hb6 c4 hS
      go_wp2_with fail
      refine (cSm.out).mono ?_
      rintro e w5 ⟨⟨q, rfl, hq⟩, nq, rfl⟩
      obtain rfl := hq.2 (by first | trivial | rfl)
      replace cA := Lib.hid (cA.out (w4.drewN nq))
      have hb8 := Lib.hid (chainB hb7.out nq)
      clear hq cSm hb7
      go_wp2_with fail
      refine (cA.out).mono ?_
      rintro e w6 ⟨rfl, hb9⟩
      have hfin := Lib.hid (hb8.out.trans (hb9.mono hb8.out.size))
      clear cA hb8 hb9
      go_wp2
      go_ret
      exact ⟨rfl, hfin.out⟩
end Go.Proofs.Ytcakdhnlgeiodaa.E15
