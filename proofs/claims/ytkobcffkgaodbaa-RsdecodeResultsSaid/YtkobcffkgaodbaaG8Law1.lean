/- The walks of the laws RsdecodeResults, RsdecodeCodeword, under the package's contracts. -/
import Derived.Test.YtkobcffkgaodbaaG8Dev
import Derived.Laws.AppendOwn
namespace Go.Proofs.Ytkobcffkgaodbaa.G8
open Go.Proofs.Ytkobcffkgaodbaa.G5
open Go.Proofs.Ytkobcffkgaodbaa.G7
open Go.Proofs.Ytkobcffkgaodbaa.G6 (rs rs_len rs_get IsSl conv_sl mb VAt.setR VAt.readR getD_set)
open Go.RowKit Mem
set_option linter.unusedVariables false
set_option linter.unusedSimpArgs false

theorem u8_nat {a : Int} (h : (Lit.int .u8 a).wf = true) : ∃ q : Nat, q ≤ 255 ∧ a = (q : Int) := by
  obtain ⟨h1, h2⟩ : 0 ≤ a ∧ a ≤ 255 := (Lit.wf_int_iff .u8 _).1 h
  exact ⟨a.toNat, by omega, by omega⟩
theorem i64_fit {a : Int} (h : (Lit.int .i64 a).wf = true) : -9223372036854775808 ≤ a ∧ a ≤ 9223372036854775807 := (Lit.wf_int_iff .i64 _).1 h
def smB (s : Nat) (p : Int) (n : Nat) : Bool := decide (s ≤ 60 ∧ p ≤ 16 ∧ n ≤ 40)
theorem small_any (s : ByteArray) (p : Int) (A : Option Addr) (n c : Nat) (w : World) :
    Calls Try.prog 10 #[.string s, .int .i64 p, .slice A n c] w fun e w' => e = .returned (.bool (smB s.size p n)) ∧ w = w' := by
  have hs : smB s.size p n = (decide (s.size ≤ 60) && (decide (p ≤ 16) && decide (n ≤ 40))) := by
    unfold smB
    rw [Bool.decide_and, Bool.decide_and]
  rw [hs]
  by_cases h1 : s.size ≤ 60
  · have d1 : decide ((s.size : Int) ≤ 60) = true := decide_eq_true (by omega)
    have d1' : decide (s.size ≤ 60) = true := decide_eq_true h1
    by_cases h2 : p ≤ 16
    · have d2 : decide (p ≤ 16) = true := decide_eq_true h2
      by_cases h3 : n ≤ 40
      · have d3 : decide ((n : Int) ≤ 40) = true := decide_eq_true (by omega)
        have d3' : decide (n ≤ 40) = true := decide_eq_true h3
        go_enter Try.func10, Try.ntmps10
        go_wp2
        go_ret
        exact ⟨by simp [d1', d2, d3'], rfl⟩
      · have d3 : decide ((n : Int) ≤ 40) = false := decide_eq_false (by omega)
        have d3' : decide (n ≤ 40) = false := decide_eq_false h3
        go_enter Try.func10, Try.ntmps10
        go_wp2
        go_ret
        exact ⟨by simp [d1', d2, d3'], rfl⟩
    · have d2 : decide (p ≤ 16) = false := decide_eq_false h2
      go_enter Try.func10, Try.ntmps10
      go_wp2
      go_ret
      exact ⟨by simp [d1', d2], rfl⟩
  · have d1 : decide ((s.size : Int) ≤ 60) = false := decide_eq_false (by omega)
    have d1' : decide (s.size ≤ 60) = false := decide_eq_false h1
    go_enter Try.func10, Try.ntmps10
    go_wp2
    go_ret
    exact ⟨by simp [d1'], rfl⟩

/-- The reference's Decode, for small arguments. -/
def RDec : Prop := ∀ {s : ByteArray} {p : Int} {zs : List Int} {A : Option Addr} {n c : Nat} {w : World}, IsInts w A c zs → zs.length = n → s.size ≤ 60 → n ≤ 40 → p ≤ 16 → -9223372036854775808 ≤ p → Calls Try.prog 12 #[.string s, .int .i64 p, .slice A n c] w (Deco (el s) p zs w)

set_option maxHeartbeats 1000000 in
theorem walk_results (D : Dev) (hR : RDec) (s : ByteArray) (p : Int) (a2 : Option Addr) (n2 c2 : Nat) (z2 : List Int) (w : World) (hs : s.size ≤ 140737488351232) (hp : (Lit.int .i64 p).wf = true) (hz : IsRow .i64 w a2 n2 c2 z2) :
    Calls Try.prog 3 #[.string s, .int .i64 p, .slice a2 n2 c2] w fun e w' => e = .returned (.bool true) ∧ Below w.heap.size w w' := by
  obtain ⟨zs, hzl, hzi⟩ := IsInts.of_row hz
  obtain ⟨p1, p2⟩ := i64_fit hp
  have cA := Lib.hid (alive_any D w)
  have cS := Lib.hid (fun W => small_any s p a2 n2 c2 W)
  have hzi := Lib.hid hzi
  have hzl := Lib.hid hzl
  clear hz hp
  go_enter Try.func3, Try.ntmps3
  go_wp2_with fail
  refine cA.out.mono ?_
  rintro e w1 ⟨rfl, hB⟩
  have hzi := Lib.hid (hzi.out.below hB)
  go_wp2_with fail
  refine (cS.out _).mono ?_
  rintro e w2 ⟨rfl, rfl⟩
  rcases hsm : smB s.size p n2 with _ | _
  · go_wp2
    go_ret
    exact ⟨rfl, hB⟩
  · obtain ⟨q1, q2, q3⟩ : s.size ≤ 60 ∧ p ≤ 16 ∧ n2 ≤ 40 := by
      unfold smB at hsm
      exact of_decide_eq_true hsm
    have cD := Lib.hid (D.decode hzi.out hzl.out q1 p1 q2)
    go_wp2_with fail
    refine cD.out.mono ?_
    rintro e w3 ⟨S, n, k, hq, rfl, hb⟩
    have hzi := Lib.hid (hzi.out.below hb)
    replace hB := chain hB hb
    have hq := Lib.hid hq
    clear hb cD
    have cR := Lib.hid (hR hzi.out hzl.out q1 q3 q2 p1)
    go_wp2_with fail
    refine cR.out.mono ?_
    rintro e w4 ⟨S', n', k', hq', rfl, hb⟩
    obtain ⟨rfl, rfl, rfl⟩ := hq.out.only hq'
    replace hB := chain hB hb
    clear hb cR hq hq'
    go_wp2
    go_ret
    exact ⟨rfl, hB⟩
end Go.Proofs.Ytkobcffkgaodbaa.G8
