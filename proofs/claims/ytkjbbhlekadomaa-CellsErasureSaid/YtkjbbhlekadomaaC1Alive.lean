/- The contracts of Same (two equal lists of indices) and of the chapter's examples ('alive'). -/
import Derived.Test.YtkjbbhlekadomaaC1From
import Derived.Test.YtkjbbhlekadomaaC1To
import Derived.Deep.Draws
namespace Go.Proofs.Ytkjbbhlekadomaa.C1
open Go.RowKit Mem

/-- The form of a row that owns something. -/
theorem own_form {w : World} {base e n : Nat} {v : Value} {xs : List Value} (h : w.ownsRow base e 1 v n xs) : ∃ A cap, v = .slice A n cap ∧ n ≤ cap ∧ cap ≤ maxLen ∧ (0 < n → ∃ g, A = some ⟨g, 0, none⟩ ∧ base ≤ g ∧ g < w.heap.size ∧ ∀ j, j < n → w.cell? ⟨g, j, none⟩ = xs[j]?) := by
  rcases h.2 with ⟨rfl, h0⟩ | ⟨g, cap, cur, rfl, hb, hh, hn, hm, hs, ht⟩
  · subst h0
    exact ⟨none, 0, rfl, Nat.le_refl _, by decide, fun hh => absurd hh (by decide)⟩
  · refine ⟨_, cap, rfl, hn, hm, fun _ => ⟨g, rfl, hb, (h.lt g rfl).2, fun j hj => ?_⟩⟩
    exact h.cellAt j (by omega)

theorem ofInt_eq {a b : Int} (h : a = b) : (a != b) = false := by simp [h]

set_option maxHeartbeats 1000000 in
theorem same_any (a b : Value) (l : List Nat) (ba bb : Nat) (w : World) (hl : l.length ≤ 1000000) (ha : w.ownsRow ba 3 1 a l.length (nats l)) (hb : w.ownsRow bb 3 1 b l.length (nats l)) :
    Calls Try.prog 22 #[a, b] w fun e w' => e = .returned (.bool true) ∧ ∃ n, w' = w.drewN n := by
  obtain ⟨A, ca, rfl, hca, hma, hA⟩ := own_form ha
  obtain ⟨B, cb, rfl, hcb, hmb, hB⟩ := own_form hb
  clear ha hb
  obtain ⟨n, hn⟩ : ∃ n, l.length = n := ⟨_, rfl⟩
  have hnh := Lib.hid hn
  rw [hn] at hl hca hcb hA hB
  simp only [hn]
  clear hn
  unfold maxLen at hma hmb
  have hAh := Lib.hid hA
  have hBh := Lib.hid hB
  clear hA hB
  go_enter Try.func22, Try.ntmps22
  go_wp2
  go_loopw [13] (fun i wr => ∃ k : Nat, k ≤ n ∧ i = .int .i64 k ∧ ∃ m, wr = w.drewN m) (fun i _ => n - (intOf i).toNat)
  case atStart => exact ⟨0, Nat.zero_le _, rfl, 0, rfl⟩
  case round =>
    obtain ⟨k, hk, rfl, m, rfl⟩ := hrel
    by_cases hlt : k < n
    · obtain ⟨g, rfl, _, _, hcg⟩ := hAh.out (by omega)
      obtain ⟨g', rfl, _, _, hcg'⟩ := hBh.out (by omega)
      have h1 := hcg k hlt
      have h2 := hcg' k hlt
      rw [nats_get l k (by have := hnh.out; omega)] at h1 h2
      obtain ⟨x, hx⟩ : ∃ x : Int, ((l[k]'(by have := hnh.out; omega) : Nat) : Int) = x := ⟨_, rfl⟩
      rw [hx] at h1 h2
      clear hcg hcg' hAh hBh hx
      have h1' : (w.drewN m).cell? ⟨g, k, none⟩ = some (.int .i64 x) := h1
      have h2' : (w.drewN m).cell? ⟨g', k, none⟩ = some (.int .i64 x) := h2
      have hI0 : (0 : Int) ≤ (k : Int) := by omega
      have hI1 : (k : Int) < (n : Int) := by omega
      go_wp2
      go_quiet (fail)
      go_wp2
      go_roundw
      case rel => exact ⟨k + 1, by omega, by go_num, _, rfl⟩
      case measure => simp [intOf]; omega
    · go_wp2
      go_ret
      exact ⟨rfl, m, rfl⟩

/-- The first example. -/
theorem alive_to (w : World) :
    Calls Try.prog 18 #[.string ⟨#[48, 49, 48, 48, 63, 48, 48, 49]⟩] w fun e w' =>
      ∃ g cap : Nat, e = .returned (.tuple #[.string ⟨#[65]⟩, .slice (some ⟨g, 0, none⟩) 1 cap, .int .i64 0]) ∧ g < w'.heap.size ∧ w'.cell? ⟨g, 0, none⟩ = some (.int .i64 0) ∧ Below w.heap.size w w' := by
  refine (toBytes_any ⟨#[48, 49, 48, 48, 63, 48, 48, 49]⟩ w (by decide)).mono ?_
  rintro e w' ⟨v, he, hown, hb⟩
  have hS : tbS [48, 49, 48, 48, 63, 48, 48, 49] = [65] := by decide +kernel
  have hL : tbL [48, 49, 48, 48, 63, 48, 48, 49] = [0] := by decide +kernel
  have hE : tbE [48, 49, 48, 48, 63, 48, 48, 49] = 0 := by decide +kernel
  rw [show (⟨#[48, 49, 48, 48, 63, 48, 48, 49]⟩ : ByteArray).data.toList = [48, 49, 48, 48, 63, 48, 48, 49] from rfl, hL] at hown
  rw [show (⟨#[48, 49, 48, 48, 63, 48, 48, 49]⟩ : ByteArray).data.toList = [48, 49, 48, 48, 63, 48, 48, 49] from rfl, hS, hE] at he
  obtain ⟨A, cap, rfl, _, _, hA⟩ := own_form hown
  obtain ⟨g, rfl, _, hg, hc⟩ := hA (by decide)
  exact ⟨g, cap, he, hg, hc 0 (by decide), hb⟩
theorem alive_dis (w : World) :
    Calls Try.prog 23 #[.string ⟨#[48, 49, 63]⟩, .string ⟨#[49, 48, 63]⟩] w fun e w' => e = .returned (.tuple #[.int .i64 2, .int .i64 0]) ∧ ∃ n, w' = w.drewN n := by
  refine (distance_any ⟨#[48, 49, 63]⟩ ⟨#[49, 48, 63]⟩ w (by decide) (by decide)).mono ?_
  rintro e w' ⟨he, hw⟩
  have hN : disN [48, 49, 63] [49, 48, 63] = 2 := by decide +kernel
  have hE : disE [48, 49, 63] [49, 48, 63] = 0 := by decide +kernel
  exact ⟨he.trans (ret_two hN hE), hw⟩
theorem alive_from (w : World) :
    Calls Try.prog 20 #[.string ⟨#[65]⟩] w fun e w' => e = .returned (.string ⟨#[48, 49, 48, 48, 48, 48, 48, 49]⟩) ∧ Below w.heap.size w w' := by
  refine (fromBytes_any ⟨#[65]⟩ w (by decide)).mono ?_
  rintro e w' ⟨he, hw⟩
  have hF : fromB [65] = [48, 49, 48, 48, 48, 48, 48, 49] := by decide +kernel
  exact ⟨he.trans (ret_string hF), hw⟩


set_option maxHeartbeats 1000000 in
theorem alive_any (w : World) : Calls Try.prog 11 #[] w fun e w' => e = .returned (.bool true) ∧ Below w.heap.size w w' := by
  go_enter Try.func11, Try.ntmps11
  go_wp2_with fail
  refine (alive_to _).mono ?_
  rintro e w1 ⟨g, cap, rfl, hg, hc, hb⟩
  go_wp2_with fail
  refine (alive_dis _).mono ?_
  rintro e w2 ⟨rfl, n, rfl⟩
  go_wp2_with fail
  refine (alive_from _).mono ?_
  rintro e w3 ⟨rfl, hb3⟩
  have hb' : Below w.heap.size w w3 := (chainN hb n).trans (hb3.mono hb.size)
  have hc3 : w3.cell? ⟨g, 0, none⟩ = some (.int .i64 0) := (hb3.cell (by exact hg)).trans hc
  clear hb hb3 hc
  go_wp2
  go_ret
  exact ⟨rfl, hb'⟩
end Go.Proofs.Ytkjbbhlekadomaa.C1
