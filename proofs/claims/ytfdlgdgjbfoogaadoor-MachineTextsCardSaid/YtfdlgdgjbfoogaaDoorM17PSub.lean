/- A chain of calls on the plain machine. No program is named here. -/
import Derived.Test.YtfdlgdgjbfoogaaDoorM17PAri
namespace Go.Proofs.YtfdlgdgjbfoogaaDoor.M17
set_option linter.unusedVariables false
set_option linter.unusedSimpArgs false

/-- The subroutine at 100. -/
def subC : List Nat := [57, 48, 48, 64, 49, 52, 48, 63, 57, 48, 48, 64, 49, 45, 57, 48, 48, 33, 49, 48, 48, 58, 52, 54, 46, 48, 32, 49, 52, 48, 63]
theorem sub_a (m : Nat → Nat) (p : Nat) (cs inp : List Nat) (out : List UInt8) : lin 900 [57, 48, 48, 64, 49, 52, 48] ⟨m, p, [], cs, false, inp, out⟩ = some ⟨m, p, [140, m 900], cs, true, inp, out⟩ := rfl
theorem sub_b (m : Nat → Nat) (p : Nat) (cs inp : List Nat) (out : List UInt8) : lin 900 [57, 48, 48, 64, 49, 45, 57, 48, 48, 33, 49, 48, 48] ⟨m, p, [], cs, false, inp, out⟩ = some ⟨upd m 900 ((m 900 + 4294967296 - 1) % 4294967296), p, [100], cs, true, inp, out⟩ := rfl
theorem sub_c (m : Nat → Nat) (p : Nat) (cs inp : List Nat) (out : List UInt8) : lin 900 [52, 54, 46, 48, 32, 49, 52, 48] ⟨m, p, [], cs, false, inp, out⟩ = some ⟨m, p, [140, 0], cs, true, inp, out ++ [46]⟩ := rfl
theorem exec_call {m : Nat → Nat} {p a : Nat} {r cs : List Nat} {dig : Bool} {inp : List Nat} {out : List UInt8} : exec 58 ⟨m, p, a :: r, cs, dig, inp, out⟩ = if 64 ≤ cs.length then .trap else .go ⟨m, a, r, p :: cs, false, inp, out⟩ := rfl
theorem exec_back {m : Nat → Nat} {p a : Nat} {ds cs : List Nat} {dig : Bool} {inp : List Nat} {out : List UInt8} : exec 59 ⟨m, p, ds, a :: cs, dig, inp, out⟩ = .go ⟨m, a, ds, cs, false, inp, out⟩ := rfl
/-- To the inner call. -/
theorem sub_down {m : Nat → Nat} {j : Nat} (hj : m 900 = j + 1) (hj2 : j + 1 < 4294967296) (hm : Has m 100 subC) (cs inp : List Nat) (out : List UInt8) :
    ∃ m', Goes 21 ⟨m, 100, [], cs, false, inp, out⟩ ⟨m', 121, [100], cs, true, inp, out⟩ ∧ (∀ i, i < 900 → m' i = m i) ∧ m' 900 = j := by
  obtain ⟨g, hk⟩ := lin_of (lo := 900) (by decide) _ (has_piece hm 0 _ rfl) (by decide) (sub_a m 100 cs inp out) 7 107 rfl rfl
  have hst : step ⟨m, 107, [140, m 900], cs, true, inp, out⟩ = .go ⟨m, 108, [], cs, false, inp, out⟩ := by
    rw [step_of (c := 63) (by decide) (hm 7 (by decide)), exec_jump rfl, hj, if_neg (Nat.succ_ne_zero j)]
  obtain ⟨g2, hk2⟩ := lin_of (lo := 900) (by decide) _ (has_piece hm 8 _ rfl) (by decide) (sub_b m 108 cs inp out) 13 121 rfl rfl
  refine ⟨_, (g.trans (Goes.one hst)).trans g2, hk2, ?_⟩
  show (if 900 = 900 then (m 900 + 4294967296 - 1) % 4294967296 else m 900) = j
  rw [if_pos rfl, hj]
  omega
theorem sub_run : ∀ (j : Nat) (m : Nat → Nat) (r : Nat) (cs inp : List Nat) (out : List UInt8), m 900 = j → j < 4294967296 → cs.length + 1 + j ≤ 64 → Has m 100 subC → m 140 = 59 →
    ∃ m', Goes (32 * j + 9) ⟨m, 100, [], r :: cs, false, inp, out⟩ ⟨m', r, [], cs, false, inp, out ++ List.replicate j 46⟩ ∧ ∀ i, i < 900 → m' i = m i
  | 0, m, r, cs, inp, out, hj, _, _, hm, h59 => by
    obtain ⟨g, hk⟩ := lin_of (lo := 900) (by decide) _ (has_piece hm 0 _ rfl) (by decide) (sub_a m 100 (r :: cs) inp out) 7 107 rfl rfl
    have hst : step ⟨m, 107, [140, m 900], r :: cs, true, inp, out⟩ = .go ⟨m, 140, [], r :: cs, false, inp, out⟩ := by
      rw [step_of (c := 63) (by decide) (hm 7 (by decide)), exec_jump rfl, hj]
      rfl
    have hst2 : step ⟨m, 140, [], r :: cs, false, inp, out⟩ = .go ⟨m, r, [], cs, false, inp, out⟩ := by
      rw [step_of (c := 59) (by decide) h59]
      rfl
    refine ⟨m, ?_, fun i _ => rfl⟩
    rw [List.replicate_zero, List.append_nil]
    exact (g.trans (Goes.one hst)).trans (Goes.one hst2)
  | j + 1, m, r, cs, inp, out, hj, hj2, hc, hm, h59 => by
    obtain ⟨m1, g1, k1, e1⟩ := sub_down hj hj2 hm (r :: cs) inp out
    have hst : step ⟨m1, 121, [100], r :: cs, true, inp, out⟩ = .go ⟨m1, 100, [], 122 :: r :: cs, false, inp, out⟩ := by
      rw [step_of (c := 58) (by decide) ((k1 121 (by decide)).trans (hm 21 (by decide))), exec_call, if_neg (by rw [List.length_cons]; omega)]
    obtain ⟨m2, g2, k2⟩ := sub_run j m1 122 (r :: cs) inp out e1 (by omega) (by rw [List.length_cons]; omega) (hm.of (lo := 900) (by decide) k1) ((k1 140 (by decide)).trans h59)
    have hm2 : Has m2 100 subC := (hm.of (lo := 900) (by decide) k1).of (lo := 900) (by decide) k2
    obtain ⟨g3, k3⟩ := lin_of (lo := 900) (by decide) _ (has_piece hm2 22 _ rfl) (by decide) (sub_c m2 122 (r :: cs) inp (out ++ List.replicate j 46)) 8 130 rfl rfl
    have hst2 : step ⟨m2, 130, [140, 0], r :: cs, true, inp, out ++ List.replicate j 46 ++ [46]⟩ = .go ⟨m2, 140, [], r :: cs, false, inp, out ++ List.replicate j 46 ++ [46]⟩ := by
      rw [step_of (c := 63) (by decide) (hm2 30 (by decide)), exec_jump rfl]
      rfl
    have hst3 : step ⟨m2, 140, [], r :: cs, false, inp, out ++ List.replicate j 46 ++ [46]⟩ = .go ⟨m2, r, [], cs, false, inp, out ++ List.replicate j 46 ++ [46]⟩ := by
      rw [step_of (c := 59) (by decide) ((k2 140 (by decide)).trans ((k1 140 (by decide)).trans h59))]
      rfl
    refine ⟨m2, ?_, fun i hi => (k2 i hi).trans (k1 i hi)⟩
    have e : out ++ List.replicate j 46 ++ [46] = out ++ List.replicate (j + 1) 46 := by rw [List.append_assoc, ← List.replicate_succ']
    have hg := ((((g1.trans (Goes.one hst)).trans g2).trans g3).trans (Goes.one hst2)).trans (Goes.one hst3)
    rw [e] at hg
    rw [show 32 * (j + 1) + 9 = 21 + 1 + (32 * j + 9) + 8 + 1 + 1 by omega]
    exact hg
/-- Too deep a chain. -/
theorem sub_deep : ∀ (i : Nat) (j : Nat) (m : Nat → Nat) (cs inp : List Nat) (out : List UInt8), m 900 = j → j < 4294967296 → cs.length + i = 64 → i < j → Has m 100 subC →
    ∃ n s, n ≤ 22 * (i + 1) ∧ Goes n ⟨m, 100, [], cs, false, inp, out⟩ s ∧ step s = .trap ∧ s.out = out
  | i, 0, m, cs, inp, out, hj, hj2, hc, hij, hm => absurd hij (Nat.not_lt_zero i)
  | 0, j + 1, m, cs, inp, out, hj, hj2, hc, hij, hm => by
    obtain ⟨m1, g1, k1, e1⟩ := sub_down hj hj2 hm cs inp out
    refine ⟨_, _, (by decide : 21 ≤ 22 * (0 + 1)), g1, ?_, rfl⟩
    rw [step_of (c := 58) (by decide) ((k1 121 (by decide)).trans (hm 21 (by decide))), exec_call, if_pos (by omega)]
  | i + 1, j + 1, m, cs, inp, out, hj, hj2, hc, hij, hm => by
    obtain ⟨m1, g1, k1, e1⟩ := sub_down hj hj2 hm cs inp out
    have hst : step ⟨m1, 121, [100], cs, true, inp, out⟩ = .go ⟨m1, 100, [], 122 :: cs, false, inp, out⟩ := by
      rw [step_of (c := 58) (by decide) ((k1 121 (by decide)).trans (hm 21 (by decide))), exec_call, if_neg (by omega)]
    obtain ⟨n, s, hn, g2, ht, ho⟩ := sub_deep i j m1 (122 :: cs) inp out e1 (by omega) (by rw [List.length_cons]; omega) (by omega) (hm.of (lo := 900) (by decide) k1)
    exact ⟨21 + 1 + n, s, by omega, (g1.trans (Goes.one hst)).trans g2, ht, ho⟩
/-- The program that sets the count and calls. -/
def mainC (k : Nat) : List Nat := digs k ++ [32, 57, 48, 48, 33, 49, 48, 48, 58, 36]
theorem main_a (m : Nat → Nat) (p k : Nat) (hk : k < 4294967296) : lin 900 (digs k ++ [32, 57, 48, 48, 33, 49, 48, 48]) ⟨m, p, [], [], false, [], []⟩ = some ⟨upd m 900 k, p, [100], [], true, [], []⟩ := by
  rw [lin_app, lin_digs k _ hk rfl (by simp)]
  rfl
theorem chain_run (k : Nat) (hk : k < 80) (m : Nat → Nat) (h0 : Has m 0 (mainC k)) (h1 : Has m 100 subC) (h2 : m 140 = 59) :
    (k + 1 ≤ 64 → ∃ n, run 20000 ⟨m, 0, [], [], false, [], []⟩ = ⟨List.replicate k 46, 0, n⟩) ∧ (64 < k + 1 → ∃ n, run 20000 ⟨m, 0, [], [], false, [], []⟩ = ⟨[], 12, n⟩) := by
  have hl : (digs k).length ≤ 10 := digs_small k (by omega)
  obtain ⟨q, hq⟩ : ∃ q, (digs k).length + 8 = q := ⟨_, rfl⟩
  have hsp : mainC k = (digs k ++ [32, 57, 48, 48, 33, 49, 48, 48]) ++ [58, 36] := by unfold mainC; rw [List.append_assoc]; rfl
  have hlen : (digs k ++ [32, 57, 48, 48, 33, 49, 48, 48]).length = q := by rw [List.length_append, ← hq]; rfl
  rw [hsp] at h0
  obtain ⟨g, hm⟩ := lin_of (lo := 900) (by decide) _ (Has.left h0) (by rw [hlen]; omega) (main_a m 0 k (by omega)) q q hlen (Nat.zero_add q)
  have h58 := Has.right h0
  rw [hlen, Nat.zero_add] at h58
  have c58 : m q = 58 := h58.head
  have c36 : m (q + 1) = 36 := h58.tail.head
  have hst : step ⟨upd m 900 k, q, [100], [], true, [], []⟩ = .go ⟨upd m 900 k, 100, [], [q + 1], false, [], []⟩ := by
    rw [step_of (c := 58) (by omega) ((hm q (by omega)).trans c58), exec_call, if_neg (by decide)]
  have hg := g.trans (Goes.one hst)
  have hs : Has (upd m 900 k) 100 subC := h1.of (lo := 900) (by decide) hm
  have h9 : upd m 900 k 900 = k := if_pos rfl
  constructor
  · intro h
    obtain ⟨m2, g2, k2⟩ := sub_run k (upd m 900 k) (q + 1) [] [] [] h9 (by omega) (by show 0 + 1 + k ≤ 64; omega) hs ((hm 140 (by decide)).trans h2)
    rw [List.nil_append] at g2
    have hh : step ⟨m2, q + 1, [], [], false, [], List.replicate k 46⟩ = .halt := by
      rw [step_of (c := 36) (by omega) ((k2 _ (by omega)).trans ((hm _ (by omega)).trans c36))]
      rfl
    exact ⟨_, (hg.trans g2).halt hh (by omega)⟩
  · intro h
    obtain ⟨n, s, hn, g2, ht, ho⟩ := sub_deep 63 k (upd m 900 k) [q + 1] [] [] h9 (by omega) rfl (by omega) hs
    have := (hg.trans g2).trap ht (N := 20000) (by omega)
    rw [ho] at this
    exact ⟨_, this⟩
/-! ### The three texts in memory -/
theorem has_last (m : Nat → Nat) (z : Nat) (S : ByteArray) : Has (place m ((z : Int), S)) z (S.data.toList.map UInt8.toNat) := by
  intro i hi
  have hi' : i < S.data.toList.length := by simpa using hi
  have hs : S.data.toList.length = S.size := by simp
  unfold place
  rw [if_pos (by dsimp only; omega)]
  dsimp only
  rw [show z + i - (z : Int).toNat = i by omega]
  unfold codeAt
  rw [List.getD_eq_getElem?_getD, List.getElem?_eq_getElem hi', List.getElem_map]
  rfl
theorem has_keep {m : Nat → Nat} {b : Nat} {c : List Nat} (h : Has m b c) (z : Nat) (S : ByteArray) (hz : b + c.length ≤ z) : Has (place m ((z : Int), S)) b c := by
  intro i hi
  unfold place
  rw [if_neg (by dsimp only; omega)]
  exact h i hi
theorem sub_ans (k : Nat) (hk : k < 80) (M S E : ByteArray) (hM : M.data.toList.map UInt8.toNat = mainC k) (hS : S.data.toList.map UInt8.toNat = subC) (hE : E.data.toList.map UInt8.toNat = [59]) :
    (k + 1 ≤ 64 → ∃ n, ans [(0, M), (100, S), (140, E)] 0 [] 20000 = ⟨List.replicate k 46, 0, n⟩) ∧ (64 < k + 1 → ∃ n, ans [(0, M), (100, S), (140, E)] 0 [] 20000 = ⟨[], 12, n⟩) := by
  have hl : (digs k).length ≤ 10 := digs_small k (by omega)
  have sM : (mainC k).length = M.size := by rw [← hM]; simp
  have sS : S.size = 31 := by have := congrArg List.length hS; simpa [subC] using this
  have sE : E.size = 1 := by have := congrArg List.length hE; simpa using this
  have lM : (mainC k).length ≤ 20 := by unfold mainC; rw [List.length_append]; show _ + 10 ≤ 20; omega
  have hp : placed [((0 : Int), M), (100, S), (140, E)] = place (place (place (fun _ => 0) (((0 : Nat) : Int), M)) (((100 : Nat) : Int), S)) (((140 : Nat) : Int), E) := rfl
  have h0 := has_last (fun _ => 0) 0 M
  rw [hM] at h0
  have h0 := has_keep (has_keep h0 100 S (by omega)) 140 E (by omega)
  have h1 := has_last (place (fun _ => 0) (((0 : Nat) : Int), M)) 100 S
  rw [hS] at h1
  have h1 := has_keep h1 140 E (by decide)
  have h2 := has_last (place (place (fun _ => 0) (((0 : Nat) : Int), M)) (((100 : Nat) : Int), S)) 140 E
  rw [hE] at h2
  rw [← hp] at h0 h1 h2
  have ha : ans [(0, M), (100, S), (140, E)] 0 [] 20000 = run 20000 ⟨placed [((0 : Int), M), (100, S), (140, E)], 0, [], [], false, [], []⟩ := by
    unfold ans
    rw [if_neg (by decide), if_neg (by
      intro h
      apply h
      intro t ht
      rcases List.mem_cons.1 ht with e | ht
      · rw [e]; exact ⟨Int.le_refl _, by show (0 : Int) + (M.size : Int) ≤ 262144; omega⟩
      rcases List.mem_cons.1 ht with e | ht
      · rw [e]; exact ⟨by show (0 : Int) ≤ 100; decide, by show (100 : Int) + (S.size : Int) ≤ 262144; omega⟩
      · rw [List.mem_singleton.1 ht]; exact ⟨by show (0 : Int) ≤ 140; decide, by show (140 : Int) + (E.size : Int) ≤ 262144; omega⟩), if_neg (by decide), if_neg (by decide)]
    rfl
  rw [ha]
  exact chain_run k hk _ h0 h1 h2.head
end Go.Proofs.YtfdlgdgjbfoogaaDoor.M17
