/- The copying loop on the plain machine. No program is named here. -/
import Derived.Test.YtfdlgdgjbfoogaaDoorM17Lin
namespace Go.Proofs.YtfdlgdgjbfoogaaDoor.M17
set_option linter.unusedVariables false
set_option linter.unusedSimpArgs false

/-- One text alone: what lies in memory. -/
theorem has_placed (z : Nat) (S : ByteArray) : Has (placed [((z : Int), S)]) z (S.data.toList.map UInt8.toNat) := by
  intro i hi
  have hi' : i < S.data.toList.length := by simpa using hi
  have hs : S.data.toList.length = S.size := by simp
  unfold placed
  simp only [List.foldl_cons, List.foldl_nil]
  unfold place
  rw [if_pos (by dsimp only; omega)]
  dsimp only
  rw [show z + i - (z : Int).toNat = i by omega]
  unfold codeAt
  rw [List.getD_eq_getElem?_getD, List.getElem?_eq_getElem hi', List.getElem_map]
  rfl
/-- What the loop puts out. -/
def echo : List Nat → List UInt8
  | [] => []
  | x :: l => if x = 4294967295 then [] else UInt8.ofNat x :: echo l
def echoC : List Nat := [44, 57, 48, 33, 57, 48, 64, 52, 50, 57, 52, 57, 54, 55, 50, 57, 53, 94, 50, 57, 63, 57, 48, 64, 46, 48, 32, 48, 63, 36]
theorem echo_a (m : Nat → Nat) (inp : List Nat) (out : List UInt8) : lin 90 [44, 57, 48, 33, 57, 48, 64, 52, 50, 57, 52, 57, 54, 55, 50, 57, 53, 94, 50, 57] ⟨m, 0, [], [], false, inp, out⟩ =
    some ⟨upd m 90 (inp.headD 4294967295), 0, [29, inp.headD 4294967295 ^^^ 4294967295], [], true, inp.tail, out⟩ := rfl
theorem echo_b (m : Nat → Nat) (x : Nat) (inp : List Nat) (out : List UInt8) : lin 90 [57, 48, 64, 46, 48, 32, 48] ⟨upd m 90 x, 21, [], [], false, inp, out⟩ = some ⟨upd m 90 x, 21, [0, 0], [], true, inp, out ++ [UInt8.ofNat x]⟩ := rfl
theorem exec_jump {s : St} {b a : Nat} {r : List Nat} (hd : s.ds = b :: a :: r) : exec 63 s = .go { s with ds := r, pc := if a = 0 then b else s.pc, dig := false } := by
  obtain ⟨mem, pc, ds, cs, dig, inp, out⟩ := s
  dsimp only at hd
  subst hd
  rfl
theorem has_piece {m : Nat → Nat} {b : Nat} {l : List Nat} (h : Has m b l) (k : Nat) (c : List Nat) (hc : (l.drop k).take c.length = c) : Has m (b + k) c := fun i hi => by
  have h1 : ((l.drop k).take c.length)[i]'(by rw [hc]; exact hi) = c[i] := by simp only [hc]
  rw [← h1, List.getElem_take, List.getElem_drop]
  have hlen := congrArg List.length hc
  rw [List.length_take, List.length_drop] at hlen
  have := h (k + i) (by omega)
  rw [Nat.add_assoc, this]
theorem xor_zero {x : Nat} : x ^^^ 4294967295 = 0 ↔ x = 4294967295 := by
  constructor
  · intro h
    have : x ^^^ 4294967295 ^^^ 4294967295 = 0 ^^^ 4294967295 := by rw [h]
    rwa [Nat.xor_assoc, Nat.xor_self, Nat.xor_zero, Nat.zero_xor] at this
  · rintro rfl; decide
theorem step_of {m : Nat → Nat} {pc c : Nat} {ds cs : List Nat} {dig : Bool} {inp : List Nat} {out : List UInt8} (hp : pc < 262144) (hc : m pc = c) : step ⟨m, pc, ds, cs, dig, inp, out⟩ = exec c ⟨m, pc + 1, ds, cs, dig, inp, out⟩ := step_at hp hc
/-- A straight piece, the state's parts by name. -/
theorem lin_of {lo : Nat} (hlo : lo ≤ 262144) (l : List Nat) {m : Nat → Nat} {pc p : Nat} {ds cs : List Nat} {dig : Bool} {inp : List Nat} {out : List UInt8} {m' : Nat → Nat} {ds' cs' : List Nat} {dig' : Bool} {inp' : List Nat} {out' : List UInt8}
    (h : Has m pc l) (hl : pc + l.length ≤ lo) (e : lin lo l ⟨m, pc, ds, cs, dig, inp, out⟩ = some ⟨m', p, ds', cs', dig', inp', out'⟩) (n q : Nat) (hn : l.length = n) (hq : pc + n = q) :
    Goes n ⟨m, pc, ds, cs, dig, inp, out⟩ ⟨m', q, ds', cs', dig', inp', out'⟩ ∧ ∀ i, i < lo → m' i = m i := by
  subst hn hq
  exact lin_goes hlo l ⟨m, pc, ds, cs, dig, inp, out⟩ _ h hl e
theorem echo_run : ∀ (inp : List Nat) (m : Nat → Nat) (out : List UInt8) (N : Nat), (∀ x ∈ inp, x < 4294967296) → Has m 0 echoC → 29 * inp.length + 22 < N → ∃ k, run N ⟨m, 0, [], [], false, inp, out⟩ = ⟨out ++ echo inp, 0, k⟩ := by
  intro inp
  induction inp with
  | nil =>
    intro m out N _ hm hN
    obtain ⟨g, hk⟩ := lin_of (lo := 90) (by decide) _ (has_piece hm 0 _ rfl) (by decide) (echo_a m [] out) 20 20 rfl rfl
    replace hk : ∀ i, i < 90 → upd m 90 4294967295 i = m i := hk
    replace g : Goes 20 ⟨m, 0, [], [], false, [], out⟩ ⟨upd m 90 4294967295, 20, [29, 0], [], true, [], out⟩ := g
    have hst : step ⟨upd m 90 4294967295, 20, [29, 0], [], true, [], out⟩ = .go ⟨upd m 90 4294967295, 29, [], [], false, [], out⟩ := by
      rw [step_of (c := 63) (by decide) ((hk 20 (by decide)).trans (hm 20 (by decide))), exec_jump rfl]
      rfl
    have hh : step ⟨upd m 90 4294967295, 29, [], [], false, [], out⟩ = .halt := by
      rw [step_of (c := 36) (by decide) ((hk 29 (by decide)).trans (hm 29 (by decide)))]
      rfl
    have := (g.trans (Goes.one hst)).halt hh (N := N) (by simp at hN; omega)
    exact ⟨20 + 1 + 1, by rw [this, echo, List.append_nil]⟩
  | cons x inp ih =>
    intro m out N hi hm hN
    have hx := hi x (by simp)
    obtain ⟨g, hk⟩ := lin_of (lo := 90) (by decide) _ (has_piece hm 0 _ rfl) (by decide) (echo_a m (x :: inp) out) 20 20 rfl rfl
    have hm2 : Has (upd m 90 x) 0 echoC := hm.of (lo := 90) (by decide) hk
    by_cases h : x = 4294967295
    · have hst : step ⟨upd m 90 x, 20, [29, x ^^^ 4294967295], [], true, inp, out⟩ = .go ⟨upd m 90 x, 29, [], [], false, inp, out⟩ := by
        rw [step_of (c := 63) (by decide) (hm2 20 (by decide)), exec_jump rfl, xor_zero.2 h]
        rfl
      have hh : step ⟨upd m 90 x, 29, [], [], false, inp, out⟩ = .halt := by
        rw [step_of (c := 36) (by decide) (hm2 29 (by decide))]
        rfl
      have := (g.trans (Goes.one hst)).halt hh (N := N) (by simp at hN; omega)
      exact ⟨20 + 1 + 1, by rw [this, echo, if_pos h, List.append_nil]⟩
    · have hst : step ⟨upd m 90 x, 20, [29, x ^^^ 4294967295], [], true, inp, out⟩ = .go ⟨upd m 90 x, 21, [], [], false, inp, out⟩ := by
        rw [step_of (c := 63) (by decide) (hm2 20 (by decide)), exec_jump rfl, if_neg (fun e => h (xor_zero.1 e))]
      obtain ⟨g2, hk2⟩ := lin_of (lo := 90) (by decide) _ (has_piece hm2 21 _ rfl) (by decide) (echo_b m x inp out) 7 28 rfl rfl
      have hst2 : step ⟨upd m 90 x, 28, [0, 0], [], true, inp, out ++ [UInt8.ofNat x]⟩ = .go ⟨upd m 90 x, 0, [], [], false, inp, out ++ [UInt8.ofNat x]⟩ := by
        rw [step_of (c := 63) (by decide) (hm2 28 (by decide)), exec_jump rfl]
        rfl
      have hg := ((g.trans (Goes.one hst)).trans g2).trans (Goes.one hst2)
      obtain ⟨k, hk3⟩ := ih (upd m 90 x) (out ++ [UInt8.ofNat x]) (N - 29) (fun y hy => hi y (List.mem_cons_of_mem _ hy)) hm2 (by simp at hN; omega)
      have := hg (N - 29)
      rw [show 20 + 1 + 7 + 1 + (N - 29) = N by simp at hN; omega] at this
      exact ⟨k + (20 + 1 + 7 + 1), by
        rw [this, hk3]
        unfold Out.more
        simp only [echo, if_neg h, List.append_assoc, List.cons_append, List.nil_append]⟩
theorem echo_ans (inp : List Nat) (hi : ∀ x ∈ inp, x < 4294967296) (hn : inp.length ≤ 100) (S : ByteArray) (hS : S.data.toList.map UInt8.toNat = echoC) : ∃ k, ans [(0, S)] 0 inp 10000 = ⟨echo inp, 0, k⟩ := by
  have hs : S.size = 30 := by
    have := congrArg List.length hS
    rw [List.length_map] at this
    simpa [echoC] using this
  have ha : ans [(0, S)] 0 inp 10000 = run 10000 (init [(0, S)] 0 inp) := by
    unfold ans
    rw [if_neg (by decide), if_neg (by
      intro h
      apply h
      intro t ht
      rw [List.mem_singleton.1 ht]
      exact ⟨Int.le_refl _, by show (0 : Int) + (S.size : Int) ≤ 262144; rw [hs]; decide⟩), if_neg (by decide), if_neg (by decide)]
    rfl
  obtain ⟨k, h⟩ := echo_run inp (placed [(0, S)]) [] 10000 hi (by have := has_placed 0 S; rwa [hS] at this) (by omega)
  exact ⟨k, by rw [ha]; exact h⟩
end Go.Proofs.YtfdlgdgjbfoogaaDoor.M17
