/- Two literals and a sign on the plain machine. No program is named here. -/
import Derived.Test.YtfdlgdgjbfoogaaDoorM17PEcho
namespace Go.Proofs.YtfdlgdgjbfoogaaDoor.M17
set_option linter.unusedVariables false
set_option linter.unusedSimpArgs false

def Sgn (c : Nat) : Prop := c = 43 ∨ c = 45 ∨ c = 42 ∨ c = 47 ∨ c = 37 ∨ c = 94 ∨ c = 60
theorem exec_sign {c : Nat} (h : Sgn c) (m : Nat → Nat) (p b a : Nat) (r cs : List Nat) (dig : Bool) (inp : List Nat) (out : List UInt8) :
    exec c ⟨m, p, b :: a :: r, cs, dig, inp, out⟩ = match op2 c a b with | none => .trap | some v => .go ⟨m, p, v :: r, cs, false, inp, out⟩ := by
  rcases h with rfl | rfl | rfl | rfl | rfl | rfl | rfl <;> rfl
/-- What stores the result and puts it out, byte by byte. -/
def ariC : List Nat := [49, 48, 48, 48, 33, 49, 48, 48, 48, 64, 46, 49, 48, 48, 48, 64, 50, 53, 54, 47, 46, 49, 48, 48, 48, 64, 54, 53, 53, 51, 54, 47, 46, 49, 48, 48, 48, 64, 49, 54, 55, 55, 55, 50, 49, 54, 47, 46]
def out4 (v : Nat) : List UInt8 := [UInt8.ofNat v, UInt8.ofNat (v / 256), UInt8.ofNat (v / 65536), UInt8.ofNat (v / 16777216)]
theorem lin_ari (m : Nat → Nat) (p v : Nat) : lin 1000 ariC ⟨m, p, [v], [], false, [], []⟩ = some ⟨upd m 1000 v, p, [], [], false, [], out4 v⟩ := rfl
theorem lin_two (a b : Nat) (ha : a < 4294967296) (hb : b < 4294967296) (m : Nat → Nat) (p : Nat) : lin 1000 (digs a ++ 32 :: digs b) ⟨m, p, [], [], false, [], []⟩ = some ⟨m, p, [b, a], [], true, [], []⟩ := by
  rw [lin_app, lin_digs a _ ha rfl (by simp)]
  show (lin 1000 (32 :: digs b) ⟨m, p, [a], [], true, [], []⟩) = _
  have : lin 1000 (32 :: digs b) ⟨m, p, [a], [], true, [], []⟩ = lin 1000 (digs b) ⟨m, p, [a], [], false, [], []⟩ := by
    rw [lin, if_neg (by decide), if_neg (by decide)]
    rfl
  rw [this, lin_digs b _ hb rfl (by simp)]
theorem digs_small (n : Nat) (h : n < 4294967296) : (digs n).length ≤ 10 := digs_len 9 n (by omega)
def ariT (a b c : Nat) : List Nat := (digs a ++ 32 :: digs b) ++ (c :: (ariC ++ [36]))
theorem ariT_len (a b c : Nat) : (ariT a b c).length = (digs a).length + (digs b).length + 51 := by
  unfold ariT
  rw [List.length_append, List.length_append, List.length_cons, List.length_cons, List.length_append]
  show _ + (_ + 1) + (48 + 1 + 1) = _
  omega
theorem ari_run {a b c : Nat} (ha : a < 4294967296) (hb : b < 4294967296) (hc : Sgn c) (m : Nat → Nat) (hm : Has m 500 (ariT a b c)) :
    ∃ k, run 200 ⟨m, 500, [], [], false, [], []⟩ = match op2 c a b with | some v => ⟨out4 v, 0, k⟩ | none => ⟨[], 12, k⟩ := by
  have l1 := digs_small a ha
  have l2 := digs_small b hb
  have hl : (digs a ++ 32 :: digs b).length = (digs a).length + (digs b).length + 1 := by rw [List.length_append, List.length_cons]; omega
  obtain ⟨q, hq⟩ : ∃ q, (digs a).length + (digs b).length + 1 = q := ⟨_, rfl⟩
  rw [hq] at hl
  obtain ⟨g, hk⟩ := lin_of (lo := 1000) (by decide) _ (Has.left hm) (by rw [hl]; omega) (lin_two a b ha hb m 500) q (500 + q) hl rfl
  have h2 := Has.right hm
  rw [hl] at h2
  have hst : step ⟨m, 500 + q, [b, a], [], true, [], []⟩ = match op2 c a b with | none => .trap | some v => .go ⟨m, 500 + q + 1, [v], [], false, [], []⟩ := by
    rw [step_of (c := c) (by omega) h2.head, exec_sign hc]
  cases ho : op2 c a b with
  | none =>
    rw [ho] at hst
    exact ⟨_, g.trap hst (by omega)⟩
  | some v =>
    rw [ho] at hst
    have h3 : Has m (500 + q + 1) (ariC ++ [36]) := h2.tail
    obtain ⟨g2, hk2⟩ := lin_of (lo := 1000) (by decide) _ (Has.left h3) (by show 500 + q + 1 + 48 ≤ 1000; omega) (lin_ari m (500 + q + 1) v) 48 (500 + q + 1 + 48) rfl rfl
    have h4 : m (500 + q + 1 + 48) = 36 := (Has.right h3).head
    have hh : step ⟨upd m 1000 v, 500 + q + 1 + 48, [], [], false, [], out4 v⟩ = .halt := by
      rw [step_of (c := 36) (by omega) ((hk2 _ (by omega)).trans h4)]
      rfl
    exact ⟨_, ((g.trans (Goes.one hst)).trans g2).halt hh (by omega)⟩
theorem ari_ans {a b c : Nat} (ha : a < 4294967296) (hb : b < 4294967296) (hc : Sgn c) (S : ByteArray) (hS : S.data.toList.map UInt8.toNat = ariT a b c) :
    ∃ k, ans [(500, S)] 500 [] 200 = match op2 c a b with | some v => ⟨out4 v, 0, k⟩ | none => ⟨[], 12, k⟩ := by
  have l1 := digs_small a ha
  have l2 := digs_small b hb
  have hs : S.size ≤ 71 := by
    have := congrArg List.length hS
    rw [List.length_map, ariT_len] at this
    have h2 : S.data.toList.length = S.size := by simp
    omega
  have ha' : ans [(500, S)] 500 [] 200 = run 200 (init [(500, S)] 500 []) := by
    unfold ans
    rw [if_neg (by decide), if_neg (by
      intro h
      apply h
      intro t ht
      rw [List.mem_singleton.1 ht]
      exact ⟨by show (0 : Int) ≤ 500; decide, by show (500 : Int) + (S.size : Int) ≤ 262144; omega⟩), if_neg (by decide), if_neg (by decide)]
    rfl
  rw [ha']
  exact ari_run ha hb hc (placed [(500, S)]) (by have := has_placed 500 S; rwa [hS] at this)
end Go.Proofs.YtfdlgdgjbfoogaaDoor.M17
