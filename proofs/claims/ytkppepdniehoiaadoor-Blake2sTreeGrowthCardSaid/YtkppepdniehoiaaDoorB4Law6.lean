/- The walk of the law Blake2sTreeGrowth, under the package's contracts. -/
import Derived.Test.YtkppepdniehoiaaDoorB4Law4
namespace Go.Proofs.YtkppepdniehoiaaDoor.B4
open Go.RowKit Mem
set_option linter.unusedVariables false
set_option linter.unusedSimpArgs false
variable {L : World → Prop}

theorem half_lt (n : Nat) : ∀ f k, 1 ≤ k → k < n → 1 ≤ half n f k ∧ half n f k < n
  | 0, k, h1, h2 => ⟨h1, h2⟩
  | f + 1, k, h1, h2 => by
    by_cases h : 2 * k < n
    · rw [half_more n f k h]
      exact half_lt n f (2 * k) (by omega) h
    · rw [half_stop n (f + 1) k h]
      exact ⟨h1, h2⟩
theorem merF_stable : ∀ (f g : Nat) (l : List (List UInt8)), l.length < f → l.length < g → merF f l = merF g l
  | 0, _, _, h, _ => absurd h (by omega)
  | _ + 1, 0, _, _, h => absurd h (by omega)
  | f + 1, g + 1, [], _, _ => rfl
  | f + 1, g + 1, [x], _, _ => rfl
  | f + 1, g + 1, x :: y :: r, hf, hg => by
    have h2 : 2 ≤ (x :: y :: r).length := by simp
    obtain ⟨k1, k2⟩ := half_lt (x :: y :: r).length (x :: y :: r).length 1 (Nat.le_refl _) (by omega)
    have hk1 : 1 ≤ kOf (x :: y :: r).length := k1
    have hk2 : kOf (x :: y :: r).length < (x :: y :: r).length := k2
    rw [merF_two f _ h2, merF_two g _ h2, merF_stable f g ((x :: y :: r).take _) (by rw [List.length_take]; omega) (by rw [List.length_take]; omega), merF_stable f g ((x :: y :: r).drop _) (by rw [List.length_drop]; omega) (by rw [List.length_drop]; omega)]
theorem mer_join (a b : List (List UInt8)) (ha : 1 ≤ a.length) (hb : 1 ≤ b.length) (hk : kOf (a.length + b.length) = a.length) : merL (a ++ b) = digL ([110, 111, 100, 101] ++ merL a ++ merL b) := by
  unfold merL
  rw [merF_two _ _ (by rw [List.length_append]; omega), List.length_append, hk, List.take_left, List.drop_left, merF_stable (a.length + b.length) (a.length + 1) a (by omega) (by omega), merF_stable (a.length + b.length) (b.length + 1) b (by omega) (by omega)]
theorem mer_one (x : List UInt8) : merL [x] = digL ([108, 101, 97, 102] ++ x) := rfl
theorem merL_le (l : List (List UInt8)) : (merL l).length ≤ 32 := merF_len _ _
theorem sum_new (D : Dev L) (vs : List (List UInt8)) (cs : Array Value) (hcs : cs.toList = strVs vs) (n : Nat) (hn : vs.length = n) (w : World) (ht : totl vs ≤ 1000000) (hll : n ≤ 1000000) (hL : L w) :
    Calls Tryd.prog 13 #[.slice (some ⟨w.heap.size, 0, none⟩) n n] (w.alloc (.cells cs 9)) fun e w' => e = .returned (.string ⟨(digL vs.flatten).toArray⟩) ∧ Below w.heap.size w w' := by
  subst hn
  have h := D.sum (some ⟨w.heap.size, 0, none⟩) vs.length vs _ ht hll (Nat.le_refl _) (by omega) (rd_made w 9 _ cs hcs) (D.alloc hL _)
  exact h.mono fun e w' ⟨a, b⟩ => ⟨a, chain (below_made w _) b⟩
/-- The second tree's leaves. -/
def bl (leaf : List UInt8) (l : List (List UInt8)) (n : Nat) : Nat → List (List UInt8)
  | 0 => []
  | i + 1 => bl leaf l n i ++ [leaf ++ l.getD (n - 1 - i) []]
theorem bl_len (leaf : List UInt8) (l : List (List UInt8)) (n : Nat) : ∀ i, (bl leaf l n i).length = i
  | 0 => rfl
  | i + 1 => by
    show (_ ++ [_]).length = _
    rw [List.length_append, bl_len leaf l n i]
    rfl
theorem getD_le (l : List (List UInt8)) (k : Nat) : (l.getD k []).length ≤ totl l := by
  by_cases h : k < l.length
  · rw [List.getD, List.getElem?_eq_getElem h]
    exact totl_mem (List.getElem_mem h)
  · simp [List.getD, List.getElem?_eq_none (show l.length ≤ k by omega)]
theorem bl_tot (leaf : List UInt8) (l : List (List UInt8)) (n : Nat) (h1 : leaf.length ≤ 200) (h2 : totl l ≤ 2000) : ∀ i, totl (bl leaf l n i) ≤ 2200 * i
  | 0 => by simp [bl, totl]
  | i + 1 => by
    have ih := bl_tot leaf l n h1 h2 i
    have := getD_le l (n - 1 - i)
    show totl (bl leaf l n i ++ [leaf ++ l.getD (n - 1 - i) []]) ≤ _
    have e : totl (bl leaf l n i ++ [leaf ++ l.getD (n - 1 - i) []]) = totl (bl leaf l n i) + (leaf.length + (l.getD (n - 1 - i) []).length) := by
      simp only [totl, List.map_append, List.sum_append, List.map_cons, List.map_nil, List.sum_cons, List.sum_nil, List.length_append, Nat.add_zero]
    rw [e]
    omega

set_option maxRecDepth 100000 in
set_option maxHeartbeats 4000000 in
theorem tg_early (D : Dev L) (A : Option Addr) (len cap : Nat) (l : List (List UInt8)) (leaf : ByteArray) (w : World) (hL0 : L w) (hl : IsStrs w A len cap l) (hx : ∀ x ∈ l, x.length ≤ 9223372036854775807) (hs : leaf.size ≤ 140737488351232) (hq : gr l = 1 ∨ 200 < leaf.size ∨ l.length = 0) :
    Calls Tryd.prog 9 #[.slice A len cap, .string leaf] w fun e w' => e = .returned (.bool true) ∧ Below w.heap.size w w' := by
  obtain ⟨rfl, hle, hcap, hnil, hrd⟩ := hl
  have c1 := fun (W : World) (hW : Below w.heap.size w W) => rgreat_any A cap l W hle hcap hx (hrd.below hW)
  by_cases hg : gr l = 1
  · rw [hg] at c1
    have c1 := Lib.hid c1
    clear hx hrd hnil hg hq
    go_enter Tryd.func9, Tryd.ntmps9
    go_wp2_with fail
    refine (alive_any D _ hL0).mono ?_
    rintro e w1 ⟨rfl, hb1⟩
    go_wp2_with fail
    refine (c1.out _ hb1).mono ?_
    rintro e w2 ⟨rfl, rfl⟩
    go_wp2
    go_ret
    exact ⟨rfl, hb1⟩
  obtain ⟨hg0, h40, h2000⟩ := gr_small hg
  rw [hg0] at c1
  have c1 := Lib.hid c1
  clear hx hg0
  by_cases h200 : 200 < leaf.size
  · have d1 : decide ((200 : Int) < (leaf.size : Int)) = true := decide_eq_true (by omega)
    clear hrd hnil hs hg hq
    go_enter Tryd.func9, Tryd.ntmps9
    go_wp2_with fail
    refine (alive_any D _ hL0).mono ?_
    rintro e w1 ⟨rfl, hb1⟩
    go_wp2_with fail
    refine (c1.out _ hb1).mono ?_
    rintro e w2 ⟨rfl, rfl⟩
    go_wp2
    go_ret
    exact ⟨rfl, hb1⟩
  · have d1 : decide ((200 : Int) < (leaf.size : Int)) = false := decide_eq_false (by omega)
    have h0 : l.length = 0 := by omega
    have d2 : ((l.length : Int) == 0) = true := by rw [beq_iff_eq]; omega
    clear hrd hnil hs hg hq h0
    go_enter Tryd.func9, Tryd.ntmps9
    go_wp2_with fail
    refine (alive_any D _ hL0).mono ?_
    rintro e w1 ⟨rfl, hb1⟩
    go_wp2_with fail
    refine (c1.out _ hb1).mono ?_
    rintro e w2 ⟨rfl, rfl⟩
    go_wp2
    go_ret
    exact ⟨rfl, hb1⟩
end Go.Proofs.YtkppepdniehoiaaDoor.B4
