/- The contracts of slices.Index, Contains, IndexFunc, ContainsFunc at integers, and of the landed areIndices, distinct, common. -/
import Derived.Test.YtkobcffkgaodbaaG8Ans
import Derived.Test.YtkobcffkgaodbaaG7Own5
import Derived.Laws.AppendOwn
namespace Go.Proofs.Ytkobcffkgaodbaa.G8
open Go.Proofs.Ytkobcffkgaodbaa.G5
open Go.Proofs.Ytkobcffkgaodbaa.G7
open Go.Proofs.Ytkobcffkgaodbaa.G6 (mb)
open Go.RowKit Mem
set_option linter.unusedVariables false
set_option linter.unusedSimpArgs false

theorem int_snoc (l : List Int) (j : Nat) (h : j < l.length) : l.take (j + 1) = l.take j ++ [l.getD j 0] := by
  rw [List.take_succ_eq_append_getElem h]
  simp [List.getD_eq_getElem?_getD, List.getElem?_eq_getElem h]
theorem int_mem (l : List Int) (j : Nat) (h : j < l.length) : l.getD j 0 ∈ l := by
  rw [List.getD_eq_getElem?_getD, List.getElem?_eq_getElem h]
  exact List.getElem_mem _
/-- The place of the first element with a property, or -1. -/
def FstI (P : Int → Bool) (l : List Int) (w : World) (e : Ending) (w' : World) : Prop := ∃ n : Int, e = .returned (.int .i64 n) ∧ decide (0 ≤ n) = l.any P ∧ w = w'
theorem none_yet {P : Int → Bool} {l : List Int} {k : Nat} (hz : ∀ x ∈ l.take k, P x = false) (hk : k < l.length) (hP : P (l.getD k 0) = false) : ∀ x ∈ l.take (k + 1), P x = false := by
  intro x hx
  rw [int_snoc l k hk] at hx
  rcases List.mem_append.1 hx with h | h
  · exact hz x h
  · rw [List.mem_singleton.1 h]
    exact hP
theorem none_at_all {P : Int → Bool} {l : List Int} {k : Nat} (hz : ∀ x ∈ l.take k, P x = false) (hk : l.length ≤ k) : l.any P = false := by
  rw [List.any_eq_false]
  intro x hx
  have := hz x (by rw [List.take_of_length_le hk]; exact hx)
  rw [this]
  decide
theorem found {P : Int → Bool} {l : List Int} {k : Nat} (hk : k < l.length) (hP : P (l.getD k 0) = true) : l.any P = true := by
  rw [List.any_eq_true]
  exact ⟨_, int_mem l k hk, hP⟩

set_option maxRecDepth 100000 in
set_option maxHeartbeats 1000000 in
theorem index_own {A : Option Addr} {n c : Nat} {l : List Int} {w : World} (z : Int) (h : IsInts w A c l) (hl : l.length = n) :
    Calls Try.prog 64 #[.slice A n c, .int .i64 z] w (FstI (fun y => z == y) l w) := by
  have hsh := Lib.hid h
  have hlh := Lib.hid hl
  have hn : n ≤ 9223372036854775807 := by have := h.hle; have := h.hcap; omega
  clear h hl
  go_enter Try.func64, Try.ntmps64
  go_wp2
  go_loop [8] (fun a => ∃ k : Nat, k ≤ n ∧ a = .int .i64 k ∧ Hid (∀ x ∈ l.take k, (z == x) = false)) (fun a => n - (intOf a).toNat)
  case atStart => exact ⟨0, Nat.zero_le _, rfl, Lib.hid (fun x h => by simp at h)⟩
  case round =>
    obtain ⟨k, hk, rfl, hz⟩ := hrel
    by_cases hlt : k < n
    · have hkl : k < l.length := by rw [hlh.out]; exact hlt
      obtain ⟨b, o, rfl, hb, hc⟩ := hsh.out.read k hkl
      have hy := fun h => none_yet (P := fun y => z == y) hz.out hkl h
      have hf := fun h => found (P := fun y => z == y) hkl h
      obtain ⟨Y, hY⟩ : ∃ Y, l.getD k 0 = Y := ⟨_, rfl⟩
      rw [hY] at hc hy hf
      have d0 : (k : Int) < (n : Int) := by omega
      have d1 : decide (k < n) = true := decide_eq_true hlt
      have k0 : (0 : Int) ≤ (k : Int) := by omega
      rcases he : z == Y with _ | _
      · have hz2 := Lib.hid (hy he)
        clear hY hy hf hz hkl
        go_wp2
        go_round
        case rel => exact ⟨k + 1, by omega, by go_num, hz2⟩
        case measure => simp [intOf]; omega
      · have hal := Lib.hid (hf he)
        clear hY hy hf hz hkl
        go_wp2
        go_ret
        exact ⟨_, rfl, by rw [hal.out]; exact decide_eq_true k0, rfl⟩
    · have hal := Lib.hid (none_at_all (P := fun y => z == y) hz.out (by rw [hlh.out]; omega))
      have d0 : ¬ (k : Int) < (n : Int) := by omega
      have d1 : decide (k < n) = false := decide_eq_false hlt
      go_wp2
      go_ret
      exact ⟨_, rfl, by rw [hal.out]; rfl, rfl⟩
theorem any_mem (z : Int) (l : List Int) : (l.any fun y => z == y) = decide (z ∈ l) := by
  rw [Bool.eq_iff_iff, List.any_eq_true, decide_eq_true_eq]
  constructor
  · rintro ⟨y, hy, e⟩
    rw [beq_iff_eq.1 e]
    exact hy
  · exact fun h => ⟨z, h, beq_self_eq_true z⟩
set_option maxHeartbeats 1000000 in
theorem contains_own {A : Option Addr} {n c : Nat} {l : List Int} {w : World} (z : Int) (h : IsInts w A c l) (hl : l.length = n) :
    Calls Try.prog 43 #[.slice A n c, .int .i64 z] w fun e w' => e = .returned (.bool (decide (z ∈ l))) ∧ w = w' := by
  have cI := Lib.hid (index_own z h hl)
  have hB := any_mem z l
  obtain ⟨B, hB'⟩ : ∃ B, decide (z ∈ l) = B := ⟨_, rfl⟩
  rw [hB'] at hB ⊢
  have hBh := Lib.hid hB
  clear h hl hB hB'
  go_enter Try.func43, Try.ntmps43
  go_wp2_with fail
  refine cI.out.mono ?_
  rintro e w1 ⟨i, rfl, hi, rfl⟩
  rw [hBh.out] at hi
  go_wp2
  go_ret
  exact ⟨rfl, rfl⟩

/-- Is the number no index below N? -/
def offB (N : Nat) (z : Int) : Bool := decide (z < 0) || decide ((N : Int) ≤ z)
set_option maxHeartbeats 1000000 in
theorem off_own {N b : Nat} {w : World} (z : Int) (hc : w.cell? ⟨b, 0, none⟩ = some (.int .i64 (N : Int))) :
    Calls Try.prog 42 #[.int .i64 z, .pointer (some ⟨b, 0, none⟩)] w fun e w' => e = .returned (.bool (offB N z)) ∧ w = w' := by
  unfold offB
  rcases h1 : decide (z < 0) with _ | _
  · obtain ⟨B, hB⟩ : ∃ B, decide ((N : Int) ≤ z) = B := ⟨_, rfl⟩
    rw [hB]
    go_enter Try.func42, Try.ntmps42
    go_wp2
    go_ret
    exact ⟨rfl, rfl⟩
  · go_enter Try.func42, Try.ntmps42
    go_wp2
    go_ret
    exact ⟨rfl, rfl⟩
set_option maxRecDepth 100000 in
set_option maxHeartbeats 1000000 in
theorem indexOff_own {A : Option Addr} {n c N b : Nat} {l : List Int} {w : World} (h : IsInts w A c l) (hl : l.length = n) (hcell : w.cell? ⟨b, 0, none⟩ = some (.int .i64 (N : Int))) :
    Calls Try.prog 63 #[.slice A n c, .func (.func 42) #[] #[.pointer (some ⟨b, 0, none⟩)]] w (FstI (offB N) l w) := by
  have hsh := Lib.hid h
  have hlh := Lib.hid hl
  have hn : n ≤ 9223372036854775807 := by have := h.hle; have := h.hcap; omega
  have cO := Lib.hid (fun z => off_own z hcell)
  clear h hl hcell
  go_enter Try.func63, Try.ntmps63
  go_wp2
  go_loop [8] (fun a => ∃ k : Nat, k ≤ n ∧ a = .int .i64 k ∧ Hid (∀ x ∈ l.take k, offB N x = false)) (fun a => n - (intOf a).toNat)
  case atStart => exact ⟨0, Nat.zero_le _, rfl, Lib.hid (fun x h => by simp at h)⟩
  case round =>
    obtain ⟨k, hk, rfl, hz⟩ := hrel
    by_cases hlt : k < n
    · have hkl : k < l.length := by rw [hlh.out]; exact hlt
      obtain ⟨b', o, rfl, hb, hc⟩ := hsh.out.read k hkl
      have hy := fun h => none_yet (P := offB N) hz.out hkl h
      have hf := fun h => found (P := offB N) hkl h
      obtain ⟨Y, hY⟩ : ∃ Y, l.getD k 0 = Y := ⟨_, rfl⟩
      rw [hY] at hc hy hf
      have d0 : (k : Int) < (n : Int) := by omega
      have d1 : decide (k < n) = true := decide_eq_true hlt
      have k0 : (0 : Int) ≤ (k : Int) := by omega
      have cO := cO.out Y
      rcases he : offB N Y with _ | _
      · have hz2 := Lib.hid (hy he)
        rw [he] at cO
        have cO := Lib.hid cO
        clear hY hy hf hz hkl he
        go_wp2_with fail
        refine cO.out.mono ?_
        rintro e w1 ⟨rfl, rfl⟩
        go_wp2
        go_round
        case rel => exact ⟨k + 1, by omega, by go_num, hz2⟩
        case measure => simp [intOf]; omega
      · have hal := Lib.hid (hf he)
        rw [he] at cO
        have cO := Lib.hid cO
        clear hY hy hf hz hkl he
        go_wp2_with fail
        refine cO.out.mono ?_
        rintro e w1 ⟨rfl, rfl⟩
        go_wp2
        go_ret
        exact ⟨_, rfl, by rw [hal.out]; exact decide_eq_true k0, rfl⟩
    · have hal := Lib.hid (none_at_all (P := offB N) hz.out (by rw [hlh.out]; omega))
      have d0 : ¬ (k : Int) < (n : Int) := by omega
      have d1 : decide (k < n) = false := decide_eq_false hlt
      go_wp2
      go_ret
      exact ⟨_, rfl, by rw [hal.out]; rfl, rfl⟩
set_option maxHeartbeats 1000000 in
theorem containsOff_own {A : Option Addr} {n c N b : Nat} {l : List Int} {w : World} (h : IsInts w A c l) (hl : l.length = n) (hcell : w.cell? ⟨b, 0, none⟩ = some (.int .i64 (N : Int))) :
    Calls Try.prog 41 #[.slice A n c, .func (.func 42) #[] #[.pointer (some ⟨b, 0, none⟩)]] w fun e w' => e = .returned (.bool (l.any (offB N))) ∧ w = w' := by
  have cI := Lib.hid (indexOff_own h hl hcell)
  obtain ⟨B, hB⟩ : ∃ B, l.any (offB N) = B := ⟨_, rfl⟩
  rw [hB]
  have hBh := Lib.hid hB
  clear h hl hB hcell
  go_enter Try.func41, Try.ntmps41
  go_wp2_with fail
  refine cI.out.mono ?_
  rintro e w1 ⟨i, rfl, hi, rfl⟩
  rw [hBh.out] at hi
  go_wp2
  go_ret
  exact ⟨rfl, rfl⟩
set_option maxHeartbeats 1000000 in
theorem are_own {A : Option Addr} {n c N : Nat} {l : List Int} {w : World} (h : IsInts w A c l) (hl : l.length = n) :
    Calls Try.prog 23 #[.slice A n c, .int .i64 (N : Int)] w fun e w' => e = .returned (.bool (!(l.any (offB N)))) ∧ Below w.heap.size w w' := by
  have hmf : ∀ (fn : Fn) (first cap : Array Value) (w : World), (Instr.makeFunc fn first cap).run Try.prog w = .ok (.func fn first cap) w := fun _ _ _ _ => rfl
  have hbW := mb w (.cells #[.int .i64 (N : Int)] 3)
  have hcell : (w.alloc (.cells #[.int .i64 (N : Int)] 3)).cell? ⟨w.heap.size, 0, none⟩ = some (.int .i64 (N : Int)) := by simp
  have cC := Lib.hid (containsOff_own (h.below hbW) hl hcell)
  obtain ⟨B, hB⟩ : ∃ B, l.any (offB N) = B := ⟨_, rfl⟩
  rw [hB] at cC ⊢
  have hbW := Lib.hid hbW
  clear h hl hB hcell
  go_enter Try.func23, Try.ntmps23
  go_wp2_with fail
  refine cC.out.mono ?_
  rintro e w1 ⟨rfl, rfl⟩
  go_wp2
  go_ret
  exact ⟨rfl, hbW.out⟩

/-! ### indices with a property, in order -/
def fk (P : Nat → Bool) (k : Nat) : List Int := ((List.range k).filter P).map fun (i : Nat) => (i : Int)
theorem fk_len (P : Nat → Bool) (k : Nat) : (fk P k).length = cnt k P := by
  unfold fk cnt
  rw [List.length_map]
theorem fk_yes {P : Nat → Bool} {k : Nat} (h : P k = true) : fk P (k + 1) = fk P k ++ [(k : Int)] := by
  unfold fk
  rw [List.range_succ, List.filter_append, List.map_append]
  simp [h]
theorem fk_no {P : Nat → Bool} {k : Nat} (h : P k = false) : fk P (k + 1) = fk P k := by
  unfold fk
  rw [List.range_succ, List.filter_append, List.map_append]
  simp [h]
theorem fk_fit (P : Nat → Bool) (k : Nat) (hk : k ≤ 1000000) : ∀ z ∈ fk P k, -9223372036854775808 ≤ z ∧ z ≤ 9223372036854775807 := by
  intro z hz
  unfold fk at hz
  obtain ⟨i, hi, rfl⟩ := List.mem_map.1 hz
  have := List.mem_range.1 (List.mem_filter.1 hi).1
  omega
theorem fk_mem {P : Nat → Bool} {k : Nat} {i : Nat} : (i : Int) ∈ fk P k ↔ i < k ∧ P i = true := by
  unfold fk
  rw [List.mem_map]
  constructor
  · rintro ⟨j, hj, e⟩
    obtain ⟨h1, h2⟩ := List.mem_filter.1 hj
    have : j = i := by omega
    subst this
    exact ⟨List.mem_range.1 h1, h2⟩
  · rintro ⟨h1, h2⟩
    exact ⟨i, List.mem_filter.2 ⟨List.mem_range.2 h1, h2⟩, rfl⟩
/-- A list of integers that a call hands back. -/
def GivesI (w : World) (l : List Int) (e : Ending) (w' : World) : Prop := ∃ A n c, l.length = n ∧ e = .returned (.slice A n c) ∧ IsInts w' A c l ∧ Below w.heap.size w w'
set_option maxRecDepth 100000 in
set_option maxHeartbeats 2000000 in
theorem distinct_own {A : Option Addr} {n c N : Nat} {l : List Int} {w : World} (h : IsInts w A c l) (hl : l.length = n) (hN : N ≤ 1000) :
    Calls Try.prog 24 #[.slice A n c, .int .i64 (N : Int)] w (GivesI w (fk (Lof l) N)) := by
  obtain ⟨j0, hj, hy0, hy1, hy2⟩ := info_parts info_int
  have hsh := Lib.hid h
  have hlh := Lib.hid hl
  clear h hl
  go_enter Try.func24, Try.ntmps24
  go_wp2
  go_loopw [5, 8] (fun v x wr => ∃ k m : Nat, k ≤ N ∧ m ≤ k ∧ x = .int .i64 k ∧ wr.ownsRow w.heap.size 3 1 v m (is (fk (Lof l) k)) ∧ Below w.heap.size w wr) (fun _ x _ => N - (intOf x).toNat)
  case atStart => exact ⟨0, 0, Nat.zero_le _, Nat.le_refl _, rfl, World.ownsRow_nil _ _ _ _, Below.refl _ _⟩
  case round =>
    obtain ⟨k, m, hk, hmk, rfl, hown, hb⟩ := hrel
    by_cases hlt : k < N
    · have cC := contains_own (k : Int) (hsh.out.below hb) hlh.out
      have d0 : (k : Int) < (N : Int) := by omega
      have d1 : decide (k < N) = true := decide_eq_true hlt
      rcases he : decide ((k : Int) ∈ l) with _ | _
      · rw [he] at cC
        have cC := Lib.hid cC
        have hs := Lib.hid (fk_no (P := Lof l) (k := k) he)
        clear he
        go_wp2_with fail
        refine cC.out.mono ?_
        rintro e w1 ⟨rfl, rfl⟩
        rw [← hs.out] at hown
        go_wp2
        go_roundw
        case rel => exact ⟨k + 1, m, by omega, by omega, by go_num, hown, hb⟩
        case measure => simp [intOf]; omega
      · rw [he] at cC
        have cC := Lib.hid cC
        have hs := Lib.hid (fk_yes (P := Lof l) (k := k) he)
        clear he
        go_wp2_with fail
        refine cC.out.mono ?_
        rintro e w1 ⟨rfl, rfl⟩
        clear cC
        go_wp2_with (at_builtin; refine wpList_append_own _ rfl _ _ 22 rfl w.heap.size 3 j0 (.int .i64 0) 1 8 Try.underlying22 hj hy0 hy1 hy2 rfl (by decide) _ _ _ rfl (hown.alloc _) ⟨wr.heap.size, 0, none⟩ 1 1 [.int .i64 (k : Int)] rfl rfl (one_new _ _ _) (one_cell _ _) ?d3 ?d4 ?d5 ?_)
        case d3 => unfold maxLen; omega
        case d4 => omega
        case d5 => have := hb.size; simp; omega
        intro v' w2 hown2 hgr _
        rw [show [Value.int .i64 (k : Int)] = is [(k : Int)] from rfl, ← is_append, ← hs.out] at hown2
        have hb2 := (hb.alloc hb.size _).grown hgr (by have := hb.size; simp; omega) (fun j hj => (hown.lt j hj).1)
        clear hown hgr hb
        go_wp2
        go_roundw
        case rel => exact ⟨k + 1, m + 1, by omega, by omega, by go_num, hown2, hb2⟩
        case measure => simp [intOf]; omega
    · have hke : k = N := by omega
      have d0 : ¬ (k : Int) < (N : Int) := by omega
      have d1 : decide (k < N) = false := decide_eq_false hlt
      obtain ⟨A', c', rfl, _, _⟩ := own_slice hown
      obtain ⟨hsl, hlen⟩ := IsInts.of_own hown (fk_fit (Lof l) k (by omega))
      rw [hke] at hsl hlen
      have hsl := Lib.hid hsl
      have hlen := Lib.hid hlen
      clear hown hke
      go_wp2
      go_ret
      exact ⟨A', m, c', hlen.out, rfl, hsl.out, hb⟩
/-- How many of the first k elements another list holds. -/
def comN (a b : List Int) : Nat := (a.filter fun z => decide (z ∈ b)).length
theorem comN_snoc (a b : List Int) (z : Int) : comN (a ++ [z]) b = comN a b + (if decide (z ∈ b) then 1 else 0) := by
  unfold comN
  rw [List.filter_append, List.length_append]
  cases h : decide (z ∈ b) <;> simp [List.filter_cons, h]
set_option maxRecDepth 100000 in
set_option maxHeartbeats 2000000 in
theorem common_own {A B : Option Addr} {n c m d : Nat} {a b : List Int} {w : World} (h : IsInts w A c a) (hl : a.length = n) (h' : IsInts w B d b) (hl' : b.length = m) :
    Calls Try.prog 26 #[.slice A n c, .slice B m d] w fun e w' => e = .returned (.int .i64 (comN a b : Int)) ∧ w = w' := by
  have hsh := Lib.hid h
  have hlh := Lib.hid hl
  have hn : n ≤ 9223372036854775807 := by have := h.hle; have := h.hcap; omega
  have cC := Lib.hid (fun z => contains_own z h' hl')
  clear h hl h' hl'
  go_enter Try.func26, Try.ntmps26
  go_wp2
  go_loop [5, 10] (fun s i => ∃ k t : Nat, k ≤ n ∧ t ≤ k ∧ i = .int .i64 k ∧ s = .int .i64 t ∧ Hid (comN (a.take k) b = t)) (fun _ i => n - (intOf i).toNat)
  case atStart => exact ⟨0, 0, Nat.zero_le _, Nat.le_refl _, rfl, rfl, Lib.hid rfl⟩
  case round =>
    obtain ⟨k, t, hk, ht, rfl, rfl, hz⟩ := hrel
    by_cases hlt : k < n
    · have hkl : k < a.length := by rw [hlh.out]; exact hlt
      obtain ⟨b', o, rfl, hb, hc⟩ := hsh.out.read k hkl
      have hst := comN_snoc (a.take k) b (a.getD k 0)
      rw [← int_snoc a k hkl, hz.out] at hst
      have cC := cC.out (a.getD k 0)
      obtain ⟨Y, hY⟩ : ∃ Y, a.getD k 0 = Y := ⟨_, rfl⟩
      rw [hY] at hc hst cC
      have d0 : (k : Int) < (n : Int) := by omega
      have d1 : decide (k < n) = true := decide_eq_true hlt
      have k0 : (0 : Int) ≤ (k : Int) := by omega
      rcases he : decide (Y ∈ b) with _ | _
      · rw [he] at cC hst
        have hst := Lib.hid (show comN (a.take (k + 1)) b = t from hst)
        have cC := Lib.hid cC
        clear hY hz hkl he
        go_wp2_with fail
        refine cC.out.mono ?_
        rintro e w1 ⟨rfl, rfl⟩
        go_wp2
        go_round
        case rel => exact ⟨k + 1, t, by omega, by omega, by go_num, rfl, hst⟩
        case measure => simp [intOf]; omega
      · rw [he] at cC hst
        have hst := Lib.hid (show comN (a.take (k + 1)) b = t + 1 from hst)
        have cC := Lib.hid cC
        clear hY hz hkl he
        go_wp2_with fail
        refine cC.out.mono ?_
        rintro e w1 ⟨rfl, rfl⟩
        go_wp2
        go_round
        case rel => exact ⟨k + 1, t + 1, by omega, by omega, by go_num, by go_num, hst⟩
        case measure => simp [intOf]; omega
    · have hfin := Lib.hid (show comN a b = t by rw [← hz.out, List.take_of_length_le (by rw [hlh.out]; omega)])
      have d0 : ¬ (k : Int) < (n : Int) := by omega
      have d1 : decide (k < n) = false := decide_eq_false hlt
      go_wp2
      go_ret
      exact ⟨by rw [hfin.out]; rfl, rfl⟩
end Go.Proofs.Ytkobcffkgaodbaa.G8
