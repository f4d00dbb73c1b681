/- The contracts of the landed effects of the instructions with two operands, layer 17. -/
import Derived.Test.YthmgocjmfhpafaaDoorM17Own4
import Derived.Laws.BitsAllLaws
namespace Go.Proofs.YthmgocjmfhpafaaDoor.M17
set_option maxRecDepth 100000
open Go.RowKit Mem
set_option linter.unusedVariables false
set_option linter.unusedSimpArgs false

section
variable {w0 w : World} {base B k M E P ic : Nat} {s : St} {D C O : Value} {IA : Option Addr} {vs : List Value}
theorem At.p (h : At w0 base w B s M E P D C O IA ic vs) : w.cell? ⟨P, 0, none⟩ = some (.pointer (some ⟨B, 0, none⟩)) := h.ptr.cell 0
theorem push_on (h : At w0 base w B s M E P D C O IA ic (rowV M E D C O IA ic s k)) (hl : s.ds.length < 256) {v : Nat} (hv : v < 4294967296) :
    Calls Tryd.prog 108 #[.pointer (some ⟨B, 1, none⟩), .int .u32 (v : Int)] w fun e w' => e = .returned (.tuple #[]) ∧ On w0 base w' B { s with ds := v :: s.ds } k :=
  (pushD_own h rfl rfl hl hv).mono fun e w' ⟨he, D', h'⟩ => ⟨he, h'.on⟩
set_option maxHeartbeats 4000000 in
theorem eff_add (h : At w0 base w B s M E P D C O IA ic (rowV M E D C O IA ic s k)) (hl : s.ds.length < 256) (a b : Nat) :
    Calls Tryd.prog 107 #[.int .u32 (a : Int), .int .u32 (b : Int), .pointer (some ⟨P, 0, none⟩)] w fun e w' => e = .returned (.tuple #[]) ∧ On w0 base w' B { s with ds := (a + b) % 4294967296 :: s.ds } k := by
  have cp := h.p
  obtain ⟨v, hv⟩ : ∃ v, (a + b) % 4294967296 = v := ⟨_, rfl⟩
  have c := Lib.hid (push_on h hl (v := v) (by omega))
  have e1 : ((a : Int) + (b : Int)) % 4294967296 = (v : Int) := by omega
  rw [hv]
  clear hv h hl
  go_enter Tryd.func107, Tryd.ntmps107
  go_wp2_with fail
  refine (c.out).mono ?_
  rintro e w1 ⟨rfl, h'⟩
  replace h' := Lib.hid h'
  go_wp2
  first | go_end0 | skip
  exact ⟨rfl, h'.out⟩
set_option maxHeartbeats 4000000 in
theorem eff_sub (h : At w0 base w B s M E P D C O IA ic (rowV M E D C O IA ic s k)) (hl : s.ds.length < 256) (a b : Nat) (hb : b < 4294967296) :
    Calls Tryd.prog 109 #[.int .u32 (a : Int), .int .u32 (b : Int), .pointer (some ⟨P, 0, none⟩)] w fun e w' => e = .returned (.tuple #[]) ∧ On w0 base w' B { s with ds := (a + 4294967296 - b) % 4294967296 :: s.ds } k := by
  have cp := h.p
  obtain ⟨v, hv⟩ : ∃ v, (a + 4294967296 - b) % 4294967296 = v := ⟨_, rfl⟩
  have c := Lib.hid (push_on h hl (v := v) (by omega))
  have e1 : ((a : Int) - (b : Int)) % 4294967296 = (v : Int) := by omega
  rw [hv]
  clear hv h hl hb
  go_enter Tryd.func109, Tryd.ntmps109
  go_wp2_with fail
  refine (c.out).mono ?_
  rintro e w1 ⟨rfl, h'⟩
  replace h' := Lib.hid h'
  go_wp2
  first | go_end0 | skip
  exact ⟨rfl, h'.out⟩
set_option maxHeartbeats 4000000 in
theorem eff_mul (h : At w0 base w B s M E P D C O IA ic (rowV M E D C O IA ic s k)) (hl : s.ds.length < 256) (a b : Nat) :
    Calls Tryd.prog 110 #[.int .u32 (a : Int), .int .u32 (b : Int), .pointer (some ⟨P, 0, none⟩)] w fun e w' => e = .returned (.tuple #[]) ∧ On w0 base w' B { s with ds := a * b % 4294967296 :: s.ds } k := by
  have cp := h.p
  obtain ⟨v, hv⟩ : ∃ v, a * b % 4294967296 = v := ⟨_, rfl⟩
  have c := Lib.hid (push_on h hl (v := v) (by omega))
  have e1 : ((a : Int) * (b : Int)) % 4294967296 = (v : Int) := by rw [← hv]; simp
  rw [hv]
  clear hv h hl
  go_enter Tryd.func110, Tryd.ntmps110
  go_wp2_with fail
  refine (c.out).mono ?_
  rintro e w1 ⟨rfl, h'⟩
  replace h' := Lib.hid h'
  go_wp2
  first | go_end0 | skip
  exact ⟨rfl, h'.out⟩
set_option maxHeartbeats 4000000 in
theorem eff_xor (h : At w0 base w B s M E P D C O IA ic (rowV M E D C O IA ic s k)) (hl : s.ds.length < 256) (a b : Nat) (ha : a < 4294967296) (hb : b < 4294967296) :
    Calls Tryd.prog 114 #[.int .u32 (a : Int), .int .u32 (b : Int), .pointer (some ⟨P, 0, none⟩)] w fun e w' => e = .returned (.tuple #[]) ∧ On w0 base w' B { s with ds := (a ^^^ b) :: s.ds } k := by
  have cp := h.p
  have e1 := u32_xor_nat a b ha hb
  have hv2 : a ^^^ b < 4294967296 := Nat.xor_lt_two_pow (n := 32) ha hb
  obtain ⟨v, hv⟩ : ∃ v, a ^^^ b = v := ⟨_, rfl⟩
  rw [hv] at e1 hv2 ⊢
  have c := Lib.hid (push_on h hl (v := v) hv2)
  clear hv h hl ha hb hv2
  go_enter Tryd.func114, Tryd.ntmps114
  go_wp2_with fail
  refine (c.out).mono ?_
  rintro e w1 ⟨rfl, h'⟩
  replace h' := Lib.hid h'
  go_wp2
  first | go_end0 | skip
  exact ⟨rfl, h'.out⟩
set_option maxHeartbeats 4000000 in
theorem eff_lss (h : At w0 base w B s M E P D C O IA ic (rowV M E D C O IA ic s k)) (hl : s.ds.length < 256) (a b : Nat) :
    Calls Tryd.prog 115 #[.int .u32 (a : Int), .int .u32 (b : Int), .pointer (some ⟨P, 0, none⟩)] w fun e w' => e = .returned (.tuple #[]) ∧ On w0 base w' B { s with ds := (if a < b then 1 else 0) :: s.ds } k := by
  have cp := h.p
  have c1 := fun W => truth_own (decide (a < b)) W
  have e1 : decide ((a : Int) < (b : Int)) = decide (a < b) := by
    by_cases hab : a < b
    · rw [decide_eq_true hab, decide_eq_true (by omega)]
    · rw [decide_eq_false hab, decide_eq_false (by omega)]
  have e2 : (if decide (a < b) then 1 else 0 : Nat) = if a < b then 1 else 0 := by simp
  rw [e2] at c1
  obtain ⟨v, hv⟩ : ∃ v, (if a < b then 1 else 0 : Nat) = v := ⟨_, rfl⟩
  have c := Lib.hid (push_on h.drew hl (v := v) (by rw [← hv]; split <;> omega))
  rw [hv] at c1 ⊢
  replace c1 := Lib.hid c1
  clear hv h hl e2 e1
  go_enter Tryd.func115, Tryd.ntmps115
  go_wp2_with fail
  go_region_with (first | (go_at_call 116; with_reducible refine (c1.out _).mono ?_; rintro e w1 ⟨rfl, rfl⟩) | (go_at_call 108; with_reducible refine (c.out).mono ?_; rintro e w1 ⟨rfl, h'⟩; replace h' := Lib.hid h'))
  all_goals (
    go_wp2
    first | go_end0 | skip
    exact ⟨rfl, h'.out⟩)
set_option maxHeartbeats 4000000 in
theorem eff_div (h : At w0 base w B s M E P D C O IA ic (rowV M E D C O IA ic s k)) (hl : s.ds.length < 256) (a b : Nat) (ha : a < 4294967296) (hb : ¬ b = 0) :
    Calls Tryd.prog 111 #[.int .u32 (a : Int), .int .u32 (b : Int), .pointer (some ⟨P, 0, none⟩)] w fun e w' => e = .returned (.tuple #[]) ∧ On w0 base w' B { s with ds := a / b :: s.ds } k := by
  have cp := h.p
  have c1 := Lib.hid (fun W => divisor_own b hb W)
  obtain ⟨v, hv⟩ : ∃ v, a / b = v := ⟨_, rfl⟩
  have hv2 : v < 4294967296 := by rw [← hv]; exact Nat.lt_of_le_of_lt (by first | exact Nat.div_le_self _ _ | exact Nat.mod_le _ _) ha
  have c := Lib.hid (push_on h.drew hl (v := v) hv2)
  have e0 : (a : Int) / (b : Int) = (v : Int) := by rw [← hv]; simp
  have e1 : (a : Int).tdiv (b : Int) = (v : Int) := by rw [← hv]; exact (Int.ofNat_tdiv a b).symm
  have v0 : (0 : Int) ≤ (v : Int) := by omega
  have v1 : (v : Int) < 4294967296 := by omega
  have b0 : ¬ (b : Int) = 0 := by omega
  have v2 : IntKind.u32.wrap (v : Int) = (v : Int) := by rw [IntKind.wrap_u32]; omega
  rw [hv]
  clear hv h hl ha hv2
  go_enter Tryd.func111, Tryd.ntmps111
  go_wp2_with fail
  go_region_with (first | (go_at_call 112; with_reducible refine (c1.out _).mono ?_; rintro e w1 ⟨rfl, rfl⟩) | (go_at_call 108; with_reducible refine (c.out).mono ?_; rintro e w1 ⟨rfl, h'⟩; replace h' := Lib.hid h'))
  all_goals (
    go_wp2
    first | go_end0 | skip
    exact ⟨rfl, h'.out⟩)
set_option maxHeartbeats 4000000 in
theorem eff_rem (h : At w0 base w B s M E P D C O IA ic (rowV M E D C O IA ic s k)) (hl : s.ds.length < 256) (a b : Nat) (ha : a < 4294967296) (hb : ¬ b = 0) :
    Calls Tryd.prog 113 #[.int .u32 (a : Int), .int .u32 (b : Int), .pointer (some ⟨P, 0, none⟩)] w fun e w' => e = .returned (.tuple #[]) ∧ On w0 base w' B { s with ds := a % b :: s.ds } k := by
  have cp := h.p
  have c1 := Lib.hid (fun W => divisor_own b hb W)
  obtain ⟨v, hv⟩ : ∃ v, a % b = v := ⟨_, rfl⟩
  have hv2 : v < 4294967296 := by rw [← hv]; exact Nat.lt_of_le_of_lt (by first | exact Nat.div_le_self _ _ | exact Nat.mod_le _ _) ha
  have c := Lib.hid (push_on h.drew hl (v := v) hv2)
  have e0 : (a : Int) % (b : Int) = (v : Int) := by rw [← hv]; simp
  have e1 : (a : Int).tmod (b : Int) = (v : Int) := by rw [← hv]; exact (Int.ofNat_tmod a b).symm
  have v0 : (0 : Int) ≤ (v : Int) := by omega
  have v1 : (v : Int) < 4294967296 := by omega
  have b0 : ¬ (b : Int) = 0 := by omega
  have v2 : IntKind.u32.wrap (v : Int) = (v : Int) := by rw [IntKind.wrap_u32]; omega
  rw [hv]
  clear hv h hl ha hv2
  go_enter Tryd.func113, Tryd.ntmps113
  go_wp2_with fail
  go_region_with (first | (go_at_call 112; with_reducible refine (c1.out _).mono ?_; rintro e w1 ⟨rfl, rfl⟩) | (go_at_call 108; with_reducible refine (c.out).mono ?_; rintro e w1 ⟨rfl, h'⟩; replace h' := Lib.hid h'))
  all_goals (
    go_wp2
    first | go_end0 | skip
    exact ⟨rfl, h'.out⟩)
theorem eff_div_bad (h : At w0 base w B s M E P D C O IA ic vs) (a : Nat) :
    Calls Tryd.prog 111 #[.int .u32 (a : Int), .int .u32 0, .pointer (some ⟨P, 0, none⟩)] w fun e w' => e = .panicked [tr] ∧ ∃ n, w' = w.drewN n := by
  have cp := h.p
  have c := Lib.hid (fun W => divisor_bad W)
  clear h
  go_enter Tryd.func111, Tryd.ntmps111
  go_wp2_with fail
  refine wp_region_held_drew (S := fun W => W = w.drew) (by kernel_rfl) rfl (fun hHeld => ?_)
  refine wpAnyH_take (i := 0) (v := .pointer (some ⟨B, 0, none⟩)) rfl (by kernel_rfl) (by kernel_rfl) (by kernel_rfl) (fun _ _ _ h => h) (Or.inl ⟨by rfl, ?h0⟩) (by assumption) ?r0
  case h0 =>
    intro W hW
    subst hW
    go_simp
  simp only [Act.put, List.setIfInBounds_toArray, List.set_cons_zero, List.set_cons_succ]
  refine wpAnyH_take (i := 1) (v := .pointer (some ⟨B, 0, none⟩)) rfl (by kernel_rfl) (by kernel_rfl) (by kernel_rfl) (fun _ _ _ h => h) (Or.inl ⟨by rfl, ?h1⟩) (by assumption) ?r1
  case h1 =>
    intro W hW
    subst hW
    go_simp
  simp only [Act.put, List.setIfInBounds_toArray, List.set_cons_zero, List.set_cons_succ]
  refine wpAnyH_take (i := 2) (v := .pointer (some ⟨B, 1, none⟩)) rfl (by kernel_rfl) (by kernel_rfl) (by kernel_rfl) (fun _ _ _ h => h) (Or.inl ⟨by rfl, ?h2⟩) (by assumption) ?r2
  case h2 =>
    intro W hW
    subst hW
    go_simp
  simp only [Act.put, List.setIfInBounds_toArray, List.set_cons_zero, List.set_cons_succ]
  refine wpAnyH_take (i := 3) (v := .int .u32 (a : Int)) rfl (by kernel_rfl) (by kernel_rfl) (by kernel_rfl) (fun _ _ _ h => h) (Or.inl ⟨by rfl, ?h3⟩) (by assumption) ?r3
  case h3 =>
    intro W hW
    subst hW
    go_simp
  simp only [Act.put, List.setIfInBounds_toArray, List.set_cons_zero, List.set_cons_succ]
  refine wpAnyH_take (i := 4) (v := .int .u32 0) rfl (by kernel_rfl) (by kernel_rfl) (by kernel_rfl) (fun _ _ _ h => h) (Or.inl ⟨by rfl, ?h4⟩) (by assumption) ?r4
  case h4 =>
    intro W hW
    subst hW
    go_simp
  simp only [Act.put, List.setIfInBounds_toArray, List.set_cons_zero, List.set_cons_succ]
  refine wpAnyH_ready (rs := [5]) (by kernel_rfl) (by simp) ?_
  refine AllReadyH.cons rfl (fun K hK => ?_) AllReadyH.nil
  go_simp
  refine (c.out _).mono ?_
  rintro e w1 ⟨rfl, rfl⟩
  exact ⟨rfl, rfl, 1, rfl⟩
theorem eff_rem_bad (h : At w0 base w B s M E P D C O IA ic vs) (a : Nat) :
    Calls Tryd.prog 113 #[.int .u32 (a : Int), .int .u32 0, .pointer (some ⟨P, 0, none⟩)] w fun e w' => e = .panicked [tr] ∧ ∃ n, w' = w.drewN n := by
  have cp := h.p
  have c := Lib.hid (fun W => divisor_bad W)
  clear h
  go_enter Tryd.func113, Tryd.ntmps113
  go_wp2_with fail
  refine wp_region_held_drew (S := fun W => W = w.drew) (by kernel_rfl) rfl (fun hHeld => ?_)
  refine wpAnyH_take (i := 0) (v := .pointer (some ⟨B, 0, none⟩)) rfl (by kernel_rfl) (by kernel_rfl) (by kernel_rfl) (fun _ _ _ h => h) (Or.inl ⟨by rfl, ?h0⟩) (by assumption) ?r0
  case h0 =>
    intro W hW
    subst hW
    go_simp
  simp only [Act.put, List.setIfInBounds_toArray, List.set_cons_zero, List.set_cons_succ]
  refine wpAnyH_take (i := 1) (v := .pointer (some ⟨B, 0, none⟩)) rfl (by kernel_rfl) (by kernel_rfl) (by kernel_rfl) (fun _ _ _ h => h) (Or.inl ⟨by rfl, ?h1⟩) (by assumption) ?r1
  case h1 =>
    intro W hW
    subst hW
    go_simp
  simp only [Act.put, List.setIfInBounds_toArray, List.set_cons_zero, List.set_cons_succ]
  refine wpAnyH_take (i := 2) (v := .pointer (some ⟨B, 1, none⟩)) rfl (by kernel_rfl) (by kernel_rfl) (by kernel_rfl) (fun _ _ _ h => h) (Or.inl ⟨by rfl, ?h2⟩) (by assumption) ?r2
  case h2 =>
    intro W hW
    subst hW
    go_simp
  simp only [Act.put, List.setIfInBounds_toArray, List.set_cons_zero, List.set_cons_succ]
  refine wpAnyH_take (i := 3) (v := .int .u32 (a : Int)) rfl (by kernel_rfl) (by kernel_rfl) (by kernel_rfl) (fun _ _ _ h => h) (Or.inl ⟨by rfl, ?h3⟩) (by assumption) ?r3
  case h3 =>
    intro W hW
    subst hW
    go_simp
  simp only [Act.put, List.setIfInBounds_toArray, List.set_cons_zero, List.set_cons_succ]
  refine wpAnyH_take (i := 4) (v := .int .u32 0) rfl (by kernel_rfl) (by kernel_rfl) (by kernel_rfl) (fun _ _ _ h => h) (Or.inl ⟨by rfl, ?h4⟩) (by assumption) ?r4
  case h4 =>
    intro W hW
    subst hW
    go_simp
  simp only [Act.put, List.setIfInBounds_toArray, List.set_cons_zero, List.set_cons_succ]
  refine wpAnyH_ready (rs := [5]) (by kernel_rfl) (by simp) ?_
  refine AllReadyH.cons rfl (fun K hK => ?_) AllReadyH.nil
  go_simp
  refine (c.out _).mono ?_
  rintro e w1 ⟨rfl, rfl⟩
  exact ⟨rfl, rfl, 1, rfl⟩
set_option maxHeartbeats 4000000 in
theorem eff_put (h : At w0 base w B s M E P D C O IA ic (rowV M E D C O IA ic s k)) (a b : Nat) (ha : a < 4294967296) (hb : b < 262144) :
    Calls Tryd.prog 117 #[.int .u32 (a : Int), .int .u32 (b : Int), .pointer (some ⟨P, 0, none⟩)] w fun e w' => e = .returned (.tuple #[]) ∧ On w0 base w' B { s with mem := upd s.mem b a } k := by
  have cp := h.p
  obtain ⟨c0, _⟩ := h.f (i := 0) (v := memV M) rfl
  unfold memV at c0
  have cm := h.mem.cell b hb
  have fm := h.mem.frz b
  have c := Lib.hid (fun W => address_own b hb W)
  have b0 : (0 : Int) ≤ (b : Int) := by omega
  have b1 : (b : Int) < 262144 := by omega
  have fin := Lib.hid (At.on (h.drew.setMem b ha))
  clear h ha
  go_enter Tryd.func117, Tryd.ntmps117
  go_wp2_with fail
  go_region_with (go_at_call 118; with_reducible refine (c.out _).mono ?_; rintro e w1 ⟨rfl, rfl⟩)
  all_goals (
    go_wp2
    first | go_end0 | skip
    exact ⟨rfl, fin.out⟩)
theorem eff_put_bad (h : At w0 base w B s M E P D C O IA ic vs) (h0 : vs[0]? = some (memV M)) (a b : Nat) (hb : ¬ b < 262144) :
    Calls Tryd.prog 117 #[.int .u32 (a : Int), .int .u32 (b : Int), .pointer (some ⟨P, 0, none⟩)] w fun e w' => e = .panicked [tr] ∧ ∃ n, w' = w.drewN n := by
  have cp := h.p
  obtain ⟨c0, _⟩ := h.f (i := 0) (v := memV M) h0
  unfold memV at c0
  have c := Lib.hid (fun W => address_bad b hb W)
  clear h hb
  go_enter Tryd.func117, Tryd.ntmps117
  go_wp2_with fail
  refine wp_region_held_drew (S := fun W => W = w.drew) (by kernel_rfl) rfl (fun hHeld => ?_)
  refine wpAnyH_take (i := 0) (v := .pointer (some ⟨B, 0, none⟩)) rfl (by kernel_rfl) (by kernel_rfl) (by kernel_rfl) (fun _ _ _ h => h) (Or.inl ⟨by rfl, ?h0⟩) (by assumption) ?r0
  case h0 =>
    intro W hW
    subst hW
    go_simp
  simp only [Act.put, List.setIfInBounds_toArray, List.set_cons_zero, List.set_cons_succ]
  refine wpAnyH_take (i := 1) (v := .pointer (some ⟨B, 0, none⟩)) rfl (by kernel_rfl) (by kernel_rfl) (by kernel_rfl) (fun _ _ _ h => h) (Or.inl ⟨by rfl, ?h1⟩) (by assumption) ?r1
  case h1 =>
    intro W hW
    subst hW
    go_simp
  simp only [Act.put, List.setIfInBounds_toArray, List.set_cons_zero, List.set_cons_succ]
  refine wpAnyH_take (i := 2) (v := .pointer (some ⟨B, 0, none⟩)) rfl (by kernel_rfl) (by kernel_rfl) (by kernel_rfl) (fun _ _ _ h => h) (Or.inl ⟨by rfl, ?h2⟩) (by assumption) ?r2
  case h2 =>
    intro W hW
    subst hW
    go_simp
  simp only [Act.put, List.setIfInBounds_toArray, List.set_cons_zero, List.set_cons_succ]
  refine wpAnyH_take (i := 3) (v := .slice (some ⟨M, 0, none⟩) 262144 262144) rfl (by kernel_rfl) (by kernel_rfl) (by kernel_rfl) (fun _ _ _ h => h) (Or.inl ⟨by rfl, ?h3⟩) (by assumption) ?r3
  case h3 =>
    intro W hW
    subst hW
    go_simp
  simp only [Act.put, List.setIfInBounds_toArray, List.set_cons_zero, List.set_cons_succ]
  refine wpAnyH_take (i := 4) (v := .int .u32 (b : Int)) rfl (by kernel_rfl) (by kernel_rfl) (by kernel_rfl) (fun _ _ _ h => h) (Or.inl ⟨by rfl, ?h4⟩) (by assumption) ?r4
  case h4 =>
    intro W hW
    subst hW
    go_simp
  simp only [Act.put, List.setIfInBounds_toArray, List.set_cons_zero, List.set_cons_succ]
  refine wpAnyH_take (i := 6) (v := .int .u32 (a : Int)) rfl (by kernel_rfl) (by kernel_rfl) (by kernel_rfl) (fun _ _ _ h => h) (Or.inl ⟨by rfl, ?h5⟩) (by assumption) ?r5
  case h5 =>
    intro W hW
    subst hW
    go_simp
  simp only [Act.put, List.setIfInBounds_toArray, List.set_cons_zero, List.set_cons_succ]
  refine wpAnyH_ready (rs := [5]) (by kernel_rfl) (by simp) ?_
  refine AllReadyH.cons rfl (fun K hK => ?_) AllReadyH.nil
  go_simp
  refine (c.out _).mono ?_
  rintro e w1 ⟨rfl, rfl⟩
  exact ⟨rfl, rfl, 1, rfl⟩
set_option maxHeartbeats 4000000 in
theorem eff_jump (h : At w0 base w B s M E P D C O IA ic (rowV M E D C O IA ic s k)) (a b : Nat) (hb : b < 4294967296) :
    Calls Tryd.prog 119 #[.int .u32 (a : Int), .int .u32 (b : Int), .pointer (some ⟨P, 0, none⟩)] w fun e w' => e = .returned (.tuple #[]) ∧ On w0 base w' B { s with pc := if a = 0 then b else s.pc } k := by
  have cp := h.p
  obtain ⟨c5, f5⟩ := h.f (i := 5) (v := .int .u32 (s.pc : Int)) rfl
  by_cases ha : a = 0
  · have fin := Lib.hid (At.on ((h.field 5 (.int .u32 (b : Int))).st (s' := { s with pc := b }) rfl rfl rfl rfl rfl ⟨h.ok.mem, hb, h.ok.ds, h.ok.cs, h.ok.inp, h.ok.dl, h.ok.cl⟩) : On w0 base _ B { s with pc := b } k)
    rw [if_pos ha]
    subst ha
    rw [show ((0 : Nat) : Int) = 0 from rfl]
    clear h hb
    go_enter Tryd.func119, Tryd.ntmps119
    go_wp2
    first | go_end0 | skip
    exact ⟨rfl, fin.out⟩
  · have fin := Lib.hid h.on
    rw [if_neg ha]
    have e1 : ((a : Int) == 0) = false := by simpa using ha
    clear h hb
    go_enter Tryd.func119, Tryd.ntmps119
    go_wp2
    first | go_end0 | skip
    exact ⟨rfl, fin.out⟩
end
end Go.Proofs.YthmgocjmfhpafaaDoor.M17
