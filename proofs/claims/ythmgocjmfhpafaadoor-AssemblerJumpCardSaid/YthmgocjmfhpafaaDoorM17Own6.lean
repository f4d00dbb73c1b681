/- The contract of the landed applyToTwo of layer 17. -/
import Derived.Test.YthmgocjmfhpafaaDoorM17Own5
import Derived.Shelf.Abstract
namespace Go.Proofs.YthmgocjmfhpafaaDoor.M17
set_option maxRecDepth 100000
open Go.RowKit Mem
set_option linter.unusedVariables false
set_option linter.unusedSimpArgs false

theorem fn_zero (w : World) : ∃ z, (zeroValue 132).run Tryd.prog w = .ok z w := by
  have h : ∃ i, Tryd.prog.info? 132 = some i ∧ ∃ z, i.zero = some z := by
    have h : (Tryd.prog.info? 132).map (fun i => i.zero.isSome) = some true := by kernel_rfl
    cases hi : Tryd.prog.info? 132 with
    | none => rw [hi] at h; cases h
    | some i =>
      rw [hi] at h
      refine ⟨i, rfl, ?_⟩
      cases hz : i.zero with
      | none => rw [Option.map_some, hz] at h; cases h
      | some z => exact ⟨z, rfl⟩
  obtain ⟨i, hi, z, hz⟩ := h
  exact ⟨z, by unfold zeroValue; simp only [Sem.run_bind, run_typeInfo w hi, hz, Result.andThen]; rfl⟩
theorem find_eff {c : Nat} {P : Nat} {r : Option (Nat × Value)} (h : Instr.findNow (.int .u32) (.int .u32 (c : Int)) (eff P).toList 0 = some r) (w : World) (E : Nat) (hE : w.heap[E]? = some (.map (eff P) 9)) :
    (∀ i v, r = some (i, v) → (Instr.lookup 90 (.map (some E)) (.int .u32 (c : Int)) true).run Tryd.prog w = .ok (.tuple #[v, .bool true]) w) ∧
    (r = none → ∃ z, (Instr.lookup 90 (.map (some E)) (.int .u32 (c : Int)) true).run Tryd.prog w = .ok (.tuple #[z, .bool false]) w) := by
  obtain ⟨z, hz⟩ := fn_zero w
  have hk : MapKept.IsKey (.int .u32) (.int .u32 (c : Int)) := by simp [MapKept.IsKey]
  constructor
  · rintro i v rfl
    simp [Instr.lookup, run_underlying Tryd.underlying90, MapKept.run_getObj_map hE, MapKept.run_checkKey Tryd.underlying47 hk, MapKept.run_findKey Tryd.underlying47 h, Result.andThen]
  · rintro rfl
    refine ⟨z, ?_⟩
    simp [Instr.lookup, run_underlying Tryd.underlying90, MapKept.run_getObj_map hE, MapKept.run_checkKey Tryd.underlying47 hk, MapKept.run_findKey Tryd.underlying47 h, hz, Result.andThen]
theorem look_hit {c i : Nat} {P : Nat} {v : Value} (h : Instr.findNow (.int .u32) (.int .u32 (c : Int)) (eff P).toList 0 = some (some (i, v))) (w : World) (E : Nat) (hE : w.heap[E]? = some (.map (eff P) 9)) :
    (Instr.lookup 90 (.map (some E)) (.int .u32 (c : Int)) true).run Tryd.prog w = .ok (.tuple #[v, .bool true]) w := (find_eff h w E hE).1 i v rfl
theorem look_miss (w : World) (E P : Nat) (c : Nat) (hE : w.heap[E]? = some (.map (eff P) 9)) (h1 : c ≠ 43) (h2 : c ≠ 45) (h3 : c ≠ 42) (h4 : c ≠ 47) (h5 : c ≠ 37) (h6 : c ≠ 94) (h7 : c ≠ 60) (h8 : c ≠ 33) (h9 : c ≠ 63) :
    ∃ z, (Instr.lookup 90 (.map (some E)) (.int .u32 (c : Int)) true).run Tryd.prog w = .ok (.tuple #[z, .bool false]) w := by
  have t1 : ((c : Int) == 43) = false := by simp; omega
  have t2 : ((c : Int) == 45) = false := by simp; omega
  have t3 : ((c : Int) == 42) = false := by simp; omega
  have t4 : ((c : Int) == 47) = false := by simp; omega
  have t5 : ((c : Int) == 37) = false := by simp; omega
  have t6 : ((c : Int) == 94) = false := by simp; omega
  have t7 : ((c : Int) == 60) = false := by simp; omega
  have t8 : ((c : Int) == 33) = false := by simp; omega
  have t9 : ((c : Int) == 63) = false := by simp; omega
  refine (find_eff (r := none) ?_ w E hE).2 rfl
  unfold eff
  simp only [Instr.findNow, Instr.sameNow, if_true, t1, t2, t3, t4, t5, t6, t7, t8, t9]
section
variable {w0 w : World} {base B k M E P ic : Nat} {s : St} {D C O : Value} {IA : Option Addr} {vs : List Value}
theorem exec_two {c : Nat} (s : St) (h0 : ¬ (48 ≤ c ∧ c ≤ 57)) (h1 : ¬ (c = 32 ∨ c = 10)) (h2 : c ≠ 36) (h3 : c ≠ 64) (h4 : c ≠ 58) (h5 : c ≠ 59) (h6 : c ≠ 44) (h7 : c ≠ 46) : exec c s =
    match s.ds with
    | b :: a :: r =>
      if c = 33 then if 262144 ≤ b then .trap else .go { s with ds := r, mem := upd s.mem b a, dig := false }
      else if c = 63 then .go { s with ds := r, pc := if a = 0 then b else s.pc, dig := false }
      else match op2 c a b with
        | none => .trap
        | some v => .go { s with ds := v :: r, dig := false }
    | _ => .trap := by
  unfold exec
  rw [if_neg h0, if_neg h1, if_neg h2, if_neg h3, if_neg h4, if_neg h5, if_neg h6, if_neg h7]
  rfl
theorem apply_none (h : At w0 base w B s M E P D C O IA ic (rowV M E D C O IA ic s k)) {c : Nat} {v : Value} (hlook : (Instr.lookup 90 (.map (some E)) (.int .u32 (c : Int)) true).run Tryd.prog w = .ok (.tuple #[v, .bool true]) w) (hs : s.ds = []) :
    Calls Tryd.prog 124 #[.pointer (some ⟨B, 0, none⟩), .int .u32 (c : Int)] w fun e w' => e = .panicked [tr] ∧ w' = w := by
  obtain ⟨c7, _⟩ := h.f (i := 7) (v := .map (some E)) rfl
  have ct := Lib.hid (trapIf_no)
  have cp := Lib.hid (popD_bad h rfl hs)
  clear h hs
  go_enter Tryd.func124, Tryd.ntmps124
  go_wp2_with fail
  refine (ct.out _).mono ?_
  rintro e w1 ⟨rfl, rfl⟩
  go_wp2_with fail
  refine (cp.out).mono ?_
  rintro e w1 ⟨rfl, rfl⟩
  exact ⟨rfl, rfl, rfl⟩
theorem apply_miss (h : At w0 base w B s M E P D C O IA ic (rowV M E D C O IA ic s k)) {c : Nat} {v : Value} (hlook : (Instr.lookup 90 (.map (some E)) (.int .u32 (c : Int)) true).run Tryd.prog w = .ok (.tuple #[v, .bool false]) w) :
    Calls Tryd.prog 124 #[.pointer (some ⟨B, 0, none⟩), .int .u32 (c : Int)] w fun e w' => e = .panicked [tr] ∧ w' = w := by
  obtain ⟨c7, _⟩ := h.f (i := 7) (v := .map (some E)) rfl
  have ct := Lib.hid (trapIf_yes)
  clear h
  go_enter Tryd.func124, Tryd.ntmps124
  go_wp2_with fail
  refine (ct.out _).mono ?_
  rintro e w1 ⟨rfl, rfl⟩
  exact ⟨rfl, rfl, rfl⟩
theorem apply_one (h : At w0 base w B s M E P D C O IA ic (rowV M E D C O IA ic s k)) {c : Nat} {v : Value} (hlook : (Instr.lookup 90 (.map (some E)) (.int .u32 (c : Int)) true).run Tryd.prog w = .ok (.tuple #[v, .bool true]) w) {b : Nat} (hs : s.ds = [b]) :
    Calls Tryd.prog 124 #[.pointer (some ⟨B, 0, none⟩), .int .u32 (c : Int)] w fun e w' => e = .panicked [tr] ∧ On w0 base w' B { s with ds := [] } k := by
  obtain ⟨c7, _⟩ := h.f (i := 7) (v := .map (some E)) rfl
  have ct := Lib.hid (trapIf_no)
  have cp := Lib.hid (popD_own h rfl hs)
  have cp2 : ∀ (w1 : World) D', At w0 base w1 B { s with ds := [] } M E P D' C O IA ic ((rowV M E D C O IA ic s k).set 1 D') → Calls Tryd.prog 121 #[.pointer (some ⟨B, 1, none⟩)] w1 fun e w' => e = .panicked [tr] ∧ w' = w1 := fun w1 D' h' => popD_bad h' rfl rfl
  replace cp2 := Lib.hid cp2
  clear h hs
  go_enter Tryd.func124, Tryd.ntmps124
  go_wp2_with fail
  refine (ct.out _).mono ?_
  rintro e w1 ⟨rfl, rfl⟩
  go_wp2_with fail
  refine (cp.out).mono ?_
  rintro e w1 ⟨rfl, D', h'⟩
  replace h' := Lib.hid h'
  clear hlook
  go_wp2_with fail
  refine (cp2.out w1 D' h'.out).mono ?_
  rintro e w1 ⟨rfl, rfl⟩
  exact ⟨rfl, rfl, h'.out.on⟩
/-- What a closure with two operands leaves behind. -/
def Ct (w0 : World) (base B k : Nat) (o : List UInt8) (X : Option St) (e : Ending) (w' : World) : Prop :=
  match X with
  | some s' => e = .returned (.tuple #[]) ∧ On w0 base w' B s' k
  | none => e = .panicked [tr] ∧ ∃ s', s'.out = o ∧ On w0 base w' B s' k
set_option maxHeartbeats 4000000 in
theorem apply_two (h : At w0 base w B s M E P D C O IA ic (rowV M E D C O IA ic s k)) {c f : Nat} (hen : ∀ (args : Array Value) (W : World), (callFunc f args).run Tryd.prog W = .ok (.enter f args) W)
    (hlook : (Instr.lookup 90 (.map (some E)) (.int .u32 (c : Int)) true).run Tryd.prog w = .ok (.tuple #[fnV f P, .bool true]) w) {a b : Nat} {r : List Nat} (hs : s.ds = b :: a :: r) (X : Option St)
    (hcl : ∀ (w2 : World) D2, At w0 base w2 B { s with ds := r } M E P D2 C O IA ic (rowV M E D2 C O IA ic { s with ds := r } k) → Calls Tryd.prog f #[.int .u32 (a : Int), .int .u32 (b : Int), .pointer (some ⟨P, 0, none⟩)] w2 (Ct w0 base B k s.out X)) :
    Calls Tryd.prog 124 #[.pointer (some ⟨B, 0, none⟩), .int .u32 (c : Int)] w (Ct w0 base B k s.out X) := by
  obtain ⟨c7, _⟩ := h.f (i := 7) (v := .map (some E)) rfl
  have ct := Lib.hid (trapIf_no)
  have cp := Lib.hid (popD_own h rfl hs)
  have cp2 : ∀ (w1 : World) D', At w0 base w1 B { s with ds := a :: r } M E P D' C O IA ic ((rowV M E D C O IA ic s k).set 1 D') → Calls Tryd.prog 121 #[.pointer (some ⟨B, 1, none⟩)] w1 fun e w' => e = .returned (.int .u32 (a : Int)) ∧ ∃ D2, At w0 base w' B { s with ds := r } M E P D2 C O IA ic (rowV M E D2 C O IA ic { s with ds := r } k) := fun w1 D' h' => popD_own h' rfl rfl
  replace cp2 := Lib.hid cp2
  replace hcl := Lib.hid hcl
  unfold fnV at hlook
  obtain ⟨Q, hQ⟩ : ∃ Q, Ct w0 base B k s.out X = Q := ⟨_, rfl⟩
  have hend : ∀ e w', Q e w' → (e = .returned (.tuple #[]) ∧ Q (.returned (.tuple #[])) w') ∨ (e = .panicked [tr] ∧ Q (.panicked [tr]) w') := fun e w' hq => by
    rw [← hQ] at hq ⊢
    cases X with
    | some s' => exact .inl ⟨hq.1, rfl, hq.2⟩
    | none => exact .inr ⟨hq.1, rfl, hq.2⟩
  replace hend := Lib.hid hend
  rw [hQ] at hcl ⊢
  clear h hs hQ
  go_enter Tryd.func124, Tryd.ntmps124
  go_wp2_with fail
  refine (ct.out _).mono ?_
  rintro e w1 ⟨rfl, rfl⟩
  go_wp2_with fail
  refine (cp.out).mono ?_
  rintro e w1 ⟨rfl, D', h'⟩
  replace h' := Lib.hid h'
  clear hlook cp
  go_wp2_with fail
  refine (cp2.out w1 D' h'.out).mono ?_
  rintro e w2 ⟨rfl, D2, h2⟩
  replace h2 := Lib.hid h2
  clear cp2 h'
  go_wp2_with fail
  refine (hcl.out w2 D2 h2.out).mono ?_
  intro e w3 hq
  rcases hend.out e w3 hq with ⟨rfl, hq⟩ | ⟨rfl, hq⟩
  · replace hq := Lib.hid hq
    clear hcl h2 hend
    go_wp2
    first | go_end0 | skip
    exact hq.out
  · exact ⟨rfl, hq⟩
end
end Go.Proofs.YthmgocjmfhpafaaDoor.M17
