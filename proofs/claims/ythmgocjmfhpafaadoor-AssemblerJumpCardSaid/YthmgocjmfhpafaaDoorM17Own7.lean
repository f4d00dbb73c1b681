/- The landed applyToTwo of layer 17 does what the plain machine does. -/
import Derived.Test.YthmgocjmfhpafaaDoorM17Own6
namespace Go.Proofs.YthmgocjmfhpafaaDoor.M17
set_option maxRecDepth 100000
open Go.RowKit Mem Go.Shelf
set_option linter.unusedVariables false
set_option linter.unusedSimpArgs false

section
variable {w0 w : World} {base B k M E P ic : Nat} {s : St} {D C O : Value} {IA : Option Addr} {vs : List Value}
/-- Not an instruction of another kind. -/
structure Two (c : Nat) : Prop where
  h0 : ¬ (48 ≤ c ∧ c ≤ 57)
  h1 : ¬ (c = 32 ∨ c = 10)
  h2 : c ≠ 36
  h3 : c ≠ 64
  h4 : c ≠ 58
  h5 : c ≠ 59
  h6 : c ≠ 44
  h7 : c ≠ 46
theorem Two.exec {c : Nat} (h : Two c) (s : St) : exec c s =
    match s.ds with
    | b :: a :: r =>
      if c = 33 then if 262144 ≤ b then .trap else .go { s with ds := r, mem := upd s.mem b a, dig := false }
      else if c = 63 then .go { s with ds := r, pc := if a = 0 then b else s.pc, dig := false }
      else match op2 c a b with
        | none => .trap
        | some v => .go { s with ds := v :: r, dig := false }
    | _ => .trap := exec_two s h.h0 h.h1 h.h2 h.h3 h.h4 h.h5 h.h6 h.h7
def res (X : Option St) : Res := match X with
  | some s' => .go s'
  | none => .trap
theorem Ct.oc {o : List UInt8} {X : Option St} {e : Ending} {w' : World} (h : Ct w0 base B k o X e w') : Oc w0 base B k o (.returned (.tuple #[])) (res X) e w' := by
  cases X with
  | some s' => exact h
  | none => exact h
theorem apply_hit (h : At w0 base w B s M E P D C O IA ic (rowV M E D C O IA ic s k)) {c f i : Nat} (hc : Two c) (hen : ∀ (args : Array Value) (W : World), (callFunc f args).run Tryd.prog W = .ok (.enter f args) W)
    (hfind : Instr.findNow (.int .u32) (.int .u32 (c : Int)) (eff P).toList 0 = some (some (i, fnV f P)))
    (hcl : ∀ b a r, s.ds = b :: a :: r → a < 4294967296 → b < 4294967296 → r.length < 255 → ∃ X, exec c s = res X ∧ ∀ (w2 : World) D2, At w0 base w2 B { s with ds := r } M E P D2 C O IA ic (rowV M E D2 C O IA ic { s with ds := r } k) → Calls Tryd.prog f #[.int .u32 (a : Int), .int .u32 (b : Int), .pointer (some ⟨P, 0, none⟩)] w2 (Ct w0 base B k s.out X)) :
    Calls Tryd.prog 124 #[.pointer (some ⟨B, 0, none⟩), .int .u32 (c : Int)] w (Oc w0 base B k s.out (.returned (.tuple #[])) (exec c s)) := by
  have hl := look_hit hfind w E h.map
  match hs : s.ds with
  | [] =>
    refine (apply_none h hl hs).mono ?_
    rintro e w' ⟨rfl, rfl⟩
    exact On.oc_trap (by rw [hc.exec, hs]) rfl h.on
  | [b] =>
    refine (apply_one h hl hs).mono ?_
    rintro e w' ⟨rfl, h'⟩
    exact On.oc_trap (s' := { s with ds := [] }) (by rw [hc.exec, hs]) rfl h'
  | b :: a :: r =>
    have hlen := h.ok.dl
    rw [hs] at hlen
    simp only [List.length_cons] at hlen
    obtain ⟨X, e1, hX⟩ := hcl b a r hs (h.ok.ds a (by rw [hs]; simp)) (h.ok.ds b (by rw [hs]; simp)) (by omega)
    rw [e1]
    exact (apply_two h hen hl hs X hX).mono fun e w' hq => hq.oc
theorem trapped {w2 : World} {s2 : St} {o : List UInt8} {e : Ending} {w' : World} (ho : s2.out = o) (h : At w0 base w2 B s2 M E P D C O IA ic (rowV M E D C O IA ic s2 k)) (hq : e = .panicked [tr] ∧ ∃ n, w' = w2.drewN n) : Ct w0 base B k o none e w' := by
  obtain ⟨rfl, n, rfl⟩ := hq
  exact ⟨rfl, s2, ho, (h.drewN n).on⟩
theorem apply_own (h : At w0 base w B s M E P D C O IA ic (rowV M E D C O IA ic s k)) (hdig : s.dig = false) {c : Nat} (hc : Two c) :
    Calls Tryd.prog 124 #[.pointer (some ⟨B, 0, none⟩), .int .u32 (c : Int)] w (Oc w0 base B k s.out (.returned (.tuple #[])) (exec c s)) := by
  obtain ⟨smem, spc, sds, scs, sdig, sinp, sout⟩ := s
  dsimp only at hdig
  subst hdig
  by_cases e1 : c = 43
  · subst e1
    refine apply_hit h hc (enters_of Tryd.func107 (by kernel_rfl) rfl) rfl fun b a r hs ha hb hr => ⟨some _, by rw [hc.exec, hs]; rfl, fun w2 D2 h2 => eff_add h2 (by show r.length < 256; omega) a b⟩
  by_cases e2 : c = 45
  · subst e2
    refine apply_hit h hc (enters_of Tryd.func109 (by kernel_rfl) rfl) rfl fun b a r hs ha hb hr => ⟨some _, by rw [hc.exec, hs]; rfl, fun w2 D2 h2 => eff_sub h2 (by show r.length < 256; omega) a b hb⟩
  by_cases e3 : c = 42
  · subst e3
    refine apply_hit h hc (enters_of Tryd.func110 (by kernel_rfl) rfl) rfl fun b a r hs ha hb hr => ⟨some _, by rw [hc.exec, hs]; rfl, fun w2 D2 h2 => eff_mul h2 (by show r.length < 256; omega) a b⟩
  by_cases e4 : c = 47
  · subst e4
    refine apply_hit h hc (enters_of Tryd.func111 (by kernel_rfl) rfl) rfl fun b a r hs ha hb hr => ?_
    by_cases h0 : b = 0
    · subst h0
      exact ⟨none, by rw [hc.exec, hs]; rfl, fun w2 D2 h2 => (eff_div_bad h2 a).mono fun e w' hq => trapped (s2 := { mem := smem, pc := spc, ds := r, cs := scs, dig := false, inp := sinp, out := sout }) rfl h2 hq⟩
    · exact ⟨some { mem := smem, pc := spc, ds := a / b :: r, cs := scs, dig := false, inp := sinp, out := sout }, by rw [hc.exec, hs]; simp [op2, h0, res], fun w2 D2 h2 => eff_div h2 (by show r.length < 256; omega) a b ha h0⟩
  by_cases e5 : c = 37
  · subst e5
    refine apply_hit h hc (enters_of Tryd.func113 (by kernel_rfl) rfl) rfl fun b a r hs ha hb hr => ?_
    by_cases h0 : b = 0
    · subst h0
      exact ⟨none, by rw [hc.exec, hs]; rfl, fun w2 D2 h2 => (eff_rem_bad h2 a).mono fun e w' hq => trapped (s2 := { mem := smem, pc := spc, ds := r, cs := scs, dig := false, inp := sinp, out := sout }) rfl h2 hq⟩
    · exact ⟨some { mem := smem, pc := spc, ds := a % b :: r, cs := scs, dig := false, inp := sinp, out := sout }, by rw [hc.exec, hs]; simp [op2, h0, res], fun w2 D2 h2 => eff_rem h2 (by show r.length < 256; omega) a b ha h0⟩
  by_cases e6 : c = 94
  · subst e6
    refine apply_hit h hc (enters_of Tryd.func114 (by kernel_rfl) rfl) rfl fun b a r hs ha hb hr => ⟨some _, by rw [hc.exec, hs]; rfl, fun w2 D2 h2 => eff_xor h2 (by show r.length < 256; omega) a b ha hb⟩
  by_cases e7 : c = 60
  · subst e7
    refine apply_hit h hc (enters_of Tryd.func115 (by kernel_rfl) rfl) rfl fun b a r hs ha hb hr => ⟨some _, by rw [hc.exec, hs]; rfl, fun w2 D2 h2 => eff_lss h2 (by show r.length < 256; omega) a b⟩
  by_cases e8 : c = 33
  · subst e8
    refine apply_hit h hc (enters_of Tryd.func117 (by kernel_rfl) rfl) rfl fun b a r hs ha hb hr => ?_
    by_cases h0 : b < 262144
    · exact ⟨some { mem := upd smem b a, pc := spc, ds := r, cs := scs, dig := false, inp := sinp, out := sout }, by rw [hc.exec, hs]; simp [h0, res], fun w2 D2 h2 => eff_put h2 a b ha h0⟩
    · exact ⟨none, by rw [hc.exec, hs]; simp [h0, res], fun w2 D2 h2 => (eff_put_bad h2 rfl a b h0).mono fun e w' hq => trapped (s2 := { mem := smem, pc := spc, ds := r, cs := scs, dig := false, inp := sinp, out := sout }) rfl h2 hq⟩
  by_cases e9 : c = 63
  · subst e9
    refine apply_hit h hc (enters_of Tryd.func119 (by kernel_rfl) rfl) rfl fun b a r hs ha hb hr => ⟨some _, by rw [hc.exec, hs]; rfl, fun w2 D2 h2 => eff_jump h2 a b hb⟩
  obtain ⟨z, hz⟩ := look_miss w E P c h.map e1 e2 e3 e4 e5 e6 e7 e8 e9
  refine (apply_miss h hz).mono ?_
  rintro e w' ⟨rfl, rfl⟩
  refine On.oc_trap ?_ rfl h.on
  rw [hc.exec]
  split
  · rw [if_neg e8, if_neg e9]
    unfold op2
    rw [if_neg e1, if_neg e2, if_neg e3, if_neg e4, if_neg e5, if_neg e6, if_neg e7]
  · rfl
end
end Go.Proofs.YthmgocjmfhpafaaDoor.M17
