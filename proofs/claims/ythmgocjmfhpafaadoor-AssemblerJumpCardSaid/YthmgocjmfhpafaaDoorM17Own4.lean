/- The contracts of the landed nextSymbol, addDigit, call of layer 17. -/
import Derived.Test.YthmgocjmfhpafaaDoorM17Own3
import Derived.Test.YthmgocjmfhpafaaDoorS14Rd
namespace Go.Proofs.YthmgocjmfhpafaaDoor.M17
set_option maxRecDepth 100000
open Go.RowKit Mem
set_option linter.unusedVariables false
set_option linter.unusedSimpArgs false

/-- What a step, or a part of it, leaves behind. -/
def Oc (w0 : World) (base B k : Nat) (o : List UInt8) (ok : Ending) (r : Res) (e : Ending) (w' : World) : Prop :=
  match r with
  | .go s' => e = ok ∧ On w0 base w' B s' k
  | .halt => e = .returned (.bool true) ∧ ∃ s', s'.out = o ∧ On w0 base w' B s' k
  | .trap => e = .panicked [tr] ∧ ∃ s', s'.out = o ∧ On w0 base w' B s' k
/-- The first word of the input, and the rest. -/
theorem rd_head {w : World} {IA : Option Addr} {x : Nat} {l : List Nat} (h : Rd w IA (us (x :: l))) : ∃ b o, IA = some ⟨b, o, none⟩ ∧ w.cell? ⟨b, o, none⟩ = some (.int .u32 (x : Int)) ∧ Rd w (some ⟨b, o + 1, none⟩) (us l) := by
  obtain ⟨b, o, e, hb, hc⟩ := h 0 (by simp [us])
  refine ⟨b, o, e, hc, fun j hj => ?_⟩
  have hj' : j + 1 < (us (x :: l)).length := by simpa [us] using hj
  obtain ⟨b', o', e', _, hc'⟩ := h (j + 1) hj'
  rw [e] at e'
  injection e' with e'
  injection e' with e1 e2
  subst e1 e2
  refine ⟨b, o + 1, rfl, hb, ?_⟩
  rw [show o + 1 + j = o + (j + 1) by omega, hc']
  simp [us]
section
variable {w0 w : World} {base B k M E P ic : Nat} {s : St} {D C O : Value} {IA : Option Addr} {vs : List Value}
theorem next_none (h : At w0 base w B s M E P D C O IA ic vs) (hv : vs[8]? = some (.slice IA s.inp.length ic)) (hs : s.inp = []) :
    Calls Tryd.prog 123 #[.pointer (some ⟨B, 0, none⟩)] w fun e w' => e = .returned (.int .u32 4294967295) ∧ w' = w := by
  have c1 := (h.blk.cell 8).trans hv
  rw [hs] at c1
  simp only [List.length_nil] at c1
  clear hs hv h
  go_enter Tryd.func123, Tryd.ntmps123
  go_wp2
  first | go_ret | skip
  exact ⟨rfl, rfl⟩
set_option maxHeartbeats 4000000 in
theorem next_some (h : At w0 base w B s M E P D C O IA ic vs) (hv : vs[8]? = some (.slice IA s.inp.length ic)) {x : Nat} {l : List Nat} (hs : s.inp = x :: l) :
    Calls Tryd.prog 123 #[.pointer (some ⟨B, 0, none⟩)] w fun e w' => e = .returned (.int .u32 (x : Int)) ∧ ∃ IA' ic', At w0 base w' B { s with inp := l } M E P D C O IA' ic' (vs.set 8 (.slice IA' l.length ic')) := by
  have c1 := (h.blk.cell 8).trans hv
  have f1 := h.blk.frz 8
  have hi := h.inp
  have hle := h.ile
  have hcm := h.icm
  have hin := h.ok.inp
  rw [hs] at c1 hi hle hin
  obtain ⟨b, o, rfl, hx, hrd⟩ := rd_head hi
  simp only [List.length_cons] at c1 hle
  have hlow := h.low _ rfl (by rw [hs]; simp [us])
  have fin : ∀ IA', (∀ a : Addr, IA' = some a → a.block < base) → (l ≠ [] → IA' = some ⟨b, o + 1, none⟩) → (IA' = none → ic - 1 = 0) → At w0 base (w.setCell ⟨B, 8, none⟩ (.slice IA' l.length (ic - 1))) B { s with inp := l } M E P D C O IA' (ic - 1) (vs.set 8 (.slice IA' l.length (ic - 1))) := fun IA' h1 h2 h3 => by
    refine (h.stI (l := l) ?_ (fun a e _ => h1 a e) (by omega) (by omega) h3 (fun y hy => hin y (List.mem_cons_of_mem _ hy))).field 8 _
    rcases l with _ | ⟨y, l⟩
    · exact fun j hj => absurd hj (by simp [us])
    · rw [h2 (by simp)]; exact hrd
  obtain ⟨n, hn⟩ : ∃ n, l.length = n := ⟨_, rfl⟩
  obtain ⟨m, hm⟩ : ∃ m, l.length + 1 = m := ⟨_, rfl⟩
  rw [hm] at c1 hle
  rw [hn] at fin
  have n1 : m - 1 = n := by omega
  have n2 : ((m : Int) == 0) = false := by simp; omega
  have n3 : (0 : Int) < (m : Int) := by omega
  have n4 : 0 < m := by omega
  have n5 : (1 : Int) ≤ (m : Int) := by omega
  have n6 : 1 ≤ m := by omega
  have n7 : (m : Int) ≤ (ic : Int) := by omega
  rw [hn]
  by_cases hc : ic = 1
  · have fin2 := fin (some ⟨b, o, none⟩) (fun a e => by cases e; exact hlow) (fun e => by
      exfalso
      apply e
      apply List.eq_nil_of_length_eq_zero
      omega) (fun e => by cases e)
    replace fin2 := Lib.hid fin2
    obtain rfl : m = 1 := by omega
    obtain rfl : n = 0 := by omega
    subst hc
    clear fin hs hv h hi hin hn hm
    go_enter Tryd.func123, Tryd.ntmps123
    go_wp2
    first | go_ret | skip
    exact ⟨rfl, _, _, fin2.out⟩
  · have fin2 := fin (some ⟨b, o + 1, none⟩) (fun a e => by cases e; exact hlow) (fun _ => rfl) (fun e => by cases e)
    replace fin2 := Lib.hid fin2
    clear fin hs hv h hi hin hn hm
    go_enter Tryd.func123, Tryd.ntmps123
    go_wp2
    first | go_ret | skip
    exact ⟨rfl, _, _, fin2.out⟩
theorem On.oc_go {o : List UInt8} {ok : Ending} {r : Res} {s' : St} {w' : World} (hr : r = .go s') (h : On w0 base w' B s' k) : Oc w0 base B k o ok r ok w' := by
  subst hr; exact ⟨rfl, h⟩
theorem On.oc_trap {o : List UInt8} {ok : Ending} {r : Res} {s' : St} {w' : World} (hr : r = .trap) (ho : s'.out = o) (h : On w0 base w' B s' k) : Oc w0 base B k o ok r (.panicked [tr]) w' := by
  subst hr; exact ⟨rfl, s', ho, h⟩
/-- The cells of the machine's block. -/
theorem At.f (h : At w0 base w B s M E P D C O IA ic vs) {i : Nat} {v : Value} (hv : vs[i]? = some v) : w.cell? ⟨B, i, none⟩ = some v ∧ w.frozen? ⟨B, i, none⟩ = false := ⟨(h.blk.cell i).trans hv, h.blk.frz i⟩
set_option maxHeartbeats 4000000 in
theorem addDigit_own (h : At w0 base w B s M E P D C O IA ic (rowV M E D C O IA ic s k)) {d : Nat} (hd : d < 10) :
    Calls Tryd.prog 120 #[.pointer (some ⟨B, 0, none⟩), .int .u32 (d : Int)] w (Oc w0 base B k s.out (.returned (.tuple #[])) (exec (48 + d) s)) := by
  obtain ⟨c4, f4⟩ := h.f (i := 6) (v := .bool s.dig) rfl
  obtain ⟨Q, hQ⟩ : ∃ Q, Oc w0 base B k s.out (.returned (.tuple #[])) (exec (48 + d) s) = Q := ⟨_, rfl⟩
  cases hdig : s.dig with
  | false =>
    rw [hdig] at c4
    by_cases hl : s.ds.length < 256
    · have c := pushD_own h rfl rfl hl (x := d) (by omega)
      have fin : ∀ (w' : World) D', At w0 base w' B { s with ds := d :: s.ds } M E P D' C O IA ic ((rowV M E D C O IA ic s k).set 1 D') → w'.frozen? ⟨B, 6, none⟩ = false ∧ (∃ u, w'.cell? ⟨B, 6, none⟩ = some u) ∧ Q (.returned (.tuple #[])) (w'.setCell ⟨B, 6, none⟩ (.bool true)) := fun w' D' h' => by
        obtain ⟨e1, e2⟩ := h'.f (i := 6) (v := .bool s.dig) rfl
        refine ⟨e2, ⟨_, e1⟩, ?_⟩
        rw [← hQ]
        have h2 := (h'.field 6 (.bool true)).st (s' := { s with ds := d :: s.ds, dig := true }) rfl rfl rfl rfl rfl ⟨h'.ok.mem, h'.ok.pc, h'.ok.ds, h'.ok.cs, h'.ok.inp, h'.ok.dl, h'.ok.cl⟩
        exact On.oc_go (s' := { s with ds := d :: s.ds, dig := true }) (by
          unfold exec
          rw [if_pos ⟨by omega, by omega⟩, hdig]
          simp only [Bool.false_eq_true, if_false]
          rw [if_neg (by omega), Nat.add_sub_cancel_left]) (At.on h2)
      replace c := Lib.hid c
      replace fin := Lib.hid fin
      rw [hQ]
      clear hQ hl hdig hd h
      go_enter Tryd.func120, Tryd.ntmps120
      go_wp2_with fail
      refine (c.out).mono ?_
      rintro e w1 ⟨rfl, D', h'⟩
      obtain ⟨z1, ⟨u, z2⟩, z3⟩ := fin.out w1 D' h'
      replace z3 := Lib.hid z3
      clear fin c h'
      go_wp2
      first | go_end0 | skip
      exact z3.out
    · have hl2 : s.ds.length = 256 := by have := h.ok.dl; omega
      have c := pushD_bad h rfl rfl hl2 d
      have fin : ∀ n, Q (.panicked [tr]) (w.drewN n) := fun n => by
        rw [← hQ]
        exact On.oc_trap (s' := s) (by
          unfold exec
          rw [if_pos ⟨by omega, by omega⟩, hdig]
          simp only [Bool.false_eq_true, if_false]
          rw [if_pos (by omega)]) rfl (At.on (h.drewN n))
      replace c := Lib.hid c
      replace fin := Lib.hid fin
      rw [hQ]
      clear hQ hl hl2 hdig hd h
      go_enter Tryd.func120, Tryd.ntmps120
      go_wp2_with fail
      refine (c.out).mono ?_
      rintro e w1 ⟨rfl, n, rfl⟩
      exact ⟨rfl, fin.out n⟩
  | true =>
    rw [hdig] at c4
    cases hds : s.ds with
    | nil =>
      have c := popD_bad h rfl hds
      have fin : Q (.panicked [tr]) w := by
        rw [← hQ]
        exact On.oc_trap (s' := s) (by
          unfold exec
          rw [if_pos ⟨by omega, by omega⟩, hdig, hds]
          rfl) rfl h.on
      replace c := Lib.hid c
      replace fin := Lib.hid fin
      rw [hQ]
      clear hQ hds hdig hd h
      go_enter Tryd.func120, Tryd.ntmps120
      go_wp2_with fail
      refine (c.out).mono ?_
      rintro e w1 ⟨rfl, rfl⟩
      exact ⟨rfl, fin.out⟩
    | cons t r =>
      have c := popD_own h rfl hds
      obtain ⟨v, hv⟩ : ∃ v, (t * 10 + d) % 4294967296 = v := ⟨_, rfl⟩
      have hvl : v < 4294967296 := by omega
      have c2 : ∀ (w' : World) D', At w0 base w' B { s with ds := r } M E P D' C O IA ic ((rowV M E D C O IA ic s k).set 1 D') → Calls Tryd.prog 108 #[.pointer (some ⟨B, 1, none⟩), .int .u32 (v : Int)] w' fun e w'' => e = .returned (.tuple #[]) ∧ ∃ D'', At w0 base w'' B { s with ds := v :: r } M E P D'' C O IA ic (((rowV M E D C O IA ic s k).set 1 D').set 1 D'') := fun w' D' h' =>
        pushD_own h' rfl rfl (by have := h.ok.dl; rw [hds] at this; simp only [List.length_cons] at this; show r.length < 256; omega) hvl
      have fin : ∀ (w' : World) D' D'', At w0 base w' B { s with ds := v :: r } M E P D'' C O IA ic (((rowV M E D C O IA ic s k).set 1 D').set 1 D'') → w'.frozen? ⟨B, 6, none⟩ = false ∧ (∃ u, w'.cell? ⟨B, 6, none⟩ = some u) ∧ Q (.returned (.tuple #[])) (w'.setCell ⟨B, 6, none⟩ (.bool true)) := fun w' D' D'' h' => by
        obtain ⟨e1, e2⟩ := h'.f (i := 6) (v := .bool s.dig) rfl
        refine ⟨e2, ⟨_, e1⟩, ?_⟩
        rw [← hQ]
        have h2 := (h'.field 6 (.bool true)).st (s' := { s with ds := v :: r }) rfl rfl rfl rfl rfl h'.ok
        exact On.oc_go (s' := { s with ds := v :: r }) (by
          unfold exec
          rw [if_pos ⟨by omega, by omega⟩, hdig, hds]
          simp only [if_true, Nat.add_sub_cancel_left, hv]) (At.on (by
          have e : rowV M E D'' C O IA ic { s with ds := v :: r } k = (((rowV M E D C O IA ic s k).set 1 D').set 1 D'').set 6 (.bool true) := by
            show _ = _
            unfold rowV
            simp only [hdig]
            rfl
          rw [e]; exact h2))
      have ht := h.ok.ds t (by rw [hds]; simp)
      have a1 : (10 * (t : Int)) % 4294967296 = ((10 * t % 4294967296 : Nat) : Int) := by omega
      have a2 : ((d : Int) + ((10 * t % 4294967296 : Nat) : Int)) % 4294967296 = (v : Int) := by omega
      obtain ⟨T, hT⟩ : ∃ T, 10 * t % 4294967296 = T := ⟨_, rfl⟩
      rw [hT] at a1 a2
      replace c := Lib.hid c
      replace c2 := Lib.hid c2
      replace fin := Lib.hid fin
      rw [hQ]
      clear hQ hds hdig hd h hv hvl ht hT
      go_enter Tryd.func120, Tryd.ntmps120
      go_wp2_with fail
      refine (c.out).mono ?_
      rintro e w1 ⟨rfl, D', h'⟩
      replace h' := Lib.hid h'
      go_wp2_with fail
      refine (c2.out w1 D' h'.out).mono ?_
      rintro e w2 ⟨rfl, D'', h''⟩
      obtain ⟨z1, ⟨u, z2⟩, z3⟩ := fin.out w2 D' D'' h''
      replace z3 := Lib.hid z3
      clear fin c c2 h' h''
      go_wp2
      first | go_end0 | skip
      exact z3.out
theorem At.drew (h : At w0 base w B s M E P D C O IA ic vs) : At w0 base w.drew B s M E P D C O IA ic vs := h.drewN 1
set_option maxHeartbeats 4000000 in
theorem call_own (h : At w0 base w B s M E P D C O IA ic (rowV M E D C O IA ic s k)) {a : Nat} (ha : a < 4294967296) (hl : s.cs.length < 64) :
    Calls Tryd.prog 122 #[.pointer (some ⟨B, 0, none⟩), .int .u32 (a : Int)] w fun e w' => e = .returned (.tuple #[]) ∧ On w0 base w' B { s with cs := s.pc :: s.cs, pc := a } k := by
  obtain ⟨c5, f5⟩ := h.f (i := 5) (v := .int .u32 (s.pc : Int)) rfl
  have c := pushC_own h.drew rfl rfl hl (x := s.pc) h.ok.pc
  have fin : ∀ (w' : World) C', At w0 base w' B { s with cs := s.pc :: s.cs } M E P D C' O IA ic ((rowV M E D C O IA ic s k).set 3 C') → w'.frozen? ⟨B, 5, none⟩ = false ∧ (∃ u, w'.cell? ⟨B, 5, none⟩ = some u) ∧ On w0 base (w'.setCell ⟨B, 5, none⟩ (.int .u32 (a : Int))) B { s with cs := s.pc :: s.cs, pc := a } k := fun w' C' h' => by
    obtain ⟨e1, e2⟩ := h'.f (i := 5) (v := .int .u32 (s.pc : Int)) rfl
    refine ⟨e2, ⟨_, e1⟩, ?_⟩
    exact At.on ((h'.field 5 (.int .u32 (a : Int))).st (s' := { s with cs := s.pc :: s.cs, pc := a }) rfl rfl rfl rfl rfl ⟨h'.ok.mem, ha, h'.ok.ds, h'.ok.cs, h'.ok.inp, h'.ok.dl, h'.ok.cl⟩)
  obtain ⟨q, hq⟩ : ∃ q, s.pc = q := ⟨_, rfl⟩
  rw [hq] at c c5 fin ⊢
  replace c := Lib.hid c
  replace fin := Lib.hid fin
  clear hl ha hq h
  go_enter Tryd.func122, Tryd.ntmps122
  go_wp2_with fail
  go_region_with (go_at_call 108; refine (c.out).mono ?_; rintro e w1 ⟨rfl, C', h'⟩; replace h' := Lib.hid h')
  obtain ⟨z1, ⟨u, z2⟩, z3⟩ := fin.out _ _ h'.out
  replace z3 := Lib.hid z3
  clear fin c h'
  go_wp2
  first | go_end0 | skip
  exact ⟨rfl, z3.out⟩
set_option maxHeartbeats 4000000 in
theorem call_bad (h : At w0 base w B s M E P D C O IA ic (rowV M E D C O IA ic s k)) (a : Nat) (hl : s.cs.length = 64) :
    Calls Tryd.prog 122 #[.pointer (some ⟨B, 0, none⟩), .int .u32 (a : Int)] w fun e w' => e = .panicked [tr] ∧ ∃ n, w' = w.drewN n := by
  obtain ⟨c5, f5⟩ := h.f (i := 5) (v := .int .u32 (s.pc : Int)) rfl
  have c := pushC_bad h.drew rfl rfl hl s.pc
  obtain ⟨q, hq⟩ : ∃ q, s.pc = q := ⟨_, rfl⟩
  rw [hq] at c c5
  replace c := Lib.hid c
  clear hl hq h
  go_enter Tryd.func122, Tryd.ntmps122
  go_wp2_with fail
  refine wp_region_still_tail 7 (by kernel_rfl) (by kernel_rfl) ?_
  simp only [List.take_succ_cons, List.take_zero, List.drop_succ_cons, List.drop_zero]
  repeat still_step
  refine wpStill_nil ?_
  change wpList _ _ _ _ _ w.drew
  go_wp2_with fail
  refine (c.out).mono ?_
  rintro e w1 ⟨rfl, n, rfl⟩
  exact ⟨rfl, rfl, 1 + n, by rw [← World.drewN_drewN]; rfl⟩
end
end Go.Proofs.YthmgocjmfhpafaaDoor.M17
