/- The contracts of the landed stacks' push and pop of layer 17, at the return stack. -/
import Derived.Test.YthmgocjmfhpafaaDoorM17Own2
namespace Go.Proofs.YthmgocjmfhpafaaDoor.M17
set_option maxRecDepth 100000
open Go.RowKit Mem
set_option linter.unusedVariables false
set_option linter.unusedSimpArgs false
section
variable {w0 w : World} {base B M E P ic : Nat} {s : St} {D C O : Value} {IA : Option Addr} {vs : List Value}
set_option maxHeartbeats 4000000 in
theorem popC_own (h : At w0 base w B s M E P D C O IA ic vs) (hv : vs[3]? = some C) {x : Nat} {r : List Nat} (hs : s.cs = x :: r) :
    Calls Tryd.prog 121 #[.pointer (some ⟨B, 3, none⟩)] w fun e w' => e = .returned (.int .u32 (x : Int)) ∧ ∃ C', At w0 base w' B { s with cs := r } M E P D C' O IA ic (vs.set 3 C') := by
  have hd := h.cs
  rw [hs] at hd
  obtain ⟨g, cap, rfl, h1, h2, hx, hrow⟩ := row_top hd
  have hin := h.ok.cs
  have hdl := h.ok.cl
  rw [hs] at hin hdl
  simp only [List.length_cons] at hdl
  have fin := Lib.hid (((h.stC hrow rfl (fun y hy => hin y (List.mem_cons_of_mem _ hy)) (by omega)).field 3 (.slice (some ⟨g, 0, none⟩) r.length cap)))
  have c1 := (h.blk.cell 3).trans hv
  have f1 := h.blk.frz 3
  obtain ⟨m, hm⟩ : ∃ m, r.length + 1 = m := ⟨_, rfl⟩
  have e1 : (m : Int) - 1 = (r.length : Int) := by omega
  rw [hm] at c1 h1
  obtain ⟨n, hn⟩ : ∃ n, r.length = n := ⟨_, rfl⟩
  rw [hn] at hx e1 fin
  have n0 : (0 : Int) ≤ (n : Int) := by omega
  have n1 : (n : Int) < (m : Int) := by omega
  have n2 : n < m := by omega
  have n3 : n ≤ cap := by omega
  have n4 : (n : Int) ≤ (cap : Int) := by omega
  have n5 : ((m : Int) == 0) = false := by simp; omega
  have n6 : (m : Int) ≤ 64 := by omega
  have c := Lib.hid (trapIf_no w)
  clear hd h2 hrow hin hdl hm hn hv hs h h1
  go_enter Tryd.func121, Tryd.ntmps121
  go_wp2_with fail
  refine (c.out).mono ?_
  rintro e w1 ⟨rfl, rfl⟩
  go_wp2
  first | go_ret | skip
  exact ⟨rfl, _, fin.out⟩
theorem popC_bad (h : At w0 base w B s M E P D C O IA ic vs) (hv : vs[3]? = some C) (hs : s.cs = []) :
    Calls Tryd.prog 121 #[.pointer (some ⟨B, 3, none⟩)] w fun e w' => e = .panicked [tr] ∧ w' = w := by
  have hd := h.cs
  rw [hs] at hd
  obtain ⟨A, cap, rfl, _⟩ := own_slice hd
  have c1 := (h.blk.cell 3).trans hv
  simp only [List.length_nil] at c1
  have c := Lib.hid (trapIf_yes w)
  clear hd hv hs h
  go_enter Tryd.func121, Tryd.ntmps121
  go_wp2_with fail
  refine (c.out).mono ?_
  rintro e w1 ⟨rfl, rfl⟩
  exact ⟨rfl, rfl, rfl⟩
set_option maxHeartbeats 4000000 in
theorem pushC_own (h : At w0 base w B s M E P D C O IA ic vs) (hv : vs[3]? = some C) (hv2 : vs[4]? = some (.int .i64 64)) (hl : s.cs.length < 64) {x : Nat} (hx : x < 4294967296) :
    Calls Tryd.prog 108 #[.pointer (some ⟨B, 3, none⟩), .int .u32 (x : Int)] w fun e w' => e = .returned (.tuple #[]) ∧ ∃ C', At w0 base w' B { s with cs := x :: s.cs } M E P D C' O IA ic (vs.set 3 C') := by
  obtain ⟨pA, cap, hD, _⟩ := own_slice h.cs
  have c1 := (h.blk.cell 3).trans hv
  have f1 := h.blk.frz 3
  have c2 := (h.blk.cell 4).trans hv2
  rw [hD] at c1
  have hat := fun (n : Nat) => (h.drewN n).alloc (.cells #[.int .u32 (x : Int)] 47)
  have n1 : ((s.cs.length : Int) == 64) = false := by simp; omega
  have fin : ∀ (n : Nat) (C' : Value) (w' : World), w'.ownsRow base 47 1 C' (s.cs.length + 1) (us s.cs.reverse ++ [.int .u32 (x : Int)]) → ((w.drewN n).alloc (.cells #[.int .u32 (x : Int)] 47)).grownBy w' C.ownBlock →
      (C'.ownBlock = C.ownBlock ∨ C'.ownBlock = some (w.heap.size + 1)) → At w0 base (w'.setCell ⟨B, 3, none⟩ C') B { s with cs := x :: s.cs } M E P D C' O IA ic (vs.set 3 C') := fun n C' w' h1 h2 h3 => by
    refine At.field ?_ 3 C'
    refine (hat n).swapC h2 ?_ (by rw [World.size_alloc]; exact h3) (fun y hy => ?_) (by simp only [List.length_cons]; omega)
    · rw [List.reverse_cons, us_snoc]; exact h1
    · rcases List.mem_cons.1 hy with rfl | hy
      · exact hx
      · exact h.ok.cs y hy
  have hown := fun (n : Nat) => (hat n).cs
  have hbw := fun (n : Nat) => (hat n).bw
  have hfr : ∀ (n : Nat) (C' : Value) (w' : World), w'.ownsRow base 47 1 C' (s.cs.length + 1) (us s.cs.reverse ++ [.int .u32 (x : Int)]) → ((w.drewN n).alloc (.cells #[.int .u32 (x : Int)] 47)).grownBy w' C.ownBlock → w'.frozen? ⟨B, 3, none⟩ = false ∧ ∃ u, w'.cell? ⟨B, 3, none⟩ = some u := fun n C' w' h1 h2 => by
    have g := h2.block B (hat n).blk.lt (fun e => h.parted.cb e.symm)
    have hb : Blk 92 w' B vs := g.trans (hat n).blk
    exact ⟨hb.frz 3, _, (hb.cell 3).trans hv⟩
  obtain ⟨i0, hi, hi0, hi1, hi2⟩ := info_parts info_u32
  obtain ⟨m, hm⟩ : ∃ m, s.cs.length = m := ⟨_, rfl⟩
  rw [hm] at c1 n1 fin hown hfr hD
  have hm2 : m < 64 := by omega
  obtain ⟨xs, hxs⟩ : ∃ xs, us s.cs.reverse = xs := ⟨_, rfl⟩
  rw [hxs] at fin hown hfr
  have hDb : C.ownBlock = (Value.slice pA m cap).ownBlock := by rw [hD]
  rw [hDb] at fin hfr
  rw [hD] at hown
  have c := Lib.hid (trapIf_no)
  replace fin := Lib.hid fin
  replace hown := Lib.hid hown
  replace hbw := Lib.hid hbw
  replace hfr := Lib.hid hfr
  clear hat hDb hD hxs hm hl hv hv2 h hx
  go_enter Tryd.func108, Tryd.ntmps108
  go_wp2_with fail
  go_quiet ((go_at_call 143; exact Calls.quiet_of_same (c.out _)))
  go_wp2_with (at_builtin; refine wpList_append_own_at _ rfl _ _ 83 rfl base 47 i0 (.int .u32 0) 1 4 Tryd.underlying83 hi hi0 hi1 hi2 rfl (by decide) _ _ _ rfl (hown.out nq) ⟨w.heap.size, 0, none⟩ 1 1 [.int .u32 (x : Int)] rfl rfl (one_new _ _ _) (one_cell _ _) (by unfold maxLen; omega) (by omega) (hbw.out nq) ?_)
  intro C' w' h1 h2 _ h3
  obtain ⟨hz, u, hu⟩ := hfr.out nq C' w' h1 h2
  have fin2 := Lib.hid (fin.out nq C' w' h1 h2 h3)
  obtain ⟨pA', cap', rfl, _⟩ := own_slice h1
  clear h1 h2 h3 fin hown hbw hfr
  go_wp2
  first | go_end0 | skip
  exact ⟨rfl, _, fin2.out⟩
theorem pushC_bad (h : At w0 base w B s M E P D C O IA ic vs) (hv : vs[3]? = some C) (hv2 : vs[4]? = some (.int .i64 64)) (hl : s.cs.length = 64) (x : Nat) :
    Calls Tryd.prog 108 #[.pointer (some ⟨B, 3, none⟩), .int .u32 (x : Int)] w fun e w' => e = .panicked [tr] ∧ ∃ n, w' = w.drewN n := by
  obtain ⟨pA, cap, hD, _⟩ := own_slice h.cs
  have c1 := (h.blk.cell 3).trans hv
  have c2 := (h.blk.cell 4).trans hv2
  rw [hD, hl] at c1
  have c := Lib.hid (trapIf_yes)
  clear hD hl hv hv2 h
  go_enter Tryd.func108, Tryd.ntmps108
  go_wp2_with fail
  refine wp_region_still_tail 10 (by kernel_rfl) (by kernel_rfl) ?_
  simp only [List.take_succ_cons, List.take_zero, List.drop_succ_cons, List.drop_zero]
  repeat still_step
  refine wpStill_nil ?_
  change wpList _ _ _ _ _ w.drew
  go_wp2_with fail
  refine (c.out _).mono ?_
  rintro e w1 ⟨rfl, rfl⟩
  exact ⟨rfl, rfl, 1, rfl⟩
end
end Go.Proofs.YthmgocjmfhpafaaDoor.M17
