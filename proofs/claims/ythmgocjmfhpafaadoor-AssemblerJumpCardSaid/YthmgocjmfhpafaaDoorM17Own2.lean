/- The contracts of the landed stacks' push and pop of layer 17. -/
import Derived.Test.YthmgocjmfhpafaaDoorM17Mem
import Derived.Deep.RegionWith
import Derived.StillTail
import Derived.StillTailTactics
namespace Go.Proofs.YthmgocjmfhpafaaDoor.M17
set_option maxRecDepth 100000
open Go.RowKit Mem
set_option linter.unusedVariables false
set_option linter.unusedSimpArgs false

theorem info_u32 : (Tryd.prog.info? 47).map (fun i => (i.zero, i.size, i.bytes)) = some (some (.int .u32 0), 1, 4) := by kernel_rfl
/-- The top of a row, and the row without it. -/
theorem row_top {w : World} {base e x : Nat} {v : Value} {l : List Nat} (h : w.ownsRow base e 1 v (l.length + 1) (us (x :: l).reverse)) : ∃ g cap, v = .slice (some ⟨g, 0, none⟩) (l.length + 1) cap ∧ l.length + 1 ≤ cap ∧ cap ≤ maxLen ∧
    w.cell? ⟨g, l.length, none⟩ = some (.int .u32 (x : Int)) ∧ w.ownsRow base e 1 (.slice (some ⟨g, 0, none⟩) l.length cap) l.length (us l.reverse) := by
  obtain ⟨g, cap, rfl⟩ := ownsRow_succ h
  have e : us (x :: l).reverse = us l.reverse ++ [.int .u32 (x : Int)] := by rw [List.reverse_cons, us_snoc]
  have hlen : (us l.reverse).length = l.length := by rw [us_len, List.length_reverse]
  rw [e] at h
  refine ⟨g, cap, rfl, ?_, ?_, ?_, ownsRow_pop (by rw [hlen]; omega) h⟩
  · rcases h.2 with ⟨h0, _⟩ | ⟨g', cap', cur, hv, _, _, h1, h2, _⟩
    · cases h0
    · cases hv; exact h1
  · rcases h.2 with ⟨h0, _⟩ | ⟨g', cap', cur, hv, _, _, h1, h2, _⟩
    · cases h0
    · cases hv; exact h2
  · rw [h.cellAt l.length (by omega), List.getElem?_append_right (by omega), hlen, Nat.sub_self]
    rfl
section
variable {w0 w : World} {base B M E P ic : Nat} {s : St} {D C O : Value} {IA : Option Addr} {vs : List Value}
set_option maxHeartbeats 4000000 in
theorem popD_own (h : At w0 base w B s M E P D C O IA ic vs) (hv : vs[1]? = some D) {x : Nat} {r : List Nat} (hs : s.ds = x :: r) :
    Calls Tryd.prog 121 #[.pointer (some ⟨B, 1, none⟩)] w fun e w' => e = .returned (.int .u32 (x : Int)) ∧ ∃ D', At w0 base w' B { s with ds := r } M E P D' C O IA ic (vs.set 1 D') := by
  have hd := h.ds
  rw [hs] at hd
  obtain ⟨g, cap, rfl, h1, h2, hx, hrow⟩ := row_top hd
  have hin := h.ok.ds
  have hdl := h.ok.dl
  rw [hs] at hin hdl
  simp only [List.length_cons] at hdl
  have fin := Lib.hid (((h.stD hrow rfl (fun y hy => hin y (List.mem_cons_of_mem _ hy)) (by omega)).field 1 (.slice (some ⟨g, 0, none⟩) r.length cap)))
  have c1 := (h.blk.cell 1).trans hv
  have f1 := h.blk.frz 1
  obtain ⟨m, hm⟩ : ∃ m, r.length + 1 = m := ⟨_, rfl⟩
  have e1 : (m : Int) - 1 = (r.length : Int) := by omega
  rw [hm] at c1 h1
  obtain ⟨n, hn⟩ : ∃ n, r.length = n := ⟨_, rfl⟩
  rw [hn] at hx e1 fin
  have n0 : (0 : Int) ≤ (n : Int) := by omega
  have n1 : (n : Int) < (m : Int) := by omega
  have n2 : n < m := by omega
  have n3 : n ≤ cap := by omega
  have n4 : (n : Int) ≤ (cap : Int) := by omega
  have n5 : ((m : Int) == 0) = false := by simp; omega
  have n6 : (m : Int) ≤ 256 := by omega
  have c := Lib.hid (trapIf_no w)
  clear hd h2 hrow hin hdl hm hn hv hs h h1
  go_enter Tryd.func121, Tryd.ntmps121
  go_wp2_with fail
  refine (c.out).mono ?_
  rintro e w1 ⟨rfl, rfl⟩
  go_wp2
  first | go_ret | skip
  exact ⟨rfl, _, fin.out⟩
theorem popD_bad (h : At w0 base w B s M E P D C O IA ic vs) (hv : vs[1]? = some D) (hs : s.ds = []) :
    Calls Tryd.prog 121 #[.pointer (some ⟨B, 1, none⟩)] w fun e w' => e = .panicked [tr] ∧ w' = w := by
  have hd := h.ds
  rw [hs] at hd
  obtain ⟨A, cap, rfl, _⟩ := own_slice hd
  have c1 := (h.blk.cell 1).trans hv
  simp only [List.length_nil] at c1
  have c := Lib.hid (trapIf_yes w)
  clear hd hv hs h
  go_enter Tryd.func121, Tryd.ntmps121
  go_wp2_with fail
  refine (c.out).mono ?_
  rintro e w1 ⟨rfl, rfl⟩
  exact ⟨rfl, rfl, rfl⟩
set_option maxHeartbeats 4000000 in
theorem pushD_own (h : At w0 base w B s M E P D C O IA ic vs) (hv : vs[1]? = some D) (hv2 : vs[2]? = some (.int .i64 256)) (hl : s.ds.length < 256) {x : Nat} (hx : x < 4294967296) :
    Calls Tryd.prog 108 #[.pointer (some ⟨B, 1, none⟩), .int .u32 (x : Int)] w fun e w' => e = .returned (.tuple #[]) ∧ ∃ D', At w0 base w' B { s with ds := x :: s.ds } M E P D' C O IA ic (vs.set 1 D') := by
  obtain ⟨pA, cap, hD, _⟩ := own_slice h.ds
  have c1 := (h.blk.cell 1).trans hv
  have f1 := h.blk.frz 1
  have c2 := (h.blk.cell 2).trans hv2
  rw [hD] at c1
  have hat := fun (n : Nat) => (h.drewN n).alloc (.cells #[.int .u32 (x : Int)] 47)
  have n1 : ((s.ds.length : Int) == 256) = false := by simp; omega
  have fin : ∀ (n : Nat) (D' : Value) (w' : World), w'.ownsRow base 47 1 D' (s.ds.length + 1) (us s.ds.reverse ++ [.int .u32 (x : Int)]) → ((w.drewN n).alloc (.cells #[.int .u32 (x : Int)] 47)).grownBy w' D.ownBlock →
      (D'.ownBlock = D.ownBlock ∨ D'.ownBlock = some (w.heap.size + 1)) → At w0 base (w'.setCell ⟨B, 1, none⟩ D') B { s with ds := x :: s.ds } M E P D' C O IA ic (vs.set 1 D') := fun n D' w' h1 h2 h3 => by
    refine At.field ?_ 1 D'
    refine (hat n).swapD h2 ?_ (by rw [World.size_alloc]; exact h3) (fun y hy => ?_) (by simp only [List.length_cons]; omega)
    · rw [List.reverse_cons, us_snoc]; exact h1
    · rcases List.mem_cons.1 hy with rfl | hy
      · exact hx
      · exact h.ok.ds y hy
  have hown := fun (n : Nat) => (hat n).ds
  have hbw := fun (n : Nat) => (hat n).bw
  have hfr : ∀ (n : Nat) (D' : Value) (w' : World), w'.ownsRow base 47 1 D' (s.ds.length + 1) (us s.ds.reverse ++ [.int .u32 (x : Int)]) → ((w.drewN n).alloc (.cells #[.int .u32 (x : Int)] 47)).grownBy w' D.ownBlock → w'.frozen? ⟨B, 1, none⟩ = false ∧ ∃ u, w'.cell? ⟨B, 1, none⟩ = some u := fun n D' w' h1 h2 => by
    have g := h2.block B (hat n).blk.lt (fun e => h.parted.db e.symm)
    have hb : Blk 92 w' B vs := g.trans (hat n).blk
    exact ⟨hb.frz 1, _, (hb.cell 1).trans hv⟩
  obtain ⟨i0, hi, hi0, hi1, hi2⟩ := info_parts info_u32
  obtain ⟨m, hm⟩ : ∃ m, s.ds.length = m := ⟨_, rfl⟩
  rw [hm] at c1 n1 fin hown hfr hD
  have hm2 : m < 256 := by omega
  obtain ⟨xs, hxs⟩ : ∃ xs, us s.ds.reverse = xs := ⟨_, rfl⟩
  rw [hxs] at fin hown hfr
  have hDb : D.ownBlock = (Value.slice pA m cap).ownBlock := by rw [hD]
  rw [hDb] at fin hfr
  rw [hD] at hown
  have c := Lib.hid (trapIf_no)
  replace fin := Lib.hid fin
  replace hown := Lib.hid hown
  replace hbw := Lib.hid hbw
  replace hfr := Lib.hid hfr
  clear hat hDb hD hxs hm hl hv hv2 h hx
  go_enter Tryd.func108, Tryd.ntmps108
  go_wp2_with fail
  go_quiet ((go_at_call 143; exact Calls.quiet_of_same (c.out _)))
  go_wp2_with (at_builtin; refine wpList_append_own_at _ rfl _ _ 83 rfl base 47 i0 (.int .u32 0) 1 4 Tryd.underlying83 hi hi0 hi1 hi2 rfl (by decide) _ _ _ rfl (hown.out nq) ⟨w.heap.size, 0, none⟩ 1 1 [.int .u32 (x : Int)] rfl rfl (one_new _ _ _) (one_cell _ _) (by unfold maxLen; omega) (by omega) (hbw.out nq) ?_)
  intro D' w' h1 h2 _ h3
  obtain ⟨hz, u, hu⟩ := hfr.out nq D' w' h1 h2
  have fin2 := Lib.hid (fin.out nq D' w' h1 h2 h3)
  obtain ⟨pA', cap', rfl, _⟩ := own_slice h1
  clear h1 h2 h3 fin hown hbw hfr
  go_wp2
  first | go_end0 | skip
  exact ⟨rfl, _, fin2.out⟩
theorem pushD_bad (h : At w0 base w B s M E P D C O IA ic vs) (hv : vs[1]? = some D) (hv2 : vs[2]? = some (.int .i64 256)) (hl : s.ds.length = 256) (x : Nat) :
    Calls Tryd.prog 108 #[.pointer (some ⟨B, 1, none⟩), .int .u32 (x : Int)] w fun e w' => e = .panicked [tr] ∧ ∃ n, w' = w.drewN n := by
  obtain ⟨pA, cap, hD, _⟩ := own_slice h.ds
  have c1 := (h.blk.cell 1).trans hv
  have c2 := (h.blk.cell 2).trans hv2
  rw [hD, hl] at c1
  have c := Lib.hid (trapIf_yes)
  clear hD hl hv hv2 h
  go_enter Tryd.func108, Tryd.ntmps108
  go_wp2_with fail
  refine wp_region_still_tail 10 (by kernel_rfl) (by kernel_rfl) ?_
  simp only [List.take_succ_cons, List.take_zero, List.drop_succ_cons, List.drop_zero]
  repeat still_step
  refine wpStill_nil ?_
  change wpList _ _ _ _ _ w.drew
  go_wp2_with fail
  refine (c.out _).mono ?_
  rintro e w1 ⟨rfl, rfl⟩
  exact ⟨rfl, rfl, 1, rfl⟩
end
end Go.Proofs.YthmgocjmfhpafaaDoor.M17
