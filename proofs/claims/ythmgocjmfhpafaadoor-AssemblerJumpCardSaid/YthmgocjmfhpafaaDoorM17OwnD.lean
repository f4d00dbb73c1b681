/- The contract of the landed machine's run, layer 17, over its step. -/
import Derived.Test.YthmgocjmfhpafaaDoorM17Own8
import Derived.Test.YthmgocjmfhpafaaDoorM17OwnR
namespace Go.Proofs.YthmgocjmfhpafaaDoor.M17
set_option maxRecDepth 100000
open Go.RowKit Mem Go.Shelf
set_option linter.unusedVariables false
set_option linter.unusedSimpArgs false

/-- What a run leaves behind. -/
def RunP (w0 : World) (base B : Nat) (o : Out) (e : Ending) (w' : World) : Prop := e = .returned (.int .i64 (o.err : Int)) ∧ ∃ s', s'.out = o.out ∧ On w0 base w' B s' o.steps
def stepsOf (w : World) (B : Nat) : Nat := (intOf ((w.cell? ⟨B, 10, none⟩).getD undef)).toNat
theorem On.steps {w0 w : World} {base B k : Nat} {s : St} (h : On w0 base w B s k) : stepsOf w B = k ∧ w.cell? ⟨B, 10, none⟩ = some (.int .i64 (k : Int)) ∧ w.frozen? ⟨B, 10, none⟩ = false := by
  obtain ⟨M, E, P, D, C, O, IA, ic, h⟩ := h
  obtain ⟨e1, e2⟩ := h.f (i := 10) (v := .int .i64 (k : Int)) rfl
  refine ⟨?_, e1, e2⟩
  unfold stepsOf
  rw [e1]
  simp [intOf]
theorem On.more {w0 w w' : World} {base B k : Nat} {s : St} (h : On w0 base w B s k) (g : w.grownBy w' none) : On w0 base w' B s k := by
  obtain ⟨M, E, P, D, C, O, IA, ic, h⟩ := h
  exact (h.more g).on
theorem On.setSteps {w0 w : World} {base B k : Nat} {s : St} (h : On w0 base w B s k) (j : Nat) : On w0 base (w.setCell ⟨B, 10, none⟩ (.int .i64 (j : Int))) B s j := by
  obtain ⟨M, E, P, D, C, O, IA, ic, h⟩ := h
  exact At.on (h.field 10 (.int .i64 (j : Int)))
theorem On.bel {w0 w : World} {base B k : Nat} {s : St} (h : On w0 base w B s k) : Bel base w0 w := by
  obtain ⟨M, E, P, D, C, O, IA, ic, h⟩ := h
  exact h.bel
theorem On.root {w0 w : World} {base B k : Nat} {s : St} (h : On w0 base w B s k) : On w base w B s k := by
  obtain ⟨M, E, P, D, C, O, IA, ic, h⟩ := h
  exact h.root.on
theorem On.rebase {w0 w1 w : World} {base B k : Nat} {s : St} (h : On w1 base w B s k) (hb : Bel base w0 w1) : On w0 base w B s k := by
  obtain ⟨M, E, P, D, C, O, IA, ic, h⟩ := h
  exact At.on ⟨hb.trans h.bel, h.blk, h.mem, h.ds, h.cs, h.out, h.map, h.ptr, h.inp, h.low, h.ile, h.icm, h.inil, h.bB, h.bM, h.bw, h.dm, h.cm, h.dc, h.ok⟩
/-- The cell of the reason, through the machine's doings. -/
theorem Bel.reason {base : Nat} {w0 w : World} (h : Bel base w0 w) {r : Nat} {v : Value} (hr : w0.heap[r]? = some (.cells #[v] 24 (0, 0))) : w.cell? ⟨r, 0, none⟩ = some v ∧ w.frozen? ⟨r, 0, none⟩ = false ∧ w.heap[r]? = some (.cells #[v] 24 (0, 0)) := by
  have e := (h.err r _ _ hr).trans hr
  exact ⟨by simp [World.cell?, e], by simp [World.frozen?, e], e⟩
/-- The reason is written: the machine lies as it lay. -/
theorem On.setReason {w0 w : World} {base B k r : Nat} {s : St} (h : On w0 base w B s k) {v : Value} (hr : w.heap[r]? = some (.cells #[v] 24 (0, 0))) (hb : base ≤ r) (hn : w0.heap.size ≤ r) (u : Value) : On w0 base (w.setCell ⟨r, 0, none⟩ u) B s k := by
  obtain ⟨M, E, P, D, C, O, IA, ic, h⟩ := h
  obtain ⟨l1, l2, l3, l4⟩ := h.lts
  have g := grown_set w r 0 u
  have hB : r ≠ B := blk_not_err h.blk (by decide) r _ _ hr
  have hM : r ≠ M := mem_not_err h.mem r _ _ hr
  have hP : r ≠ P := blk_not_err h.ptr (by decide) r _ _ hr
  have hE : r ≠ E := by
    rintro rfl
    have := h.map.symm.trans hr
    injection this with this
    cases this
  have n : ∀ {e size k : Nat} {v' : Value} {xs : List Value}, 24 ≠ e → w.ownsRow base e size v' k xs → v'.ownBlock = none ∨ v'.ownBlock ≠ some r := fun he hrow => .inr fun e' => err_not_row hr he hrow e'.symm
  refine At.on ⟨⟨h.bel.bel.setCell (p := ⟨r, 0, none⟩) hb u, fun i cs fz e => ?_⟩, (g.block B l1 (by simpa using fun e => hB e.symm)).trans h.blk, h.mem.kept (g.block M l2 (by simpa using fun e => hM e.symm)), h.ds.kept g (n (by decide) h.ds), h.cs.kept g (n (by decide) h.cs), h.out.kept g (n (by decide) h.out),
    (g.block E l3 (by simpa using fun e => hE e.symm)).trans h.map, (g.block P l4 (by simpa using fun e => hP e.symm)).trans h.ptr, rd_grown (base := base) h.inp h.low g (fun j e => by cases e; exact hb), h.low, h.ile, h.icm, h.inil, h.bB, h.bM, Nat.le_trans h.bw g.size, h.dm, h.cm, h.dc, h.ok⟩
  have hi : i < w0.heap.size := (Array.getElem?_eq_some_iff.1 e).1
  exact (Below.heap_setCell _ _ _ _ (by show i ≠ r; omega)).trans (h.bel.err i cs fz e)
theorem StQ.cases {w0 w' : World} {base B k : Nat} {s : St} {e : Ending} (h : StQ w0 base B k s e w') : (∃ s', step s = .go s' ∧ e = .returned (.bool false) ∧ On w0 base w' B s' k) ∨ (step s = .halt ∧ e = .returned (.bool true) ∧ ∃ s', s'.out = s.out ∧ On w0 base w' B s' k) ∨
    (step s = .trap ∧ e = .panicked [tr] ∧ ∃ s', s'.out = s.out ∧ On w0 base w' B s' k) := by
  unfold StQ Oc at h
  cases hs : step s with
  | go s' => rw [hs] at h; exact .inl ⟨s', rfl, h.1, h.2⟩
  | halt => rw [hs] at h; exact .inr (.inl ⟨rfl, h.1, h.2⟩)
  | trap => rw [hs] at h; exact .inr (.inr ⟨rfl, h.1, h.2⟩)
theorem runP_end {w wR w1 w2 : World} {base B r k : Nat} {sj s1 : St} {x : Int} (hgR : w.grownBy wR none) (hr : w.heap.size = r) (hbw : base ≤ w.heap.size) (hRr : wR.heap[r]? = some (.cells #[.int .i64 0] 24 (0, 0)))
    (hOn : On wR base w1 B s1 k) (hso : s1.out = sj.out) (hw2 : w2 = (w1.setCell ⟨r, 0, none⟩ (.int .i64 x)).alloc (.cells #[] 116) ∨ w2 = (w1.alloc (.cells #[] 116)).setCell ⟨r, 0, none⟩ (.int .i64 x)) {o : Out} (ho : o.out = sj.out) (hs : o.steps = k) (he : (o.err : Int) = x) :
    RunP w base B o (.returned (.int .i64 x)) w2 := by
  have hBel : Bel base w wR := (Bel.refl base w).grown hgR hbw (fun _ e => by cases e) (fun _ _ _ _ => by simp)
  have h1 := hOn.rebase hBel
  have hR1 := (hOn.bel.reason hRr).2.2
  refine ⟨by rw [he], s1, by rw [hso, ho], ?_⟩
  rw [hs]
  rcases hw2 with rfl | rfl
  · exact (h1.setReason hR1 (by omega) (by omega) _).more (World.grownBy_alloc _ _ none)
  · have hlt : r < w1.heap.size := (Array.getElem?_eq_some_iff.1 hR1).1
    exact (h1.more (World.grownBy_alloc w1 (.cells #[] 116) none)).setReason ((Below.heap_alloc w1 _ r hlt).trans hR1) (by omega) (by omega) _
set_option maxHeartbeats 8000000 in
theorem run_any (hstep : ∀ (w0 w : World) (base B k : Nat) (s : St), On w0 base w B s k → s.out.length ≤ 1000000000 → Calls Tryd.prog 84 #[.pointer (some ⟨B, 0, none⟩)] w (StQ w0 base B k s))
    {w : World} {base B : Nat} {s : St} (h : On w base w B s 0) (hbw : base ≤ w.heap.size) (hout : s.out = []) (limit : Nat) (hlim : limit ≤ 1000000000) :
    Calls Tryd.prog 55 #[.pointer (some ⟨B, 0, none⟩), .int .i64 (limit : Int)] w (RunP w base B (run limit s)) := by
  have hmf : ∀ (fn : Fn) (first cap : Array Value) (w : World), (Instr.makeFunc fn first cap).run Tryd.prog w = .ok (.func fn first cap) w := fun _ _ _ _ => rfl
  obtain ⟨r, hr⟩ : ∃ r, w.heap.size = r := ⟨_, rfl⟩
  obtain ⟨wR, hwR⟩ : ∃ W, w.alloc (.cells #[.int .i64 0] 24) = W := ⟨_, rfl⟩
  have hRr : wR.heap[r]? = some (.cells #[.int .i64 0] 24 (0, 0)) := by rw [← hwR, ← hr]; exact World.alloc_heap_new w _
  have hgR : w.grownBy wR none := by rw [← hwR]; exact World.grownBy_alloc w _ none
  have hR0 : On wR base wR B s 0 := (h.more hgR).root
  obtain ⟨Q, hQ⟩ : ∃ Q, RunP w base B (run limit s) = Q := ⟨_, rfl⟩
  rw [hQ]
  replace hRr := Lib.hid hRr
  replace hgR := Lib.hid hgR
  replace hR0 := Lib.hid hR0
  replace hQ := Lib.hid hQ
  replace hstep := Lib.hid hstep
  clear h
  go_enter_defers Tryd.func55, Tryd.ntmps55
  go_wp2
  clear hwR
  go_loopw [5] (fun sv wr => ∃ (j : Nat) (sj : St), j ≤ limit ∧ Hid (On wR base wr B sj j) ∧ Hid (run limit s = (run (limit - j) sj).more j) ∧ Hid (sj.out.length ≤ j)) (fun _ wr => limit - stepsOf wr B)
  case atStart => exact ⟨0, s, Nat.zero_le _, hR0, Lib.hid (by rw [Nat.sub_zero]; rfl), Lib.hid (by rw [hout]; exact Nat.le_refl _)⟩
  case round =>
    obtain ⟨j, sj, hj, hOn, hRun, hLen⟩ := hrel
    obtain ⟨m1, c10, f10⟩ := hOn.out.steps
    by_cases hlt : j < limit
    · have dj : decide ((j : Int) < (limit : Int)) = true := decide_eq_true (by omega)
      obtain ⟨j1, hj1⟩ : ∃ j1, j + 1 = j1 := ⟨_, rfl⟩
      have e1 : (j : Int) + 1 = (j1 : Int) := by omega
      have e2 : (j1 : Int) ≤ 1000000000 := by omega
      have hOn1 := hOn.out.setSteps j1
      have c := hstep.out wR (wr.setCell ⟨B, 10, none⟩ (.int .i64 (j1 : Int))) base B j1 sj hOn1 (by have := hLen.out; omega)
      replace c := Lib.hid c
      replace hOn1 := Lib.hid hOn1
      go_wp2_with fail
      refine (c.out).mono ?_
      intro e w1 hq
      rcases hq.cases with ⟨s', hs, rfl, h1⟩ | ⟨hs, rfl, s', hso, h1⟩ | ⟨hs, rfl, s', hso, h1⟩
      · have hm := h1.steps.1
        have hlen : s'.out.length ≤ j1 := by
          have := hLen.out
          rcases step_out hs with e | ⟨b, e⟩
          · rw [e]; omega
          · rw [e, List.length_append]; simp; omega
        have hrun : run limit s = (run (limit - j1) s').more j1 := by
          rw [hRun.out, show limit - j = (limit - j1) + 1 by omega, run_go hs, more_more]
          congr 1
          omega
        replace h1 := Lib.hid h1
        replace hrun := Lib.hid hrun
        replace hlen := Lib.hid hlen
        replace hs := Lib.hid hs
        clear hq c hOn1
        go_wp2
        go_roundw
        case rel => exact ⟨j1, s', by omega, h1, hrun, hlen⟩
        case measure => rw [hm, m1]; omega
      · obtain ⟨k1, k2, k3⟩ := h1.bel.reason hRr.out
        have hrun : run limit s = (⟨sj.out, 0, 1⟩ : Out).more j := by
          rw [hRun.out, show limit - j = (limit - j1) + 1 by omega, run_halt hs]
        have fin : ∀ w2, w2 = (w1.setCell ⟨r, 0, none⟩ (.int .i64 0)).alloc (.cells #[] 116) → Q (.returned (.int .i64 0)) w2 := fun w2 hw => by
          rw [← hQ.out, hrun]
          exact runP_end hgR.out hr hbw hRr.out h1 hso (.inl hw) rfl (by show 1 + j = j1; omega) rfl
        replace fin := Lib.hid fin
        replace hrun := Lib.hid hrun
        replace hs := Lib.hid hs
        replace k3 := Lib.hid k3
        replace h1 := Lib.hid h1
        clear hq c hOn1 hso
        go_wp2
        refine leaves_cons (f := 83) (args := #[.pointer (some ⟨r, 0, none⟩)]) (by simp) (by simp [go_sem]) ?_
        refine (catch_idle r _).mono ?_
        rintro e u' w2 ⟨rfl, rfl, rfl⟩
        have q1 : ((w1.setCell ⟨r, 0, none⟩ (.int .i64 0)).alloc (.cells #[] 116)).cell? ⟨r, 0, none⟩ = some (.int .i64 0) := (World.grownBy_alloc _ _ none).cell (World.cell?_setCell_same _ _ _ k1) (by simp)
        simp [Leaves, settle, results, Tryd.results55, go_sem, q1]
        exact fin.out _ rfl
      · obtain ⟨k1, k2, k3⟩ := h1.bel.reason hRr.out
        have hrun : run limit s = (⟨sj.out, 12, 1⟩ : Out).more j := by
          rw [hRun.out, show limit - j = (limit - j1) + 1 by omega, run_trap hs]
        have fin : ∀ w2, w2 = (w1.alloc (.cells #[] 116)).setCell ⟨r, 0, none⟩ (.int .i64 12) → Q (.returned (.int .i64 12)) w2 := fun w2 hw => by
          rw [← hQ.out, hrun]
          exact runP_end hgR.out hr hbw hRr.out h1 hso (.inr hw) rfl (by show 1 + j = j1; omega) rfl
        replace fin := Lib.hid fin
        replace hrun := Lib.hid hrun
        replace hs := Lib.hid hs
        replace k3 := Lib.hid k3
        replace h1 := Lib.hid h1
        clear hq c hOn1 hso
        refine leaves_cons (f := 83) (args := #[.pointer (some ⟨r, 0, none⟩)]) (by simp) (by simp [go_sem]) ?_
        refine (catch_trap r 0 [] _ k1 k2).mono ?_
        rintro e u' w2 ⟨rfl, rfl, rfl⟩
        have q1 : ((w1.alloc (.cells #[] 116)).setCell ⟨r, 0, none⟩ (.int .i64 12)).cell? ⟨r, 0, none⟩ = some (.int .i64 12) := World.cell?_setCell_same _ _ _ ((World.grownBy_alloc w1 (.cells #[] 116) none).cell k1 (by simp))
        simp [Leaves, settle, results, Tryd.results55, go_sem, q1]
        exact fin.out _ rfl
    · obtain rfl : j = limit := by omega
      have dj : decide ((j : Int) < (j : Int)) = false := decide_eq_false (by omega)
      obtain ⟨k1, k2, k3⟩ := hOn.out.bel.reason hRr.out
      have hrun : run j s = (⟨sj.out, 13, 0⟩ : Out).more j := by
        rw [hRun.out, Nat.sub_self]; rfl
      have fin : ∀ w2, w2 = (wr.setCell ⟨r, 0, none⟩ (.int .i64 13)).alloc (.cells #[] 116) → Q (.returned (.int .i64 13)) w2 := fun w2 hw => by
        rw [← hQ.out, hrun]
        exact runP_end hgR.out hr hbw hRr.out hOn.out rfl (.inl hw) rfl (by show 0 + j = j; omega) rfl
      replace fin := Lib.hid fin
      replace hrun := Lib.hid hrun
      replace k3 := Lib.hid k3
      go_wp2
      refine leaves_cons (f := 83) (args := #[.pointer (some ⟨r, 0, none⟩)]) (by simp) (by simp [go_sem]) ?_
      refine (catch_idle r _).mono ?_
      rintro e u' w2 ⟨rfl, rfl, rfl⟩
      have q1 : ((wr.setCell ⟨r, 0, none⟩ (.int .i64 13)).alloc (.cells #[] 116)).cell? ⟨r, 0, none⟩ = some (.int .i64 13) := (World.grownBy_alloc _ _ none).cell (World.cell?_setCell_same _ _ _ k1) (by simp)
      simp [Leaves, settle, results, Tryd.results55, go_sem, q1]
      exact fin.out _ rfl
end Go.Proofs.YthmgocjmfhpafaaDoor.M17
