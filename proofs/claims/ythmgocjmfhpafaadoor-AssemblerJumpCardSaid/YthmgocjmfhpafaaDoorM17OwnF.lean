/- The contract of the landed twoOperandEffects of layer 17. -/
import Derived.Test.YthmgocjmfhpafaaDoorM17Own6
namespace Go.Proofs.YthmgocjmfhpafaaDoor.M17
set_option maxRecDepth 100000
open Go.RowKit Mem
set_option linter.unusedVariables false
set_option linter.unusedSimpArgs false

/-- One entry is laid into a map that has no such key. -/
theorem put_step {W : World} {E c k : Nat} {es : Array MapEntry} (v : Value) (hE : W.heap[E]? = some (.map es c)) (hf : Instr.findNow (.int .u32) (.int .u32 (k : Int)) es.toList 0 = some none) :
    ∃ W', (Instr.mapUpdate 90 (.map (some E)) (.int .u32 (k : Int)) v).run Tryd.prog W = .ok () W' ∧ W'.heap[E]? = some (.map (es.push ⟨.int .u32 (k : Int), v, c⟩) (c + 1)) ∧ W.grownBy W' (some E) := by
  have hk : MapKept.IsKey (.int .u32) (.int .u32 (k : Int)) := by simp [MapKept.IsKey]
  refine ⟨{ W with heap := W.heap.setIfInBounds E (.map (es.push ⟨.int .u32 (k : Int), v, c⟩) (c + 1)) }, ?_, (MapKept.heap_set hE).1, ⟨rfl, rfl, rfl, by simp, fun i _ hi => (MapKept.heap_set hE).2 i (fun e => hi (by rw [e]))⟩⟩
  simp [Instr.mapUpdate, run_underlying Tryd.underlying90, MapKept.run_getObj_map hE, MapKept.run_checkKey Tryd.underlying47 hk, MapKept.run_findKey Tryd.underlying47 hf, MapKept.run_setObj_map _ hE, Result.andThen]
theorem grown_row {a b c : World} {E : Nat} (h : a.grownBy b (some E)) (k : b.grownBy c (some E)) : a.grownBy c (some E) :=
  ⟨k.os.trans h.os, k.tape.trans h.tape, k.output.trans h.output, Nat.le_trans h.size k.size, fun i hi hr => (k.block i (Nat.lt_of_lt_of_le hi h.size) hr).trans (h.block i hi hr)⟩
set_option maxHeartbeats 4000000 in
theorem effects_own (B : Nat) (w : World) : Calls Tryd.prog 82 #[.pointer (some ⟨B, 0, none⟩)] w fun e w' => ∃ E P, e = .returned (.map (some E)) ∧ w'.heap[E]? = some (.map (eff P) 9) ∧ Blk 85 w' P [.pointer (some ⟨B, 0, none⟩)] ∧ Below w.heap.size w w' := by
  have hmf : ∀ (fn : Fn) (first cap : Array Value) (w : World), (Instr.makeFunc fn first cap).run Tryd.prog w = .ok (.func fn first cap) w := fun _ _ _ _ => rfl
  obtain ⟨W0, hW0⟩ : ∃ W, (w.alloc (.cells #[.pointer (some ⟨B, 0, none⟩)] 85)).alloc (.map #[] 0) = W := ⟨_, rfl⟩
  obtain ⟨P, hP⟩ : ∃ P, w.heap.size = P := ⟨_, rfl⟩
  have r0 : (Instr.makeMap 90 none).run Tryd.prog (w.alloc (.cells #[.pointer (some ⟨B, 0, none⟩)] 85)) = .ok (.map (some (P + 1))) W0 := by
    rw [← hW0, ← hP, show w.heap.size + 1 = (w.alloc (.cells #[.pointer (some ⟨B, 0, none⟩)] 85)).heap.size by rw [World.size_alloc]]
    rfl
  have hE0 : W0.heap[P + 1]? = some (.map #[] 0) := by
    rw [← hW0]
    have := World.alloc_heap_new (w.alloc (.cells #[.pointer (some ⟨B, 0, none⟩)] 85)) (.map #[] 0)
    rw [World.size_alloc, hP] at this
    exact this
  have hb0 : Blk 85 W0 P [.pointer (some ⟨B, 0, none⟩)] := by
    rw [← hW0]
    refine (Below.heap_alloc _ _ P (by rw [World.size_alloc]; omega)).trans ?_
    rw [← hP]
    exact Blk.new w _ _
  have hs0 : Below P w W0 := by
    rw [← hW0, ← hP]
    exact ((Below.refl _ _).alloc (Nat.le_refl _) _).alloc (by rw [World.size_alloc]; omega) _
  have hsz : P + 1 < W0.heap.size := (Array.getElem?_eq_some_iff.1 hE0).1
  obtain ⟨W1, r1, g1, b1⟩ := put_step (k := 43) (fnV 107 P) hE0 rfl
  obtain ⟨W2, r2, g2, b2⟩ := put_step (k := 45) (fnV 109 P) g1 rfl
  obtain ⟨W3, r3, g3, b3⟩ := put_step (k := 42) (fnV 110 P) g2 rfl
  obtain ⟨W4, r4, g4, b4⟩ := put_step (k := 47) (fnV 111 P) g3 rfl
  obtain ⟨W5, r5, g5, b5⟩ := put_step (k := 37) (fnV 113 P) g4 rfl
  obtain ⟨W6, r6, g6, b6⟩ := put_step (k := 94) (fnV 114 P) g5 rfl
  obtain ⟨W7, r7, g7, b7⟩ := put_step (k := 60) (fnV 115 P) g6 rfl
  obtain ⟨W8, r8, g8, b8⟩ := put_step (k := 33) (fnV 117 P) g7 rfl
  obtain ⟨W9, r9, g9, b9⟩ := put_step (k := 63) (fnV 119 P) g8 rfl
  have hg := grown_row (grown_row (grown_row (grown_row (grown_row (grown_row (grown_row (grown_row b1 b2) b3) b4) b5) b6) b7) b8) b9
  have hb9 : Blk 85 W9 P [.pointer (some ⟨B, 0, none⟩)] := (hg.block P (by omega) (by simp)).trans hb0
  have hbl : Below w.heap.size w W9 := by
    rw [hP]
    exact hs0.grown hg (by omega) (fun j e => by cases e; omega)
  have hm9 : W9.heap[P + 1]? = some (.map (eff P) 9) := g9
  have fin := Lib.hid (And.intro hm9 (And.intro hb9 hbl))
  unfold fnV at r1 r2 r3 r4 r5 r6 r7 r8 r9
  rw [show ((43 : Nat) : Int) = 43 from rfl] at r1
  rw [show ((45 : Nat) : Int) = 45 from rfl] at r2
  rw [show ((42 : Nat) : Int) = 42 from rfl] at r3
  rw [show ((47 : Nat) : Int) = 47 from rfl] at r4
  rw [show ((37 : Nat) : Int) = 37 from rfl] at r5
  rw [show ((94 : Nat) : Int) = 94 from rfl] at r6
  rw [show ((60 : Nat) : Int) = 60 from rfl] at r7
  rw [show ((33 : Nat) : Int) = 33 from rfl] at r8
  rw [show ((63 : Nat) : Int) = 63 from rfl] at r9
  clear g1 g2 g3 g4 g5 g6 g7 g8 g9 b1 b2 b3 b4 b5 b6 b7 b8 b9 hg hb9 hbl hE0 hb0 hs0 hsz hm9
  go_enter Tryd.func82, Tryd.ntmps82
  go_wp2
  first | go_ret | skip
  exact ⟨P + 1, P, rfl, fin.out.1, fin.out.2.1, fin.out.2.2⟩
end Go.Proofs.YthmgocjmfhpafaaDoor.M17
