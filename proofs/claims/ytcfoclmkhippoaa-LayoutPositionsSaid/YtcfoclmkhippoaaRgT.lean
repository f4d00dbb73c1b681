/- A range over a function whose yields hand over memory: the iterator's contract tells of each yielded value at the world of its yield, and the loop's own invariant takes it over. (No round of the loop leaves it early.) No program is named here. -/
import Derived.RangeFuncFrom
import Derived.Lib.Hide
namespace Go.Proofs.Ytcfoclmkhippoaa.Mem
open Go Go.RowKit
set_option linter.unusedVariables false
set_option linter.unusedSimpArgs false

/-- The iterator's contract, for every loop l and whatever J its rounds keep: T tells of a value at the world where it is yielded. -/
def SeqT {α : Type} (F : Fence) (n : Nat) (P : Program) (g : Nat) (caps : Array Value) (encs : α → Array Value) (T : List α → α → World → Prop) (Kp : World → World → Prop) (S : List α → Prop) (w : World) : Prop :=
  ∀ (l : Nat) (J : List α → World → Prop) (W : World), Below w.heap.size w W → (∀ pre A B, J pre A → Below A.heap.size A B → J pre B) →
    (∀ pre x A, J pre A → T pre x A → YieldAt F (n - 1) P l (encs x) A fun e B => e = .returned (.bool true) ∧ J (pre ++ [x]) B ∧ Kp A B) →
    J [] W → CallsIn F n P g (#[.func (.yield l) #[] #[]] ++ caps) W fun e B => (∃ v, e = .returned v) ∧ ∃ xs, S xs ∧ J xs B

/-- How a round ends. -/
def RoundT {α : Type} (Kp : World → World → Prop) (I : List α → World → Prop) (xs : List α) (W : World) : Exit → Act → World → Prop
  | .normal, _, B => KeepsOthers W B ∧ Kp W B ∧ I xs B
  | _, _, _ => False

section
variable {F : Fence} {n : Nat} {P : Program} {α : Type}

/-- The loop's two new blocks: that of the deferred calls, and the record's own in a state. -/
structure Laid2 (b : Nat) (r : Loop) (W : World) : Prop where
  rc : W.heap[b + 1]? = some (.loop r)
  df : W.heap[b]? = some (.deferred (some []))
theorem Laid2.keep {b : Nat} {r : Loop} {W W' : World} (h : Laid2 b r W) (k : KeepsOthers W W') : Laid2 b r W' := ⟨k.same _ _ h.rc rfl, k.same _ _ h.df rfl⟩
theorem Laid2.turn {b : Nat} {r r' : Loop} {W : World} (h : Laid2 b r W) : Laid2 b r' (W.putObj (b + 1) (.loop r')) :=
  ⟨World.putObj_heap_same (Array.getElem?_eq_some_iff.1 h.rc).1, (World.putObj_heap_other (by omega)).trans h.df⟩
theorem Laid2.below {b : Nat} {r : Loop} {W W' : World} (h : Laid2 b r W) (k : Below W.heap.size W W') : Laid2 b r W' :=
  ⟨(k.block _ (Array.getElem?_eq_some_iff.1 h.rc).1).trans h.rc, (k.block _ (Array.getElem?_eq_some_iff.1 h.df).1).trans h.df⟩

theorem range_told {g : Operand} {ps : Array Tmp} {assign body : Code} {Q : Exit → Act → World → Prop} {a : Act} {w : World}
    (hro : F.round = none) (hn : 1 ≤ n) {gf : Nat} {caps : Array Value} (hg : a.eval g = .func (.func gf) #[] caps) (hfn : F.fn gf) (hent : ∀ args w, (callFunc gf args).run P w = .ok (.enter gf args) w)
    {encs : α → Array Value} {T : List α → α → World → Prop} {Kp : World → World → Prop} {S : List α → Prop} (hseq : SeqT F (n - 1) P gf caps encs T Kp S w)
    (hK3 : ∀ {A B C : World}, Kp A B → Kp B C → Kp A C) (hKL : ∀ (W : World) (l : Nat) (o : Obj), w.heap.size ≤ l → Kp W (W.putObj l o))
    (hT : ∀ pre x W l o, w.heap.size ≤ l → (∃ r, W.heap[l]? = some (.loop r)) → T pre x W → T pre x (W.putObj l o)) (hps : ∀ x, (encs x).size = ps.size)
    (I : List α → World → Prop) (hI : OwnFrom w.heap.size I) (h0 : I [] w) (a1 : α → Act)
    (hassign : ∀ (l : Nat) (x : α) (W : World) (K : Act → World → Prop), K (a1 x) W →
      assign.wpIn (F.inRound l) (n - 1 - 1) P (Exit.then K (fun _ _ _ => False)) { tmps := (ps.zip (encs x)).foldl (fun t (p, v) => t.setIfInBounds p v) a.tmps, defers := [] } W)
    (hbody : ∀ (l : Nat) (pre : List α) (x : α) (W : World), I pre W → T pre x W → body.wpIn (F.inRound l) (n - 1 - 1) P (RoundT Kp I (pre ++ [x]) W) (a1 x) W)
    (hdone : ∀ (D : Nat) (xs : List α) (W : World), w.heap.size ≤ D → S xs → I xs W → W.heap[D]? = some (.deferred (some [])) → Q .normal { a with defers := { target := .collected D, args := #[] } :: a.defers } W) :
    (Code.rangeFunc g ps assign body).wpIn F n P Q a w := by
  refine wpIn_rangeFunc fun fn hfn' => ?_
  rw [hro]
  obtain ⟨rec, hrec⟩ : ∃ rec : LoopState → Loop, ∀ st, rec st = { state := st, pending := none, fn := fn, tmps := a.tmps, params := ps, assign := assign, body := body, defers := w.heap.size } := ⟨_, fun _ => rfl⟩
  have hW := run_enterLoop_outer (P := P) (w := w) fn a.tmps ps assign body
  rw [← hrec] at hW
  obtain ⟨V, hV⟩ : ∃ V, (w.alloc (.deferred (some []))).alloc (.loop (rec .ready)) = V := ⟨_, rfl⟩
  have hL : Laid2 w.heap.size (rec .ready) V := by
    refine ⟨?_, ?_⟩
    · have := World.alloc_heap_new (w.alloc (.deferred (some []))) (.loop (rec .ready))
      rw [World.size_alloc] at this
      rwa [hV] at this
    · rw [← hV]
      exact (Below.heap_alloc _ _ _ (by simp)).trans (World.alloc_heap_new w _)
  have hVw : Below w.heap.size w V := by rw [← hV]; exact ((Below.refl _ w).alloc (Nat.le_refl _) _).alloc (by simp) _
  have hIV : I [] V := by rw [← hV]; exact hI.alloc _ (hI.alloc _ h0)
  have hIb : ∀ pre A B, I pre A → Below A.heap.size A B → I pre B := fun pre A B h k => hI pre A B none h ⟨k.os, k.tape, k.output, k.size, fun i hi _ => k.block i hi⟩ (fun r e => by cases e)
  rw [hV] at hW
  have hcall := hseq (w.heap.size + 1) (fun pre W => I pre W ∧ Laid2 w.heap.size (rec .ready) W) V hVw (fun pre A B h k => ⟨hIb pre A B h.1 k, h.2.below k⟩) ?_ ⟨hIV, hL⟩
  · refine ⟨_, _, V, { target := .fn (.func gf) caps, args := #[.func (.yield (w.heap.size + 1)) #[] #[]] }, V, gf, _, V, hW, ?_, ?_, ?_, fun _ => hn, hcall.mono ?_⟩
    · simp only [resolve, hg]
      simp [go_sem]
    · intro f hf
      simp [Target.leads] at hf
      rw [← hf]
      exact hfn
    · simp [invoke, go_sem, hent]
    · rintro e B ⟨⟨v, rfl⟩, xs, hS, hi, hl⟩
      have hend := run_endLoop (P := P) hl.rc (by rw [hrec]; simp)
      have hp : (rec .ready).pending = none := by rw [hrec]
      rw [hp] at hend
      exact ⟨none, _, hend, hdone _ xs _ (Nat.le_refl _) hS (hI.putObj _ hi (by omega) hl.rc rfl) ((World.putObj_heap_other (by omega)).trans hl.df)⟩
  · rintro pre x W ⟨hi, hl⟩ ht
    have hy := run_yield (P := P) (args := encs x) hl.rc (by rw [hrec]; exact hps x)
    have hb := run_beginRound (P := P) hl.rc (by rw [hrec])
    obtain ⟨busy, hbusy⟩ : ∃ r, ({ rec .ready with state := .busy } : Loop) = r := ⟨_, rfl⟩
    rw [hbusy] at hb
    have hl2 : Laid2 w.heap.size busy (W.putObj (w.heap.size + 1) (.loop busy)) := hl.turn
    have hk2 := hKL W (w.heap.size + 1) (.loop busy) (by omega)
    have hi2 := hI.putObj (.loop busy) hi (show w.heap.size ≤ w.heap.size + 1 by omega) hl.rc rfl
    have ht2 := hT pre x W (w.heap.size + 1) (.loop busy) (by omega) ⟨_, hl.rc⟩ ht
    have hbd := hbody (w.heap.size + 1) pre x _ hi2 ht2
    have has := hassign (w.heap.size + 1) x W (fun b B => ∃ C, (Instr.beginRound (w.heap.size + 1)).run P B = .ok () C ∧ body.wpIn (F.inRound (w.heap.size + 1)) (n - 1 - 1) P (roundPost P (w.heap.size + 1) fun e B => e = .returned (.bool true) ∧ (I (pre ++ [x]) B ∧ Laid2 w.heap.size (rec .ready) B) ∧ Kp W B) b C) ⟨_, hb, ?_⟩
    · rw [hrec] at hy
      exact ⟨fn, _, assign, body, hy, roundIn_of_wpIn hfn' has⟩
    · refine wpIn_mono hbd ?_
      intro e b B hp
      cases e with
      | normal =>
        obtain ⟨ho, hkp, hi3⟩ := hp
        have hl3 := hl2.keep ho
        have he := run_endRound (P := P) none hl3.rc
        have hst : ({ busy with state := if (none : Option Code).isNone then LoopState.ready else .done, pending := none } : Loop) = rec .ready := by rw [← hbusy, hrec]; rfl
        rw [hst] at he
        exact ⟨_, _, he, rfl, ⟨hI.putObj _ hi3 (by omega) hl3.rc rfl, hl3.turn⟩, hK3 (hK3 hk2 hkp) (hKL _ _ _ (by omega))⟩
      | _ => exact hp.elim
end
end Go.Proofs.Ytcfoclmkhippoaa.Mem
