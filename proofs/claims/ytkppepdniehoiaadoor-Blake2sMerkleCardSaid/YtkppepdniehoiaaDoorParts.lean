/- A region that draws its order in three parts: operations 0 to n - 1 read or call quietly, operations n to m - 1 are pure (they yield in whatever world), the others come up one by one: 'wp_region_parts'. For 'a[i], a[j] = f(a[i], a[j])'. No program is named here. -/
import Derived.StillTail
import Derived.Deep.RegionHeld3
namespace Go.Proofs.YtkppepdniehoiaaDoor.Parts
open Go
set_option linter.unusedVariables false

section
variable {P : Program} {ops : Array Oper} {md : Region.Mode} {w : World}

/-- Each operation behind n waits for one between n and itself. -/
def treeB (md : Region.Mode) (ops : Array Oper) (n : Nat) : Bool :=
  (List.range ops.size).all fun t => decide (t ≤ n) || (List.range t).any fun j => decide (n ≤ j) && Region.waitsFor md ops t j

/-- While an operation of the head is outstanding, none behind the head is ready. -/
def HeadFirst (md : Region.Mode) (ops : Array Oper) (n : Nat) : Prop :=
  ∀ listed, HeadInv md ops n listed → ∀ i, i < n → listed.getD i true = false → ∀ t ∈ Region.ready md ops listed, t < n

theorem ready_waits {listed : Array Bool} {t i : Nat} (hr : t ∈ Region.ready md ops listed) (hw : Region.waitsFor md ops t i = true) : listed.getD i false = true := by
  obtain ⟨_, ot, hot, hall⟩ := mem_ready.1 hr
  obtain ⟨o', ho', e, he, hb, hon⟩ := Region.waitsFor_spec hw
  obtain rfl : o' = ot := Option.some.inj (ho'.symm.trans hot)
  rw [← hon]
  exact hall e he hb

theorem sink_open {n : Nat} {listed : Array Bool} (hs : Region.sinkB md ops n = true) (hn : n < ops.size) (inv : HeadInv md ops n listed) :
    ∀ d i, n - i = d → i < n → listed.getD i true = false → n ∉ Region.ready md ops listed := by
  intro d
  induction d using Nat.strongRecOn with
  | _ d ih =>
    intro i hd hi hun hr
    obtain ⟨j, hj, hj2⟩ := List.any_eq_true.1 (List.all_eq_true.1 hs i (List.mem_range.2 hi))
    simp only [Bool.and_eq_true, decide_eq_true_eq] at hj2
    have hjn : j ≤ n := by have := List.mem_range.1 hj; omega
    have hop : listed.getD i false = false := getD_both hun
    rcases Nat.lt_or_ge j n with hlt | hge
    · cases hl : listed.getD j false with
      | true =>
        obtain ⟨oj, hoj, e, he, hb, hon⟩ := Region.waitsFor_spec hj2.2
        have := inv.closed j oj hoj hl e he hb
        rw [hon, hop] at this
        cases this
      | false => exact ih (n - j) (by omega) j rfl hlt (getD_in (by rw [inv.size]; omega) hl) hr
    · obtain rfl : j = n := by omega
      have := ready_waits hr hj2.2
      rw [hop] at this
      cases this

theorem headFirst {n : Nat} (hs : Region.sinkB md ops n = true) (ht : treeB md ops n = true) (hn : n < ops.size) : HeadFirst md ops n := fun listed inv i hi hun t hr => by
  rcases Nat.lt_or_ge t n with h | h
  · exact h
  · exfalso
    obtain ⟨_, ot, hot, _⟩ := mem_ready.1 hr
    have htl : t < ops.size := (Array.getElem?_eq_some_iff.1 hot).1
    by_cases htn : t = n
    · subst htn
      exact sink_open hs hn inv _ i rfl hi hun hr
    · have h1 := List.all_eq_true.1 ht t (List.mem_range.2 htl)
      simp only [Bool.or_eq_true, decide_eq_true_eq] at h1
      rcases h1 with h1 | h1
      · omega
      · obtain ⟨j, hj, hj2⟩ := List.any_eq_true.1 h1
        simp only [Bool.and_eq_true, decide_eq_true_eq] at hj2
        have hjt := List.mem_range.1 hj
        have := ready_waits hr hj2.2
        rw [getD_both (inv.tail j hj2.1 (by omega))] at this
        cases this

/-- One operation of the head taken first. -/
theorem head_take {n i : Nat} {oi : Oper} {v : Value} {L : Array Bool → Act → Prop} (hi : ops[i]? = some oi) (hsel : ∀ (j : Nat) (o : Oper) cs b, ops[j]? = some o → o.op ≠ .select cs b)
    (hF : HeadFirst md ops n) (hin : i < n) (hdone : ∀ listed a, L listed a → ∀ j ∈ Region.ready md ops listed, n ≤ j) :
    ∀ (f : Nat) (listed : Array Bool) (a : Act), HeadInv md ops n listed →
      (∀ j oj, ops[j]? = some oj → j ≠ i → listed.getD j true = false → (∀ e ∈ oj.after, Region.binds md e = true → e.on ≠ i) → oi.apart ops oj = true) →
      i ∈ Region.ready md ops listed → YieldsAt P ops w oi v a → wpAnyL P md ops w n L f (listed.setIfInBounds i true) (a.put oi.dst v) → wpAnyL P md ops w n L (f + 1) listed a
  | f, listed, a, inv, hap, hr, hy, H => by
    have hun := (mem_ready.1 hr).1
    refine ⟨fun h => (by rw [h] at hr; cases hr), fun j hj => ⟨hF listed inv i hin hun j hj, ?_⟩⟩
    by_cases hji : j = i
    · subst hji
      exact hy.stOp hi H
    match f, H with
    | 0, H =>
      have h1 := hdone _ _ H j (ready_mono hj hji)
      have h2 := hF listed inv i hin hun j hj
      omega
    | f + 1, H =>
      obtain ⟨hjun, oj, hoj, hall⟩ := mem_ready.1 hj
      have hno : ∀ e ∈ oj.after, Region.binds md e = true → e.on ≠ i := fun e he hb heq => by
        have h1 := hall e he hb
        rw [heq, getD_both hun] at h1
        cases h1
      refine stOp_mono (fun a' h3 => ?_) (stOp_put hoj (hap j oj hoj hji hjun hno) (fun cs b => hsel i oi cs b hi) (fun cs b => hsel j oj cs b hoj) hy (H.2 j (ready_mono hj hji)).2)
      refine head_take hi hsel hF hin hdone f (listed.setIfInBounds j true) a' (inv.set hj (hF listed inv i hin hun j hj)) (fun k ok hk hki hun' hno' => ?_) (ready_mono hr (Ne.symm hji)) h3.1 ?_
      · refine hap k ok hk hki ?_ hno'
        by_cases hjk : j = k
        · subst hjk; exact hjun
        · rwa [getD_set_ne true hjk] at hun'
      · rw [Array.setIfInBounds_comm _ _ hji]
        exact h3.2

/-- The operations from number k on, f of them, may come up in this order; then the test F of what has come up. -/
def thenB (md : Region.Mode) (ops : Array Oper) (F : Array Bool → Bool) : Nat → Nat → Array Bool → Bool
  | 0, _, listed => F listed
  | f + 1, k, listed => (Region.ready md ops listed).contains k && (Region.free md ops listed k && thenB md ops F f (k + 1) (listed.setIfInBounds k true))

theorem head_lex {n : Nat} {F : Array Bool → Bool} {Lq : Act → Prop} (hsel : Region.noSelect ops = true) (hF : HeadFirst md ops n) (hn : n < ops.size) (hd : ∀ listed, F listed = true → ∀ j ∈ Region.ready md ops listed, n ≤ j) :
    ∀ (l : List Oper) (k : Nat) (listed : Array Bool) (a : Act), (∀ j, j < l.length → l[j]? = ops[k + j]?) → k + l.length = n → HeadInv md ops n listed → thenB md ops F l.length k listed = true →
      wpStill P ops w Lq l a → wpAnyL P md ops w n (fun listed' a' => F listed' = true ∧ Lq a') l.length listed a
  | [], k, listed, a, _, _, _, hB, h => ⟨hB, h⟩
  | o :: l, k, listed, a, hl, hk, inv, hB, h => by
    have h0 : ops[k]? = some o := (hl 0 (by simp)).symm
    simp only [List.length_cons] at hk hB
    simp only [thenB, Bool.and_eq_true] at hB
    have hr : k ∈ Region.ready md ops listed := by simpa using hB.1
    have hst : stOp P ops w k (wpStill P ops w Lq l) a := by
      unfold stOp
      simp only [h0]
      exact h
    obtain ⟨v, hy, hK⟩ := yieldsAt_of_stOp h0 hst
    refine head_take h0 (Region.noSelect_spec hsel) hF (by omega) (fun listed' a' hL => hd _ hL.1) l.length listed a inv (Region.free_spec h0 hB.2.1) hr hy ?_
    exact head_lex hsel hF hn hd l (k + 1) _ _ (fun j hj => by have := hl (j + 1) (by simp; omega); simpa [Nat.add_assoc, Nat.add_comm 1 j] using this) (by omega) (inv.set hr (by omega)) hB.2.2 hK

/-- Pure operations one behind the other. -/
def wpPure (P : Program) (ops : Array Oper) (K : Act → Prop) : List Oper → Act → Prop
  | [], a => K a
  | o :: l, a => ∃ v, Yields P ops o v a ∧ wpPure P ops K l (a.put o.dst v)

theorem pure_any {Q' : Exit → Act → World → Prop} {G : Nat} {T : List Oper} (hsel : Region.noSelect ops = true) (hQ : ∀ c a a' w, Q' (.panic c) a w → Q' (.panic c) a' w) (hT : ∀ j, T[j]? = ops[G + j]?) :
    ∀ (l : List Oper) (k : Nat) (listed : Array Bool) (a : Act), (∀ j, j < l.length → l[j]? = ops[k + j]?) → k + l.length = G → thenB md ops (Region.seqB md ops T.length G) l.length k listed = true →
      wpPure P ops (fun a' => wpList P ops Q' T a' w) l a → wpAny P md ops Q' (l.length + T.length) listed a w
  | [], k, listed, a, _, hk, hB, h => by
    obtain rfl : k = G := by simpa using hk
    simp only [List.length_nil, Nat.zero_add]
    exact wpAny_of_seq T k listed a w hT hB h
  | o :: l, k, listed, a, hl, hk, hB, ⟨v, hy, h⟩ => by
    have h0 : ops[k]? = some o := (hl 0 (by simp)).symm
    simp only [List.length_cons] at hk hB
    simp only [thenB, Bool.and_eq_true] at hB
    rw [List.length_cons, show l.length + 1 + T.length = l.length + T.length + 1 by omega]
    refine wpAny_take h0 hsel hB.2.1 hB.1 (fun c a w hq => hQ c _ _ w hq) hy ?_
    exact pure_any hsel hQ hT l (k + 1) _ _ (fun j hj => by have := hl (j + 1) (by simp; omega); simpa [Nat.add_assoc, Nat.add_comm 1 j] using this) (by omega) hB.2.2 h

def partsB (md : Region.Mode) (ops : Array Oper) (n m : Nat) : Bool :=
  Region.noSelect ops && (decide (n < ops.size) && (decide (n ≤ m) && (decide (m ≤ ops.size) && (Region.sinkB md ops n && (treeB md ops n &&
    thenB md ops (fun listed => (Region.ready md ops listed).all (fun j => decide (n ≤ j)) && thenB md ops (Region.seqB md ops (ops.size - m) m) (m - n) n listed) n 0 (Array.replicate ops.size false))))))

theorem wp_region_parts {id : Nat} {Q : Exit → Act → World → Prop} {a : Act} {w : World} {l : List Oper} (n m : Nat) (hm : P.follows .mixedOrders = true) (hB : partsB .any l.toArray n m = true)
    (h : wpStill P l.toArray w.drew (fun a' => wpPure P l.toArray (fun a'' => wpList P l.toArray (NoPanic Q) (l.drop m) a'' w.drew) ((l.drop n).take (m - n)) a') (l.take n) a) : (Code.region id l.toArray true).wp P Q a w := by
  simp only [partsB, Bool.and_eq_true, decide_eq_true_eq] at hB
  obtain ⟨hsel, hn, hnm, hmo, hs, ht, hB⟩ := hB
  have hn' : n < l.length := by simpa using hn
  have hmo' : m ≤ l.length := by simpa using hmo
  have e1 : (l.take n).length = n := by simp; omega
  have e2 : ((l.drop n).take (m - n)).length = m - n := by simp; omega
  have e3 : (l.drop m).length = l.toArray.size - m := by simp
  refine wp_region_noPanic ?_
  refine wp_region_any hm ?_
  have inv0 : HeadInv .any l.toArray n (Array.replicate l.toArray.size false) :=
    ⟨by simp, fun j oj _ hl => (by rw [getD_replicate_false] at hl; cases hl), fun t _ ht => getD_in (by simpa using ht) (getD_replicate_false _ _)⟩
  have H := head_lex (P := P) (w := w.drew) (F := fun listed => (Region.ready .any l.toArray listed).all (fun j => decide (n ≤ j)) && thenB .any l.toArray (Region.seqB .any l.toArray (l.toArray.size - m) m) (m - n) n listed) hsel (headFirst hs ht hn) hn (fun listed hF j hj => by
    have := (Bool.and_eq_true _ _ ▸ hF : _ ∧ _).1
    simpa using List.all_eq_true.1 this j hj) (l.take n) 0 _ a (fun j hj => by
      have : j < n := by rw [e1] at hj; exact hj
      simp [this]) (by omega) inv0 (by rw [e1]; exact hB) h
  rw [e1] at H
  have h2 := wpAny_of_head (Q' := NoPanic Q) (g := l.toArray.size - n) (fun listed a' hL => by
    simp only [Bool.and_eq_true] at hL
    obtain ⟨⟨_, hB2⟩, hL⟩ := hL
    have := pure_any (md := .any) (Q' := NoPanic Q) (G := m) (T := l.drop m) (w := w.drew) hsel (fun c a a' w hq => hq) (fun j => by simp [List.getElem?_drop]) ((l.drop n).take (m - n)) n listed a'
      (fun j hj => by rw [e2] at hj; simp [hj, List.getElem?_drop]) (by omega) (by rw [e2, e3]; exact hB2) hL
    rwa [e2, e3, show m - n + (l.toArray.size - m) = l.toArray.size - n by simp; omega] at this) _ _ _ H
  rw [show n + (l.toArray.size - n) = l.toArray.size by omega] at h2
  exact h2
end
end Go.Proofs.YtkppepdniehoiaaDoor.Parts
