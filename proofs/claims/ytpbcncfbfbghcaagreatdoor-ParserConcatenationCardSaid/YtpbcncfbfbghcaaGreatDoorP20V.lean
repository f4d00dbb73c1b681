/- A region that draws its order, by what every step keeps. No program is named here. The drawn region of ParserConcatenation: six appends, in whatever order (layer 20). -/
import Derived.Orders
import Derived.Test.YtpbcncfbfbghcaaGreatDoorP20C
import Derived.Lib.OthersKept
import Derived.Deep.RegionLawGrows
import Derived.Test.YtpbcncfbfbghcaaGreatDoorP20T
namespace Go.Proofs.YtpbcncfbfbghcaaGreatDoor.L20
set_option maxRecDepth 100000
open Go.RowKit Mem
set_option linter.unusedVariables false
set_option linter.unusedSimpArgs false

section
variable {P : Program} {md : Region.Mode} {ops : Array Oper} {Q : Exit → Act → World → Prop}
theorem ready_spec {listed : Array Bool} {i : Nat} (h : i ∈ Region.ready md ops listed) : i < ops.size ∧ listed.getD i true = false ∧ ∀ o, ops[i]? = some o → ∀ e ∈ o.after, Region.binds md e = true → listed.getD e.on false = true := by
  unfold Region.ready at h
  rw [List.mem_filter, List.mem_range] at h
  obtain ⟨h1, h2⟩ := h
  simp only [Bool.and_eq_true, Bool.not_eq_true'] at h2
  refine ⟨h1, h2.1, fun o ho e he hb => ?_⟩
  have h3 := h2.2
  rw [ho] at h3
  simp only [Option.map_some, Option.getD_some, Array.all_eq_true'] at h3
  have := h3 e he
  simp [hb] at this
  rw [Array.getD_eq_getD_getElem?]
  exact this
theorem count_set {l : Array Bool} {i : Nat} (h : l.getD i true = false) : (l.setIfInBounds i true).toList.countP (fun x => !x) + 1 = l.toList.countP (fun x => !x) := by
  have hi : i < l.size := by
    rcases Nat.lt_or_ge i l.size with h' | h'
    · exact h'
    · simp [Array.getD, Nat.not_lt.2 h'] at h
  have hv : l.toList[i]'(by simpa using hi) = false := by simpa [Array.getD, hi] using h
  have hp : 0 < l.toList.countP (fun x => !x) := List.countP_pos_iff.2 ⟨false, by rw [← hv]; exact List.getElem_mem _, rfl⟩
  rw [Array.toList_setIfInBounds, List.countP_set (by simpa using hi), hv]
  simp only [Bool.not_false, Bool.not_true, if_true, Bool.false_eq_true, if_false]
  omega
/-- What has come up, what it waits for has come up before. -/
def Closed (md : Region.Mode) (ops : Array Oper) (listed : Array Bool) : Prop := ∀ i o, ops[i]? = some o → listed.getD i false = true → ∀ e ∈ o.after, Region.binds md e = true → listed.getD e.on false = true
theorem getD_set (l : Array Bool) (i j : Nat) (hi : i < l.size) : (l.setIfInBounds i true).getD j false = if i = j then true else l.getD j false := by
  by_cases h : i = j
  · subst h; simp [Array.getD, hi]
  · rw [if_neg h, Array.getD_eq_getD_getElem?, Array.getD_eq_getD_getElem?, Array.getElem?_setIfInBounds_ne h]
theorem lt_of_false {l : Array Bool} {i : Nat} (h : l.getD i true = false) : i < l.size := by
  rcases Nat.lt_or_ge i l.size with h' | h'
  · exact h'
  · simp [Array.getD, Nat.not_lt.2 h'] at h
theorem false_of {l : Array Bool} {i : Nat} (h : l.getD i true = false) : l.getD i false = false := by
  have := lt_of_false h
  simp [Array.getD, this] at h ⊢
  exact h
theorem Closed.set {listed : Array Bool} {i : Nat} (h : Closed md ops listed) (hi : i ∈ Region.ready md ops listed) : Closed md ops (listed.setIfInBounds i true) := by
  obtain ⟨_, h2, h3⟩ := ready_spec hi
  have hs := lt_of_false h2
  intro j o ho hj e he hb
  rw [getD_set _ _ _ hs] at hj ⊢
  by_cases hij : i = j
  · subst hij
    have := h3 o ho e he hb
    split
    · rfl
    · exact this
  · rw [if_neg hij] at hj
    have := h j o ho hj e he hb
    split
    · rfl
    · exact this
theorem all_up {listed : Array Bool} (hs : listed.size = ops.size) (hfw : ((List.range ops.size).all fun i => ((ops[i]?).map fun o => o.after.all fun e => !Region.binds md e || decide (e.on < i)).getD true) = true) (h0 : Region.ready md ops listed = []) : ∀ n i, i < n → i < ops.size → listed.getD i false = true
  | 0, i, h, _ => by omega
  | n + 1, i, hn, hi => by
    refine Classical.byContradiction fun hne => ?_
    have hf : listed.getD i true = false := by
      have hi2 : i < listed.size := by omega
      simp [Array.getD, hi2] at hne ⊢
      exact hne
    obtain ⟨o, ho⟩ : ∃ o, ops[i]? = some o := ⟨_, Array.getElem?_eq_getElem hi⟩
    have hm : i ∈ Region.ready md ops listed := by
      unfold Region.ready
      rw [List.mem_filter, List.mem_range]
      refine ⟨hi, ?_⟩
      rw [hf, ho]
      simp only [Bool.not_false, Bool.true_and, Option.map_some, Option.getD_some, Array.all_eq_true']
      intro e he
      have h1 := (List.all_eq_true.1 hfw) i (List.mem_range.2 hi)
      rw [ho] at h1
      simp only [Option.map_some, Option.getD_some, Array.all_eq_true'] at h1
      have h2 := h1 e he
      cases hb : Region.binds md e with
      | false => simp
      | true =>
        rw [hb] at h2
        simp at h2
        have := all_up hs hfw h0 n e.on (by omega) (by omega)
        simp [this]
    rw [h0] at hm
    cases hm
theorem wpAny_inv {R : Array Bool → Act → World → Prop} (hfw : ((List.range ops.size).all fun i => ((ops[i]?).map fun o => o.after.all fun e => !Region.binds md e || decide (e.on < i)).getD true) = true)
    (hstep : ∀ listed a w i, listed.size = ops.size → Closed md ops listed → R listed a w → i < ops.size → listed.getD i true = false → (∀ o, ops[i]? = some o → ∀ e ∈ o.after, Region.binds md e = true → listed.getD e.on false = true) → wpOp P ops Q i (fun a' w' => R (listed.setIfInBounds i true) a' w') a w)
    (hend : ∀ listed a w, R listed a w → (∀ i, i < ops.size → listed.getD i false = true) → Q .normal a w) :
    ∀ (fuel : Nat) (listed : Array Bool) (a : Act) (w : World), listed.size = ops.size → Closed md ops listed → R listed a w → listed.toList.countP (fun x => !x) ≤ fuel → wpAny P md ops Q fuel listed a w
  | 0, listed, a, w, hs, hcl, hR, hc => by
    have h0 : Region.ready md ops listed = [] := by
      refine List.eq_nil_iff_forall_not_mem.2 fun i hi => ?_
      have := count_set (ready_spec hi).2.1
      omega
    exact ⟨h0, hend listed a w hR fun i hi => all_up hs hfw h0 (i + 1) i (Nat.lt_succ_self i) hi⟩
  | fuel + 1, listed, a, w, hs, hcl, hR, hc => by
    refine ⟨fun h0 => hend listed a w hR fun i hi => all_up hs hfw h0 (i + 1) i (Nat.lt_succ_self i) hi, fun i hi => ?_⟩
    obtain ⟨r1, r2, r3⟩ := ready_spec hi
    have h1 := count_set r2
    exact wpOp_mono (fun a' w' h => wpAny_inv hfw hstep hend fuel _ a' w' (by simpa using hs) (hcl.set hi) h (by omega)) (hstep listed a w i hs hcl hR r1 r2 r3)
/-- A drawn region, by what every step keeps. -/
theorem wp_region_inv {id : Nat} {a : Act} {w : World} (R : Array Bool → Act → World → Prop) (hm : P.follows .mixedOrders = true) (hfw : ((List.range ops.size).all fun i => ((ops[i]?).map fun o => o.after.all fun e => !Region.binds .any e || decide (e.on < i)).getD true) = true)
    (h0 : R (Array.replicate ops.size false) a { w with drawn := w.drawn + 1 })
    (hstep : ∀ listed a w i, listed.size = ops.size → Closed .any ops listed → R listed a w → i < ops.size → listed.getD i true = false → (∀ o, ops[i]? = some o → ∀ e ∈ o.after, Region.binds .any e = true → listed.getD e.on false = true) → wpOp P ops Q i (fun a' w' => R (listed.setIfInBounds i true) a' w') a w)
    (hend : ∀ listed a w, R listed a w → (∀ i, i < ops.size → listed.getD i false = true) → Q .normal a w) : (Code.region id ops true).wp P Q a w := by
  refine wp_region_any hm (wpAny_inv hfw hstep hend ops.size _ _ _ (by simp) (fun i o _ hi => ?_) h0 ?_)
  · rw [Array.getD_eq_getD_getElem?, Array.getElem?_replicate] at hi
    split at hi <;> simp at hi
  · simp [List.countP_replicate]
theorem wpOp_of {i : Nat} {K : Act → World → Prop} {a : Act} {w : World} {o : Oper} (ho : ops[i]? = some o) (hg : o.guard = none) (h : o.wp P a w K Q) : wpOp P ops Q i K a w := by
  unfold wpOp
  rw [ho]
  show if Region.wanted o (yielded ops a.tmps) = true then _ else _
  rw [if_pos (by simp [Region.wanted, hg])]
  exact .inl h
end
/-- A row of one's own, or the empty literal. -/
def Own0 (base : Nat) (e : TypeId) (size : Nat) (w : World) (v : Value) (n : Nat) (xs : List Value) : Prop := (∃ g, v = .slice (some ⟨g, 0, none⟩) 0 0 ∧ n = 0 ∧ xs = []) ∨ w.ownsRow base e size v n xs
theorem Own0.keep {base : Nat} {e e' : TypeId} {size : Nat} {w w' : World} {v : Value} {n : Nat} {xs : List Value} (h : Own0 base e size w v n xs) (k : Lib.OthersKept e' none w w') (hne : e ≠ e') : Own0 base e size w' v n xs := by
  rcases h with h | ⟨h1, h2⟩
  · exact .inl h
  · refine .inr ⟨h1, ?_⟩
    rcases h2 with h2 | ⟨g, cap, cur, hv, hb, hg, r⟩
    · exact .inl h2
    · exact .inr ⟨g, cap, cur, hv, hb, k g _ hg (by simp) (fun c fz ec => hne (by injection ec)), r⟩
theorem Own0.row {base : Nat} {e : TypeId} {size n : Nat} {w : World} {v : Value} {css : List (List Value)} (h : Own0 base e size w v n css.flatten) (hs : 0 < size) (hn : css.length = n) (he : ∀ c ∈ css, c.length = size) : ∃ A cap, v = .slice A n cap ∧ RowA w (fun b => base ≤ b) size n A cap css := by
  rcases h with ⟨g, rfl, rfl, hx⟩ | h
  · obtain rfl : css = [] := List.eq_nil_of_length_eq_zero hn
    exact ⟨some ⟨g, 0, none⟩, 0, rfl, rfl, by simp, Nat.le_refl _, by decide, (fun e => by cases e), fun j hj => by simp at hj⟩
  · exact RowA.of_own h hs hn he
theorem own_mono {w : World} {base base' e size n : Nat} {v : Value} {xs : List Value} (h : w.ownsRow base e size v n xs) (hb : base' ≤ base) : w.ownsRow base' e size v n xs := ⟨h.1, h.2.imp id fun ⟨g, cap, cur, h1, h2, h3⟩ => ⟨g, cap, cur, h1, Nat.le_trans hb h2, h3⟩⟩
theorem kept_of_grown {e : TypeId} {base size n : Nat} {w w' : World} {v : Value} {xs : List Value} (hown : w.ownsRow base e size v n xs) (hg : w.grownBy w' v.ownBlock) (hB : base ≤ w.heap.size) : Lib.OthersKept e none w w' ∧ Below base w w' := by
  refine ⟨(Lib.OthersKept.refl e none w).grown hg (fun g hg' => ?_), (Below.refl base w).grown hg hB (fun j hj => (hown.lt j hj).1)⟩
  rcases hown.2 with ⟨hv, _⟩ | ⟨g', cap', cur', hv, _, hh, _⟩
  · rw [hv] at hg'; cases hg'
  · rw [hv] at hg'; injection hg' with hg'; subst hg'; exact ⟨_, _, hh⟩
theorem run_app0 {P : Program} {w : World} {base : Nat} {t ty e : TypeId} {i : TypeInfo} {z : Value} {size bytes : Nat} (ht : P.underlying t = some (.slice e)) (hi : P.info? e = some i) (hz : i.zero = some z) (hsize : i.size = size) (hby : i.bytes = bytes) (hzs : z.cells.size = size) (hsz : 0 < size)
    {v : Value} {n : Nat} {xs : List Value} (hv : Own0 base e size w v n xs) (hxl : xs.length = n * size) {F : Nat → Prop} {A : Option Addr} {m cap : Nat} {css : List (List Value)} (hr : RowA w F size m A cap css) (hone : ∀ u ∈ css.flatten, u.oneCell' = true) (h63 : n + m ≤ 1000000) (hbytes : bytes ≤ 1000) (hbase : base ≤ w.heap.size) :
    ∃ v' w', (Builtin.append_ #[t, t] ty #[v, .slice A m cap]).run P w = .ok v' w' ∧ Own0 base e size w' v' (n + m) (xs ++ css.flatten) ∧ Lib.OthersKept e none w w' ∧ Below base w w' := by
  have hfl := flatten_len css hr.each
  rw [hr.len] at hfl
  have hb3 : (n + m) * bytes ≤ 140737488355328 := by
    have : (n + m) * bytes ≤ 1000000 * 1000 := Nat.mul_le_mul h63 hbytes
    omega
  have h64 : n + m ≤ maxLen := by unfold maxLen; omega
  by_cases hm : m = 0
  · subst hm
    have hc0 : css = [] := List.eq_nil_of_length_eq_zero hr.len
    subst hc0
    rw [List.flatten_nil, List.append_nil, Nat.add_zero]
    rcases A with _ | ad
    · obtain rfl : cap = 0 := hr.nil rfl
      rcases hv with ⟨g, rfl, rfl, rfl⟩ | hv
      · exact ⟨.slice (some ⟨g, 0, none⟩) 0 0, w, by simp [Builtin.append_, run_underlying (P := P) ht, sizeOf, typeInfo, hi, Builtin.lenOf, Builtin.firstCells, storeCells], .inl ⟨g, rfl, rfl, rfl⟩, Lib.OthersKept.refl _ _ _, Below.refl _ _⟩
      · exact ⟨v, w, run_append_owned_none (P := P) (w := w) base t ty e i size ht hi v n xs hv, .inr hv, Lib.OthersKept.refl _ _ _, Below.refl _ _⟩
    · rcases hv with ⟨g, rfl, rfl, rfl⟩ | hv
      · have hf := run_firstCells_some (P := P) w i.size 0 ad 0 cap [] (by simp) (fun j v h => by simp at h)
        exact ⟨.slice (some ⟨g, 0, none⟩) 0 0, w, by simp [Builtin.append_, run_underlying (P := P) ht, sizeOf, typeInfo, hi, Builtin.lenOf, hf, storeCells], .inl ⟨g, rfl, rfl, rfl⟩, Lib.OthersKept.refl _ _ _, Below.refl _ _⟩
      · obtain ⟨v', w', hrun, r1, r2, _⟩ := run_append_own (P := P) w base t ty e i z size bytes ht hi hz hsize hby hzs hsz v n xs hv ad 0 cap [] (by simp) (fun j u h => by simp at h) (by simp) (by omega) (by simpa using hb3) hbase
        obtain ⟨k1, k2⟩ := kept_of_grown hv r2 hbase
        exact ⟨v', w', hrun, .inr (by simpa using r1), k1, k2⟩
  · have hl0 : 0 < css.flatten.length := by rw [hfl]; exact Nat.mul_pos (by omega) hsz
    obtain ⟨b, o, rfl, _⟩ := hr.rd 0 hl0
    have hnews : ∀ j u, css.flatten[j]? = some u → w.cell? ((⟨b, o, none⟩ : Addr).add j) = some u := fun j u hj => by
      have hj' := (List.getElem?_eq_some_iff.1 hj).1
      obtain ⟨b', o', e', _, _, hc⟩ := hr.rd j hj'
      injection e' with e'
      injection e' with e1 e2
      subst e1 e2
      rw [List.getElem?_eq_getElem hj'] at hj
      injection hj with hj
      rw [← hj, ← hc]
      congr 1
      by_cases h0 : j = 0
      · subst h0; rfl
      · simp [Addr.add, h0]
    rcases hv with ⟨g, rfl, rfl, rfl⟩ | hv
    · obtain ⟨v', w', hrun, r1, r2⟩ := run_append_arg_grows (P := P) w t ty e i z size bytes ht hi hz hsize hby hzs hsz ⟨g, 0, none⟩ 0 0 [] (by simp) (fun j u h => by simp at h) ⟨b, o, none⟩ m cap css.flatten hfl hnews (by omega) h64 hb3
      exact ⟨v', w', hrun, .inr (own_mono r1 hbase), (Lib.OthersKept.refl e none w).grown r2 (fun g hg => by cases hg), (Below.refl base w).grown r2 hbase (fun j hj => by cases hj)⟩
    · obtain ⟨v', w', hrun, r1, r2, _⟩ := run_append_own (P := P) w base t ty e i z size bytes ht hi hz hsize hby hzs hsz v n xs hv ⟨b, o, none⟩ m cap css.flatten hfl hnews hone h64 hb3 hbase
      obtain ⟨k1, k2⟩ := kept_of_grown hv r2 hbase
      exact ⟨v', w', hrun, .inr r1, k1, k2⟩
theorem wp_app_run {P : Program} (w : World) {o : Oper} {a : Act} {K : Act → World → Prop} {Q : Exit → Act → World → Prop} (s x : Operand) (t tn : TypeId) (ho : o.op = .call { callee := .builtin .append, args := #[s, x], argTypes := #[t, tn] })
    (vs vx : Value) (hs : a.eval s = vs) (hx : a.eval x = vx) (v' : Value) (w' : World) (hr : (Builtin.append_ #[t, tn] o.type #[vs, vx]).run P w = .ok v' w') (h : K (a.put o.dst v') w') : o.wp P a w K Q := by
  unfold Oper.wp
  simp [execOp, ho, resolve, invoke, builtin, hs, hx, hr, Result.andThen]
  exact h
end Go.Proofs.YtpbcncfbfbghcaaGreatDoor.L20
namespace Go.Proofs.YtpbcncfbfbghcaaGreatDoor.L20
set_option maxRecDepth 100000
open Go.RowKit Mem L19
open M17 (Laid Laid.below)
set_option linter.unusedVariables false
set_option linter.unusedSimpArgs false

theorem info_cs : (Tryz.prog.info? 9).map (fun i => (i.zero, i.size, i.bytes)) = some (some (.string ⟨#[]⟩), 1, 16) := by kernel_rfl
theorem info_ca : (Tryz.prog.info? 72).map (fun i => (i.zero, i.size, i.bytes)) = some (some (.agg #[.string ⟨#[]⟩, .int .i64 0]), 2, 24) := by kernel_rfl
theorem info_cf : (Tryz.prog.info? 44).map (fun i => (i.zero, i.size, i.bytes)) = some (some (.agg #[.string ⟨#[]⟩, .slice none 0 0, .slice none 0 0, .slice none 0 0]), 4, 88) := by kernel_rfl
/-- What the region is given. -/
structure Cf where
  g5 : Nat
  g8 : Nat
  v11 : Value
  v12 : Value
  v13 : Value
  V1 : Option Addr
  V2 : Option Addr
  A1 : Option Addr
  A2 : Option Addr
  F1 : Option Addr
  F2 : Option Addr
  n1 : Nat
  n2 : Nat
  a1 : Nat
  a2 : Nat
  f1 : Nat
  f2 : Nat
  cv1 : Nat
  cv2 : Nat
  ca1 : Nat
  ca2 : Nat
  cf1 : Nat
  cf2 : Nat
  sS : List (List Value)
  tS : List (List Value)
  sA : List (List Value)
  tA : List (List Value)
  sF : List (List Value)
  tF : List (List Value)
def RSt (c : Cf) (B : Nat) (w : World) (v : Value) : Prop := Own0 B 9 1 w v (c.n1 + c.n2) (c.sS.flatten ++ c.tS.flatten)
def RAr (c : Cf) (B : Nat) (w : World) (v : Value) : Prop := Own0 B 72 2 w v (c.a1 + c.a2) (c.sA.flatten ++ c.tA.flatten)
def RFn (c : Cf) (B : Nat) (w : World) (v : Value) : Prop := Own0 B 44 4 w v (c.f1 + c.f2) (c.sF.flatten ++ c.tF.flatten)
def Lit0 (v : Value) : Prop := ∃ g : Nat, v = .slice (some ⟨g, 0, none⟩) 0 0
def Three (c : Cf) (B : Nat) (w : World) (v : Value) : Prop := ∃ (A D E : Option Addr) (p q r : Nat), v = .agg #[.slice A (c.n1 + c.n2) p, .slice D (c.a1 + c.a2) q, .slice E (c.f1 + c.f2) r] ∧ RSt c B w (.slice A (c.n1 + c.n2) p) ∧ RAr c B w (.slice D (c.a1 + c.a2) q) ∧ RFn c B w (.slice E (c.f1 + c.f2) r)
def Box0 (B : Nat) (w : World) (v : Value) : Prop := ∃ g : Nat, v = .pointer (some ⟨g, 0, none⟩) ∧ B ≤ g ∧ Blk 27 w g [.slice none 0 0, .slice none 0 0, .slice none 0 0]
/-- What each operation has left in its slot. -/
def VP (c : Cf) (B : Nat) (w : World) (i : Nat) (v : Value) : Prop :=
  match i with
  | 0 => Lit0 v
  | 7 => Lit0 v
  | 14 => Lit0 v
  | 1 => v = .pointer (some ⟨c.g5, 0, none⟩)
  | 8 => v = .pointer (some ⟨c.g5, 1, none⟩)
  | 15 => v = .pointer (some ⟨c.g5, 2, none⟩)
  | 4 => v = .pointer (some ⟨c.g8, 0, none⟩)
  | 11 => v = .pointer (some ⟨c.g8, 1, none⟩)
  | 18 => v = .pointer (some ⟨c.g8, 2, none⟩)
  | 2 => v = .slice c.V1 c.n1 c.cv1
  | 5 => v = .slice c.V2 c.n2 c.cv2
  | 9 => v = .slice c.A1 c.a1 c.ca1
  | 12 => v = .slice c.A2 c.a2 c.ca2
  | 16 => v = .slice c.F1 c.f1 c.cf1
  | 19 => v = .slice c.F2 c.f2 c.cf2
  | 3 => Own0 B 9 1 w v c.n1 c.sS.flatten
  | 10 => Own0 B 72 2 w v c.a1 c.sA.flatten
  | 17 => Own0 B 44 4 w v c.f1 c.sF.flatten
  | 6 => RSt c B w v
  | 13 => RAr c B w v
  | 20 => RFn c B w v
  | 21 => Three c B w v
  | 22 => Box0 B w v
  | _ => True
/-- The element type of the row that an operation writes. -/
def eOf (i : Nat) : TypeId := if i = 3 ∨ i = 6 then 9 else if i = 10 ∨ i = 13 then 72 else if i = 17 ∨ i = 20 then 44 else 3
theorem eOf_str {i : Nat} (h : eOf i = 9) : i = 3 ∨ i = 6 := by
  unfold eOf at h
  split at h
  · assumption
  · split at h
    · exact absurd h (by decide)
    · split at h <;> exact absurd h (by decide)
theorem eOf_arr {i : Nat} (h : eOf i = 72) : i = 10 ∨ i = 13 := by
  unfold eOf at h
  split at h
  · exact absurd h (by decide)
  · split at h
    · assumption
    · split at h <;> exact absurd h (by decide)
theorem eOf_fun {i : Nat} (h : eOf i = 44) : i = 17 ∨ i = 20 := by
  unfold eOf at h
  split at h
  · exact absurd h (by decide)
  · split at h
    · exact absurd h (by decide)
    · split at h
      · assumption
      · exact absurd h (by decide)
theorem eOf_prg (i : Nat) : eOf i ≠ 27 := by
  unfold eOf
  split
  · decide
  · split
    · decide
    · split <;> decide
theorem blk_others {T : TypeId} {w w' : World} {g : Nat} {l : List Value} (h : Blk T w g l) {e : TypeId} (k : Lib.OthersKept e none w w') (hne : T ≠ e) : Blk T w' g l := k g _ h (by simp) (fun c fz ec => hne (by injection ec))
theorem VP.keep {c : Cf} {B : Nat} {w w' : World} {j : Nat} {v : Value} (h : VP c B w j v) {e : TypeId} (k : Lib.OthersKept e none w w') (h1 : j = 3 ∨ j = 6 ∨ j = 21 → 9 ≠ e) (h2 : j = 10 ∨ j = 13 ∨ j = 21 → 72 ≠ e) (h3 : j = 17 ∨ j = 20 ∨ j = 21 → 44 ≠ e) (h4 : j = 22 → 27 ≠ e) : VP c B w' j v := by
  unfold VP at h ⊢
  split at h <;> try exact h
  · exact h.keep k (h1 (by simp))
  · exact h.keep k (h2 (by simp))
  · exact h.keep k (h3 (by simp))
  · exact Own0.keep h k (h1 (by simp))
  · exact Own0.keep h k (h2 (by simp))
  · exact Own0.keep h k (h3 (by simp))
  · obtain ⟨A, D, E, p, q, r, e1, e2, e3, e4⟩ := h
    exact ⟨A, D, E, p, q, r, e1, Own0.keep e2 k (h1 (by simp)), Own0.keep e3 k (h2 (by simp)), Own0.keep e4 k (h3 (by simp))⟩
  · obtain ⟨g, e1, e2, e3⟩ := h
    exact ⟨g, e1, e2, blk_others e3 k (h4 rfl)⟩
def slotOf (i : Nat) : Nat := if i = 22 then 14 else 52 + i
/-- What every step keeps. -/
structure JC (c : Cf) (w0 : World) (listed : Array Bool) (a : Act) (w : World) : Prop where
  tsz : a.tmps.size = 85
  dfr : a.defers = []
  s5 : a.tmps[5]?.getD undef = .pointer (some ⟨c.g5, 0, none⟩)
  s8 : a.tmps[8]?.getD undef = .pointer (some ⟨c.g8, 0, none⟩)
  s11 : a.tmps[11]?.getD undef = c.v11
  s12 : a.tmps[12]?.getD undef = c.v12
  s13 : a.tmps[13]?.getD undef = c.v13
  below : Below w0.heap.size w0 w
  vals : ∀ i, i < 23 → listed.getD i false = true → (i = 3 → listed.getD 6 false = false) → (i = 10 → listed.getD 13 false = false) → (i = 17 → listed.getD 20 false = false) → (i = 22 → listed.getD 23 false = false) → VP c w0.heap.size w i (a.tmps[slotOf i]?.getD undef)
  fin : listed.getD 23 false = true → ∃ (g : Nat) (A D E : Option Addr) (p q r : Nat), a.tmps[14]?.getD undef = .pointer (some ⟨g, 0, none⟩) ∧ w0.heap.size ≤ g ∧ Blk 27 w g [.slice A (c.n1 + c.n2) p, .slice D (c.a1 + c.a2) q, .slice E (c.f1 + c.f2) r] ∧ RSt c w0.heap.size w (.slice A (c.n1 + c.n2) p) ∧ RAr c w0.heap.size w (.slice D (c.a1 + c.a2) q) ∧ RFn c w0.heap.size w (.slice E (c.f1 + c.f2) r)
theorem slot_set (t : Array Value) (d s : Nat) (v : Value) (hd : d < t.size) : (t.setIfInBounds d v)[s]?.getD undef = if d = s then v else t[s]?.getD undef := by
  by_cases h : d = s
  · subst h; simp [hd]
  · rw [if_neg h, Array.getElem?_setIfInBounds_ne h]
/-- What is known of the operations that have come up, while the last has not. -/
structure Cm (listed : Array Bool) : Prop where
  ls : listed.size = 24
  h23 : listed.getD 23 false = false
  k6 : listed.getD 6 false = true → listed.getD 3 false = true
  k13 : listed.getD 13 false = true → listed.getD 10 false = true
  k20 : listed.getD 20 false = true → listed.getD 17 false = true
  k21 : listed.getD 21 false = true → listed.getD 6 false = true ∧ listed.getD 13 false = true ∧ listed.getD 20 false = true
set_option maxHeartbeats 4000000 in
theorem JC.step {c : Cf} {w0 : World} {listed : Array Bool} {a : Act} {w : World} (h : JC c w0 listed a w) (m : Cm listed) {i : Nat} (hi : i < 23) (hf : listed.getD i true = false)
    {d : Nat} {v : Value} {w' : World} (hd : d = slotOf i) (hb : Below w0.heap.size w0 w') (hk : Lib.OthersKept (eOf i) none w w') (hv : VP c w0.heap.size w' i v) : JC c w0 (listed.setIfInBounds i true) { tmps := a.tmps.setIfInBounds d v, defers := a.defers } w' := by
  obtain ⟨hls, h23, k6, k13, k20, k21⟩ := m
  have hs : i < listed.size := by omega
  have hff := false_of hf
  have hd85 : d < a.tmps.size := by rw [h.tsz, hd]; unfold slotOf; split <;> omega
  have hdn : ∀ s, s = 5 ∨ s = 8 ∨ s = 11 ∨ s = 12 ∨ s = 13 → d ≠ s := fun s hs => by rw [hd]; unfold slotOf; split <;> omega
  have hsl : ∀ s, d ≠ s → (a.tmps.setIfInBounds d v)[s]?.getD undef = a.tmps[s]?.getD undef := fun s hs => by rw [slot_set _ _ _ _ hd85, if_neg hs]
  refine ⟨by simpa using h.tsz, h.dfr, (hsl 5 (hdn 5 (by simp))).trans h.s5, (hsl 8 (hdn 8 (by simp))).trans h.s8, (hsl 11 (hdn 11 (by simp))).trans h.s11, (hsl 12 (hdn 12 (by simp))).trans h.s12, (hsl 13 (hdn 13 (by simp))).trans h.s13, hb, ?_, ?_⟩
  · intro j hj hl c3 c10 c17 c22
    rw [getD_set _ _ _ hs] at hl c3 c10 c17 c22
    show VP c w0.heap.size w' j ((a.tmps.setIfInBounds d v)[slotOf j]?.getD undef)
    by_cases hij : i = j
    · subst hij
      rw [slot_set _ _ _ _ hd85, if_pos hd]
      exact hv
    · rw [if_neg hij] at hl
      have hne : d ≠ slotOf j := by rw [hd]; unfold slotOf; split <;> split <;> omega
      rw [hsl _ hne]
      have g3 : j = 3 → i ≠ 6 ∧ listed.getD 6 false = false := fun e => by
        have := c3 e
        split at this
        · cases this
        · exact ⟨by assumption, this⟩
      have g10 : j = 10 → i ≠ 13 ∧ listed.getD 13 false = false := fun e => by
        have := c10 e
        split at this
        · cases this
        · exact ⟨by assumption, this⟩
      have g17 : j = 17 → i ≠ 20 ∧ listed.getD 20 false = false := fun e => by
        have := c17 e
        split at this
        · cases this
        · exact ⟨by assumption, this⟩
      have no : ∀ m, listed.getD m false = true → i ≠ m := fun m hm e => by rw [← e, hff] at hm; cases hm
      refine (h.vals j hj hl (fun e => (g3 e).2) (fun e => (g10 e).2) (fun e => (g17 e).2) (fun e => h23)).keep hk (fun e he => ?_) (fun e he => ?_) (fun e he => ?_) (fun _ e => eOf_prg i e.symm)
      · have h36 := eOf_str he.symm
        rcases e with rfl | rfl | rfl
        · have := (g3 rfl).1; omega
        · have := no _ (k6 hl); omega
        · have h1 := (k21 hl).1
          have := no _ h1
          have := no _ (k6 h1)
          omega
      · have h36 := eOf_arr he.symm
        rcases e with rfl | rfl | rfl
        · have := (g10 rfl).1; omega
        · have := no _ (k13 hl); omega
        · have h1 := (k21 hl).2.1
          have := no _ h1
          have := no _ (k13 h1)
          omega
      · have h36 := eOf_fun he.symm
        rcases e with rfl | rfl | rfl
        · have := (g17 rfl).1; omega
        · have := no _ (k20 hl); omega
        · have h1 := (k21 hl).2.2
          have := no _ h1
          have := no _ (k20 h1)
          omega
  · intro hl
    rw [getD_set _ _ _ hs, if_neg (by omega), h23] at hl
    cases hl
theorem JC.val {c : Cf} {w0 : World} {listed : Array Bool} {a : Act} {w : World} (h : JC c w0 listed a w) {i : Nat} (hi : i < 23) (hl : listed.getD i false = true) (h4 : i ≠ 3 ∧ i ≠ 10 ∧ i ≠ 17 ∧ i ≠ 22) : VP c w0.heap.size w i (a.tmps[slotOf i]?.getD undef) :=
  h.vals i hi hl (fun e => absurd e h4.1) (fun e => absurd e h4.2.1) (fun e => absurd e h4.2.2.1) (fun e => absurd e h4.2.2.2)
theorem own0_slice {base : Nat} {e : TypeId} {size n : Nat} {w : World} {v : Value} {xs : List Value} (h : Own0 base e size w v n xs) : ∃ A cap, v = .slice A n cap := by
  rcases h with ⟨g, rfl, rfl, rfl⟩ | ⟨_, h⟩
  · exact ⟨_, _, rfl⟩
  · rcases h with ⟨rfl, rfl⟩ | ⟨g, cap, cur, rfl, _⟩
    · exact ⟨_, _, rfl⟩
    · exact ⟨_, _, rfl⟩
/-- What the rows and the boxes say, in every later world. -/
structure Gv (c : Cf) (w0 : World) : Prop where
  p0 : ∀ W, Below w0.heap.size w0 W → W.cell? ⟨c.g5, 0, none⟩ = some (.slice c.V1 c.n1 c.cv1)
  p1 : ∀ W, Below w0.heap.size w0 W → W.cell? ⟨c.g5, 1, none⟩ = some (.slice c.A1 c.a1 c.ca1)
  p2 : ∀ W, Below w0.heap.size w0 W → W.cell? ⟨c.g5, 2, none⟩ = some (.slice c.F1 c.f1 c.cf1)
  q0 : ∀ W, Below w0.heap.size w0 W → W.cell? ⟨c.g8, 0, none⟩ = some (.slice c.V2 c.n2 c.cv2)
  q1 : ∀ W, Below w0.heap.size w0 W → W.cell? ⟨c.g8, 1, none⟩ = some (.slice c.A2 c.a2 c.ca2)
  q2 : ∀ W, Below w0.heap.size w0 W → W.cell? ⟨c.g8, 2, none⟩ = some (.slice c.F2 c.f2 c.cf2)
  r0 : RowA w0 (fun _ => True) 1 c.n1 c.V1 c.cv1 c.sS
  r1 : RowA w0 (fun _ => True) 2 c.a1 c.A1 c.ca1 c.sA
  r2 : RowA w0 (fun _ => True) 4 c.f1 c.F1 c.cf1 c.sF
  t0 : RowA w0 (fun _ => True) 1 c.n2 c.V2 c.cv2 c.tS
  t1 : RowA w0 (fun _ => True) 2 c.a2 c.A2 c.ca2 c.tA
  t2 : RowA w0 (fun _ => True) 4 c.f2 c.F2 c.cf2 c.tF
  o0 : ∀ u ∈ c.sS.flatten, u.oneCell' = true
  o1 : ∀ u ∈ c.sA.flatten, u.oneCell' = true
  o2 : ∀ u ∈ c.sF.flatten, u.oneCell' = true
  u0 : ∀ u ∈ c.tS.flatten, u.oneCell' = true
  u1 : ∀ u ∈ c.tA.flatten, u.oneCell' = true
  u2 : ∀ u ∈ c.tF.flatten, u.oneCell' = true
  b0 : c.n1 + c.n2 ≤ 1000000
  b1 : c.a1 + c.a2 ≤ 1000000
  b2 : c.f1 + c.f2 ≤ 1000000
section
variable {c : Cf} {w0 : World} {listed : Array Bool} {a : Act} {w : World} {Q : Exit → Act → World → Prop} {ty : TypeId} {ps : String} {af : Array Edge}
set_option maxHeartbeats 2000000 in
theorem cop_0 (G : Gv c w0) (h : JC c w0 listed a w) (m : Cm listed) (hf : listed.getD 0 true = false) : Oper.wp Tryz.prog { dst := some 52, op := Op.buildSlice 23 0 #[], type := ty, pos := ps, after := af, guard := none } a w (fun a' w' => JC c w0 (listed.setIfInBounds 0 true) a' w') Q := by
  simp [Oper.wp, execOp, go_sem]
  exact h.step m (by decide) hf rfl (h.below.alloc h.below.size _) ((Lib.OthersKept.refl _ _ _).alloc _) ⟨_, rfl⟩
set_option maxHeartbeats 2000000 in
theorem cop_7 (G : Gv c w0) (h : JC c w0 listed a w) (m : Cm listed) (hf : listed.getD 7 true = false) : Oper.wp Tryz.prog { dst := some 59, op := Op.buildSlice 24 0 #[], type := ty, pos := ps, after := af, guard := none } a w (fun a' w' => JC c w0 (listed.setIfInBounds 7 true) a' w') Q := by
  simp [Oper.wp, execOp, go_sem]
  exact h.step m (by decide) hf rfl (h.below.alloc h.below.size _) ((Lib.OthersKept.refl _ _ _).alloc _) ⟨_, rfl⟩
set_option maxHeartbeats 2000000 in
theorem cop_14 (G : Gv c w0) (h : JC c w0 listed a w) (m : Cm listed) (hf : listed.getD 14 true = false) : Oper.wp Tryz.prog { dst := some 66, op := Op.buildSlice 25 0 #[], type := ty, pos := ps, after := af, guard := none } a w (fun a' w' => JC c w0 (listed.setIfInBounds 14 true) a' w') Q := by
  simp [Oper.wp, execOp, go_sem]
  exact h.step m (by decide) hf rfl (h.below.alloc h.below.size _) ((Lib.OthersKept.refl _ _ _).alloc _) ⟨_, rfl⟩
set_option maxHeartbeats 2000000 in
theorem cop_1 (G : Gv c w0) (h : JC c w0 listed a w) (m : Cm listed) (hf : listed.getD 1 true = false) : Oper.wp Tryz.prog { dst := some 53, op := Op.fieldAddr 27 (Operand.tmp 5) 0, type := ty, pos := ps, after := af, guard := none } a w (fun a' w' => JC c w0 (listed.setIfInBounds 1 true) a' w') Q := by
  have e := h.s5
  simp [Oper.wp, execOp, go_sem, e, Act.eval]
  exact h.step m (by decide) hf rfl h.below (Lib.OthersKept.refl _ _ _) rfl
set_option maxHeartbeats 2000000 in
theorem cop_2 (G : Gv c w0) (h : JC c w0 listed a w) (m : Cm listed) (hf : listed.getD 2 true = false) (d1 : listed.getD 1 false = true) : Oper.wp Tryz.prog { dst := some 54, op := Op.load 23 (Operand.tmp 53), type := ty, pos := ps, after := af, guard := none } a w (fun a' w' => JC c w0 (listed.setIfInBounds 2 true) a' w') Q := by
  have e := h.val (i := 1) (by decide) d1 (by decide)
  change a.tmps[53]?.getD undef = _ at e
  have hc := G.p0 w h.below
  simp [Oper.wp, execOp, go_sem, e, Act.eval, hc]
  exact h.step m (by decide) hf rfl h.below (Lib.OthersKept.refl _ _ _) rfl
set_option maxHeartbeats 2000000 in
theorem cop_8 (G : Gv c w0) (h : JC c w0 listed a w) (m : Cm listed) (hf : listed.getD 8 true = false) : Oper.wp Tryz.prog { dst := some 60, op := Op.fieldAddr 27 (Operand.tmp 5) 1, type := ty, pos := ps, after := af, guard := none } a w (fun a' w' => JC c w0 (listed.setIfInBounds 8 true) a' w') Q := by
  have e := h.s5
  simp [Oper.wp, execOp, go_sem, e, Act.eval]
  exact h.step m (by decide) hf rfl h.below (Lib.OthersKept.refl _ _ _) rfl
set_option maxHeartbeats 2000000 in
theorem cop_9 (G : Gv c w0) (h : JC c w0 listed a w) (m : Cm listed) (hf : listed.getD 9 true = false) (d8 : listed.getD 8 false = true) : Oper.wp Tryz.prog { dst := some 61, op := Op.load 24 (Operand.tmp 60), type := ty, pos := ps, after := af, guard := none } a w (fun a' w' => JC c w0 (listed.setIfInBounds 9 true) a' w') Q := by
  have e := h.val (i := 8) (by decide) d8 (by decide)
  change a.tmps[60]?.getD undef = _ at e
  have hc := G.p1 w h.below
  simp [Oper.wp, execOp, go_sem, e, Act.eval, hc]
  exact h.step m (by decide) hf rfl h.below (Lib.OthersKept.refl _ _ _) rfl
set_option maxHeartbeats 2000000 in
theorem cop_15 (G : Gv c w0) (h : JC c w0 listed a w) (m : Cm listed) (hf : listed.getD 15 true = false) : Oper.wp Tryz.prog { dst := some 67, op := Op.fieldAddr 27 (Operand.tmp 5) 2, type := ty, pos := ps, after := af, guard := none } a w (fun a' w' => JC c w0 (listed.setIfInBounds 15 true) a' w') Q := by
  have e := h.s5
  simp [Oper.wp, execOp, go_sem, e, Act.eval]
  exact h.step m (by decide) hf rfl h.below (Lib.OthersKept.refl _ _ _) rfl
set_option maxHeartbeats 2000000 in
theorem cop_16 (G : Gv c w0) (h : JC c w0 listed a w) (m : Cm listed) (hf : listed.getD 16 true = false) (d15 : listed.getD 15 false = true) : Oper.wp Tryz.prog { dst := some 68, op := Op.load 25 (Operand.tmp 67), type := ty, pos := ps, after := af, guard := none } a w (fun a' w' => JC c w0 (listed.setIfInBounds 16 true) a' w') Q := by
  have e := h.val (i := 15) (by decide) d15 (by decide)
  change a.tmps[67]?.getD undef = _ at e
  have hc := G.p2 w h.below
  simp [Oper.wp, execOp, go_sem, e, Act.eval, hc]
  exact h.step m (by decide) hf rfl h.below (Lib.OthersKept.refl _ _ _) rfl
set_option maxHeartbeats 2000000 in
theorem cop_4 (G : Gv c w0) (h : JC c w0 listed a w) (m : Cm listed) (hf : listed.getD 4 true = false) : Oper.wp Tryz.prog { dst := some 56, op := Op.fieldAddr 27 (Operand.tmp 8) 0, type := ty, pos := ps, after := af, guard := none } a w (fun a' w' => JC c w0 (listed.setIfInBounds 4 true) a' w') Q := by
  have e := h.s8
  simp [Oper.wp, execOp, go_sem, e, Act.eval]
  exact h.step m (by decide) hf rfl h.below (Lib.OthersKept.refl _ _ _) rfl
set_option maxHeartbeats 2000000 in
theorem cop_5 (G : Gv c w0) (h : JC c w0 listed a w) (m : Cm listed) (hf : listed.getD 5 true = false) (d4 : listed.getD 4 false = true) : Oper.wp Tryz.prog { dst := some 57, op := Op.load 23 (Operand.tmp 56), type := ty, pos := ps, after := af, guard := none } a w (fun a' w' => JC c w0 (listed.setIfInBounds 5 true) a' w') Q := by
  have e := h.val (i := 4) (by decide) d4 (by decide)
  change a.tmps[56]?.getD undef = _ at e
  have hc := G.q0 w h.below
  simp [Oper.wp, execOp, go_sem, e, Act.eval, hc]
  exact h.step m (by decide) hf rfl h.below (Lib.OthersKept.refl _ _ _) rfl
set_option maxHeartbeats 2000000 in
theorem cop_11 (G : Gv c w0) (h : JC c w0 listed a w) (m : Cm listed) (hf : listed.getD 11 true = false) : Oper.wp Tryz.prog { dst := some 63, op := Op.fieldAddr 27 (Operand.tmp 8) 1, type := ty, pos := ps, after := af, guard := none } a w (fun a' w' => JC c w0 (listed.setIfInBounds 11 true) a' w') Q := by
  have e := h.s8
  simp [Oper.wp, execOp, go_sem, e, Act.eval]
  exact h.step m (by decide) hf rfl h.below (Lib.OthersKept.refl _ _ _) rfl
set_option maxHeartbeats 2000000 in
theorem cop_12 (G : Gv c w0) (h : JC c w0 listed a w) (m : Cm listed) (hf : listed.getD 12 true = false) (d11 : listed.getD 11 false = true) : Oper.wp Tryz.prog { dst := some 64, op := Op.load 24 (Operand.tmp 63), type := ty, pos := ps, after := af, guard := none } a w (fun a' w' => JC c w0 (listed.setIfInBounds 12 true) a' w') Q := by
  have e := h.val (i := 11) (by decide) d11 (by decide)
  change a.tmps[63]?.getD undef = _ at e
  have hc := G.q1 w h.below
  simp [Oper.wp, execOp, go_sem, e, Act.eval, hc]
  exact h.step m (by decide) hf rfl h.below (Lib.OthersKept.refl _ _ _) rfl
set_option maxHeartbeats 2000000 in
theorem cop_18 (G : Gv c w0) (h : JC c w0 listed a w) (m : Cm listed) (hf : listed.getD 18 true = false) : Oper.wp Tryz.prog { dst := some 70, op := Op.fieldAddr 27 (Operand.tmp 8) 2, type := ty, pos := ps, after := af, guard := none } a w (fun a' w' => JC c w0 (listed.setIfInBounds 18 true) a' w') Q := by
  have e := h.s8
  simp [Oper.wp, execOp, go_sem, e, Act.eval]
  exact h.step m (by decide) hf rfl h.below (Lib.OthersKept.refl _ _ _) rfl
set_option maxHeartbeats 2000000 in
theorem cop_19 (G : Gv c w0) (h : JC c w0 listed a w) (m : Cm listed) (hf : listed.getD 19 true = false) (d18 : listed.getD 18 false = true) : Oper.wp Tryz.prog { dst := some 71, op := Op.load 25 (Operand.tmp 70), type := ty, pos := ps, after := af, guard := none } a w (fun a' w' => JC c w0 (listed.setIfInBounds 19 true) a' w') Q := by
  have e := h.val (i := 18) (by decide) d18 (by decide)
  change a.tmps[70]?.getD undef = _ at e
  have hc := G.q2 w h.below
  simp [Oper.wp, execOp, go_sem, e, Act.eval, hc]
  exact h.step m (by decide) hf rfl h.below (Lib.OthersKept.refl _ _ _) rfl
set_option maxHeartbeats 4000000 in
theorem cop_3 (G : Gv c w0) (h : JC c w0 listed a w) (m : Cm listed) (hf : listed.getD 3 true = false) (d0 : listed.getD 0 false = true) (d2 : listed.getD 2 false = true) : Oper.wp Tryz.prog { dst := some 55, op := Op.call { callee := Callee.builtin Builtin.append, args := #[Operand.tmp 52, Operand.tmp 54], argTypes := #[23, 23] }, type := ty, pos := ps, after := af, guard := none } a w (fun a' w' => JC c w0 (listed.setIfInBounds 3 true) a' w') Q := by
  obtain ⟨i0, hi0, hz0, hz1, hz2⟩ := info_parts info_cs
  obtain ⟨g, ex⟩ : Lit0 _ := h.val (i := 0) (by decide) d0 (by decide)
  change a.tmps[52]?.getD undef = _ at ex
  have hv : Own0 w0.heap.size 9 1 w (.slice (some ⟨g, 0, none⟩) 0 0) 0 [] := .inl ⟨g, rfl, rfl, rfl⟩
  have ey := h.val (i := 2) (by decide) d2 (by decide)
  change a.tmps[54]?.getD undef = _ at ey
  obtain ⟨v', w', hrun, k1, k2, k3⟩ := run_app0 (ty := ty) Tryz.underlying23 hi0 hz0 hz1 hz2 (by rfl) (by decide) hv (by simp) (G.r0.keep (Kept.of_below h.below)) G.o0 (by have := G.b0; omega) (by decide) h.below.size
  rw [Nat.zero_add, List.nil_append] at k1
  refine wp_app_run w (.tmp 52) (.tmp 54) 23 23 rfl _ _ (by simp [Act.eval]; exact ex) (by simp [Act.eval]; exact ey) v' w' hrun ?_
  exact h.step m (by decide) hf rfl (h.below.trans k3) k2 k1
set_option maxHeartbeats 4000000 in
theorem cop_6 (G : Gv c w0) (h : JC c w0 listed a w) (m : Cm listed) (hf : listed.getD 6 true = false) (d3 : listed.getD 3 false = true) (d5 : listed.getD 5 false = true) : Oper.wp Tryz.prog { dst := some 58, op := Op.call { callee := Callee.builtin Builtin.append, args := #[Operand.tmp 55, Operand.tmp 57], argTypes := #[23, 23] }, type := ty, pos := ps, after := af, guard := none } a w (fun a' w' => JC c w0 (listed.setIfInBounds 6 true) a' w') Q := by
  obtain ⟨i0, hi0, hz0, hz1, hz2⟩ := info_parts info_cs
  have hv := h.vals 3 (by decide) d3 (fun _ => false_of hf) (fun e => absurd e (by decide)) (fun e => absurd e (by decide)) (fun e => absurd e (by decide))
  change Own0 w0.heap.size 9 1 w (a.tmps[55]?.getD undef) _ _ at hv
  obtain ⟨v, ex⟩ : ∃ v, a.tmps[55]?.getD undef = v := ⟨_, rfl⟩
  rw [ex] at hv
  have ey := h.val (i := 5) (by decide) d5 (by decide)
  change a.tmps[57]?.getD undef = _ at ey
  obtain ⟨v', w', hrun, k1, k2, k3⟩ := run_app0 (ty := ty) Tryz.underlying23 hi0 hz0 hz1 hz2 (by rfl) (by decide) hv (by rw [flatten_len _ G.r0.each, G.r0.len]) (G.t0.keep (Kept.of_below h.below)) G.u0 (by have := G.b0; omega) (by decide) h.below.size
  refine wp_app_run w (.tmp 55) (.tmp 57) 23 23 rfl _ _ (by simp [Act.eval]; exact ex) (by simp [Act.eval]; exact ey) v' w' hrun ?_
  exact h.step m (by decide) hf rfl (h.below.trans k3) k2 k1
set_option maxHeartbeats 4000000 in
theorem cop_10 (G : Gv c w0) (h : JC c w0 listed a w) (m : Cm listed) (hf : listed.getD 10 true = false) (d7 : listed.getD 7 false = true) (d9 : listed.getD 9 false = true) : Oper.wp Tryz.prog { dst := some 62, op := Op.call { callee := Callee.builtin Builtin.append, args := #[Operand.tmp 59, Operand.tmp 61], argTypes := #[24, 24] }, type := ty, pos := ps, after := af, guard := none } a w (fun a' w' => JC c w0 (listed.setIfInBounds 10 true) a' w') Q := by
  obtain ⟨i0, hi0, hz0, hz1, hz2⟩ := info_parts info_ca
  obtain ⟨g, ex⟩ : Lit0 _ := h.val (i := 7) (by decide) d7 (by decide)
  change a.tmps[59]?.getD undef = _ at ex
  have hv : Own0 w0.heap.size 72 2 w (.slice (some ⟨g, 0, none⟩) 0 0) 0 [] := .inl ⟨g, rfl, rfl, rfl⟩
  have ey := h.val (i := 9) (by decide) d9 (by decide)
  change a.tmps[61]?.getD undef = _ at ey
  obtain ⟨v', w', hrun, k1, k2, k3⟩ := run_app0 (ty := ty) Tryz.underlying24 hi0 hz0 hz1 hz2 (by rfl) (by decide) hv (by simp) (G.r1.keep (Kept.of_below h.below)) G.o1 (by have := G.b1; omega) (by decide) h.below.size
  rw [Nat.zero_add, List.nil_append] at k1
  refine wp_app_run w (.tmp 59) (.tmp 61) 24 24 rfl _ _ (by simp [Act.eval]; exact ex) (by simp [Act.eval]; exact ey) v' w' hrun ?_
  exact h.step m (by decide) hf rfl (h.below.trans k3) k2 k1
set_option maxHeartbeats 4000000 in
theorem cop_13 (G : Gv c w0) (h : JC c w0 listed a w) (m : Cm listed) (hf : listed.getD 13 true = false) (d10 : listed.getD 10 false = true) (d12 : listed.getD 12 false = true) : Oper.wp Tryz.prog { dst := some 65, op := Op.call { callee := Callee.builtin Builtin.append, args := #[Operand.tmp 62, Operand.tmp 64], argTypes := #[24, 24] }, type := ty, pos := ps, after := af, guard := none } a w (fun a' w' => JC c w0 (listed.setIfInBounds 13 true) a' w') Q := by
  obtain ⟨i0, hi0, hz0, hz1, hz2⟩ := info_parts info_ca
  have hv := h.vals 10 (by decide) d10 (fun e => absurd e (by decide)) (fun _ => false_of hf) (fun e => absurd e (by decide)) (fun e => absurd e (by decide))
  change Own0 w0.heap.size 72 2 w (a.tmps[62]?.getD undef) _ _ at hv
  obtain ⟨v, ex⟩ : ∃ v, a.tmps[62]?.getD undef = v := ⟨_, rfl⟩
  rw [ex] at hv
  have ey := h.val (i := 12) (by decide) d12 (by decide)
  change a.tmps[64]?.getD undef = _ at ey
  obtain ⟨v', w', hrun, k1, k2, k3⟩ := run_app0 (ty := ty) Tryz.underlying24 hi0 hz0 hz1 hz2 (by rfl) (by decide) hv (by rw [flatten_len _ G.r1.each, G.r1.len]) (G.t1.keep (Kept.of_below h.below)) G.u1 (by have := G.b1; omega) (by decide) h.below.size
  refine wp_app_run w (.tmp 62) (.tmp 64) 24 24 rfl _ _ (by simp [Act.eval]; exact ex) (by simp [Act.eval]; exact ey) v' w' hrun ?_
  exact h.step m (by decide) hf rfl (h.below.trans k3) k2 k1
set_option maxHeartbeats 4000000 in
theorem cop_17 (G : Gv c w0) (h : JC c w0 listed a w) (m : Cm listed) (hf : listed.getD 17 true = false) (d14 : listed.getD 14 false = true) (d16 : listed.getD 16 false = true) : Oper.wp Tryz.prog { dst := some 69, op := Op.call { callee := Callee.builtin Builtin.append, args := #[Operand.tmp 66, Operand.tmp 68], argTypes := #[25, 25] }, type := ty, pos := ps, after := af, guard := none } a w (fun a' w' => JC c w0 (listed.setIfInBounds 17 true) a' w') Q := by
  obtain ⟨i0, hi0, hz0, hz1, hz2⟩ := info_parts info_cf
  obtain ⟨g, ex⟩ : Lit0 _ := h.val (i := 14) (by decide) d14 (by decide)
  change a.tmps[66]?.getD undef = _ at ex
  have hv : Own0 w0.heap.size 44 4 w (.slice (some ⟨g, 0, none⟩) 0 0) 0 [] := .inl ⟨g, rfl, rfl, rfl⟩
  have ey := h.val (i := 16) (by decide) d16 (by decide)
  change a.tmps[68]?.getD undef = _ at ey
  obtain ⟨v', w', hrun, k1, k2, k3⟩ := run_app0 (ty := ty) Tryz.underlying25 hi0 hz0 hz1 hz2 (by rfl) (by decide) hv (by simp) (G.r2.keep (Kept.of_below h.below)) G.o2 (by have := G.b2; omega) (by decide) h.below.size
  rw [Nat.zero_add, List.nil_append] at k1
  refine wp_app_run w (.tmp 66) (.tmp 68) 25 25 rfl _ _ (by simp [Act.eval]; exact ex) (by simp [Act.eval]; exact ey) v' w' hrun ?_
  exact h.step m (by decide) hf rfl (h.below.trans k3) k2 k1
set_option maxHeartbeats 4000000 in
theorem cop_20 (G : Gv c w0) (h : JC c w0 listed a w) (m : Cm listed) (hf : listed.getD 20 true = false) (d17 : listed.getD 17 false = true) (d19 : listed.getD 19 false = true) : Oper.wp Tryz.prog { dst := some 72, op := Op.call { callee := Callee.builtin Builtin.append, args := #[Operand.tmp 69, Operand.tmp 71], argTypes := #[25, 25] }, type := ty, pos := ps, after := af, guard := none } a w (fun a' w' => JC c w0 (listed.setIfInBounds 20 true) a' w') Q := by
  obtain ⟨i0, hi0, hz0, hz1, hz2⟩ := info_parts info_cf
  have hv := h.vals 17 (by decide) d17 (fun e => absurd e (by decide)) (fun e => absurd e (by decide)) (fun _ => false_of hf) (fun e => absurd e (by decide))
  change Own0 w0.heap.size 44 4 w (a.tmps[69]?.getD undef) _ _ at hv
  obtain ⟨v, ex⟩ : ∃ v, a.tmps[69]?.getD undef = v := ⟨_, rfl⟩
  rw [ex] at hv
  have ey := h.val (i := 19) (by decide) d19 (by decide)
  change a.tmps[71]?.getD undef = _ at ey
  obtain ⟨v', w', hrun, k1, k2, k3⟩ := run_app0 (ty := ty) Tryz.underlying25 hi0 hz0 hz1 hz2 (by rfl) (by decide) hv (by rw [flatten_len _ G.r2.each, G.r2.len]) (G.t2.keep (Kept.of_below h.below)) G.u2 (by have := G.b2; omega) (by decide) h.below.size
  refine wp_app_run w (.tmp 69) (.tmp 71) 25 25 rfl _ _ (by simp [Act.eval]; exact ex) (by simp [Act.eval]; exact ey) v' w' hrun ?_
  exact h.step m (by decide) hf rfl (h.below.trans k3) k2 k1
set_option maxHeartbeats 4000000 in
theorem cop_21 (G : Gv c w0) (h : JC c w0 listed a w) (m : Cm listed) (hf : listed.getD 21 true = false) (d6 : listed.getD 6 false = true) (d13 : listed.getD 13 false = true) (d20 : listed.getD 20 false = true) : Oper.wp Tryz.prog { dst := some 73, op := Op.build 27 #[(0, Operand.tmp 58), (1, Operand.tmp 65), (2, Operand.tmp 72)], type := ty, pos := ps, after := af, guard := none } a w (fun a' w' => JC c w0 (listed.setIfInBounds 21 true) a' w') Q := by
  have x6 := h.val (i := 6) (by decide) d6 (by decide)
  have x13 := h.val (i := 13) (by decide) d13 (by decide)
  have x20 := h.val (i := 20) (by decide) d20 (by decide)
  change RSt c w0.heap.size w (a.tmps[58]?.getD undef) at x6
  change RAr c w0.heap.size w (a.tmps[65]?.getD undef) at x13
  change RFn c w0.heap.size w (a.tmps[72]?.getD undef) at x20
  obtain ⟨A, p, e1⟩ := own0_slice x6
  obtain ⟨D, q, e2⟩ := own0_slice x13
  obtain ⟨E, r, e3⟩ := own0_slice x20
  rw [e1] at x6
  rw [e2] at x13
  rw [e3] at x20
  have hv : Three c w0.heap.size w (.agg #[.slice A (c.n1 + c.n2) p, .slice D (c.a1 + c.a2) q, .slice E (c.f1 + c.f2) r]) := ⟨A, D, E, p, q, r, rfl, x6, x13, x20⟩
  simp [Oper.wp, execOp, go_sem, e1, e2, e3, Act.eval]
  exact h.step m (by decide) hf rfl h.below (Lib.OthersKept.refl _ _ _) hv
set_option maxHeartbeats 2000000 in
theorem cop_22 (G : Gv c w0) (h : JC c w0 listed a w) (m : Cm listed) (hf : listed.getD 22 true = false) : Oper.wp Tryz.prog { dst := some 14, op := Op.alloc 27, type := ty, pos := ps, after := af, guard := none } a w (fun a' w' => JC c w0 (listed.setIfInBounds 22 true) a' w') Q := by
  simp [Oper.wp, execOp, go_sem]
  exact h.step m (by decide) hf rfl (h.below.alloc h.below.size _) ((Lib.OthersKept.refl _ _ _).alloc _) ⟨_, rfl, h.below.size, Blk.new _ _ _⟩
theorem others_set {w : World} {g i : Nat} {T : TypeId} {l : List Value} (h : Blk T w g l) (v : Value) : Lib.OthersKept T none w (w.setCell ⟨g, i, none⟩ v) := by
  intro k o hk _ hx
  have hne : k ≠ g := fun e => by
    subst e
    have h' : w.heap[k]? = some (.cells l.toArray T (0, 0)) := h
    rw [hk] at h'
    exact hx _ _ (Option.some.inj h')
  exact (Below.heap_setCell _ _ _ _ (by show k ≠ g; exact hne)).trans hk
set_option maxHeartbeats 4000000 in
theorem cop_23 (G : Gv c w0) (h : JC c w0 listed a w) (hls : listed.size = 24) (hf : listed.getD 23 true = false) (d21 : listed.getD 21 false = true) (d22 : listed.getD 22 false = true) (d6 : listed.getD 6 false = true) (d13 : listed.getD 13 false = true) (d20 : listed.getD 20 false = true) :
    Oper.wp Tryz.prog { dst := none, op := Op.store 27 (Operand.tmp 14) (Operand.tmp 73), type := ty, pos := ps, after := af, guard := none } a w (fun a' w' => JC c w0 (listed.setIfInBounds 23 true) a' w') Q := by
  have x21 := h.val (i := 21) (by decide) d21 (by decide)
  have x22 := h.vals 22 (by decide) d22 (fun e => absurd e (by decide)) (fun e => absurd e (by decide)) (fun e => absurd e (by decide)) (fun _ => false_of hf)
  change Three c w0.heap.size w (a.tmps[73]?.getD undef) at x21
  change Box0 w0.heap.size w (a.tmps[14]?.getD undef) at x22
  obtain ⟨A, D, E, p, q, r, e1, y6, y13, y20⟩ := x21
  obtain ⟨g, e2, hg, hblk⟩ := x22
  obtain ⟨c0, c1, c2, f0, f1, f2⟩ := pg_box hblk
  have hs : (23 : Nat) < listed.size := by omega
  obtain ⟨w', hw'⟩ : ∃ w', ((w.setCell ⟨g, 0, none⟩ (.slice A (c.n1 + c.n2) p)).setCell ⟨g, 1, none⟩ (.slice D (c.a1 + c.a2) q)).setCell ⟨g, 2, none⟩ (.slice E (c.f1 + c.f2) r) = w' := ⟨_, rfl⟩
  have k0 := others_set (i := 0) hblk (.slice A (c.n1 + c.n2) p)
  have b1 := hblk.set 0 (.slice A (c.n1 + c.n2) p)
  have k1 := k0.trans (others_set (i := 1) b1 (.slice D (c.a1 + c.a2) q))
  have b2 := b1.set 1 (.slice D (c.a1 + c.a2) q)
  have k2 := k1.trans (others_set (i := 2) b2 (.slice E (c.f1 + c.f2) r))
  have b3 := b2.set 2 (.slice E (c.f1 + c.f2) r)
  rw [hw'] at k2 b3
  have hb : Below w0.heap.size w0 w' := by rw [← hw']; exact ((h.below.setCell (p := ⟨g, 0, none⟩) hg _).setCell (p := ⟨g, 1, none⟩) hg _).setCell (p := ⟨g, 2, none⟩) hg _
  have hJ : JC c w0 (listed.setIfInBounds 23 true) a w' := by
    refine ⟨h.tsz, h.dfr, h.s5, h.s8, h.s11, h.s12, h.s13, hb, fun j hj hl c3 c10 c17 c22 => ?_, fun _ => ⟨g, A, D, E, p, q, r, e2, hg, b3, Own0.keep y6 k2 (by decide), Own0.keep y13 k2 (by decide), Own0.keep y20 k2 (by decide)⟩⟩
    rw [getD_set _ _ _ hs] at hl c3 c10 c17 c22
    rw [if_neg (by omega)] at hl c3 c10 c17
    rw [if_pos rfl] at c22
    have h22 : j ≠ 22 := fun e => by cases c22 e
    exact (h.vals j hj hl c3 c10 c17 (fun e => absurd e h22)).keep k2 (fun _ => by decide) (fun _ => by decide) (fun _ => by decide) (fun e => absurd e h22)
  simp [Oper.wp, execOp, go_sem, e1, e2, Act.eval, c0, c1, c2, f0, f1, f2, hw']
  exact hJ
end
end Go.Proofs.YtpbcncfbfbghcaaGreatDoor.L20
