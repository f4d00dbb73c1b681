/- 'append(append([]int{}, xs...), x)' inside a region that draws its order: a slice without room is never written in place. -/
import Derived.Test.YtcfoclmkhippoaaG8Ints
import Derived.Test.YtcfoclmkhippoaaApz
import Derived.Deep.AppendLies
namespace Go.Proofs.Ytcfoclmkhippoaa.G8
set_option maxRecDepth 100000
open Go.RowKit Mem
set_option linter.unusedVariables false
set_option linter.unusedSimpArgs false

/-- An empty slice literal, or a row of the call's own. -/
def Own0 (base : Nat) (w : World) (v : Value) (n : Nat) (l : List Int) : Prop := (n = 0 ∧ l = [] ∧ ∃ g, v = .slice (some ⟨g, 0, none⟩) 0 0) ∨ w.ownsRow base 3 1 v n (is l)
theorem Own0.alloc {base : Nat} {w : World} {v : Value} {n : Nat} {l : List Int} (h : Own0 base w v n l) (o : Obj) : Own0 base (w.alloc o) v n l := h.imp id fun h => h.alloc o
theorem Own0.mono {base base' : Nat} {w : World} {v : Value} {n : Nat} {l : List Int} (h : Own0 base w v n l) (hb : base' ≤ base) : Own0 base' w v n l := h.imp id fun h => ⟨h.1, h.2.imp id fun ⟨g, cap, cur, h1, h2, h3⟩ => ⟨g, cap, cur, h1, Nat.le_trans hb h2, h3⟩⟩
theorem src_cells {w : World} {b o c : Nat} {l : List Int} (h : IsInts w (some ⟨b, o, none⟩) c l) : ∀ j u, (is l)[j]? = some u → w.cell? ((⟨b, o, none⟩ : Addr).add j) = some u := fun j u hj => by
  have hj' : j < (is l).length := (List.getElem?_eq_some_iff.1 hj).1
  obtain ⟨b', o', e, _, hc⟩ := h.rd j hj'
  injection e with e
  injection e with e1 e2
  subst e1 e2
  have : (⟨b, o, none⟩ : Addr).add j = ⟨b, o + j, none⟩ := by
    by_cases h0 : j = 0
    · subst h0; rfl
    · simp [Addr.add, h0]
  rw [this, hc]
  rw [List.getElem?_eq_getElem hj'] at hj
  exact hj
theorem is_one (l : List Int) : ∀ u ∈ is l, u.oneCell' = true := by
  intro u hu
  obtain ⟨z, _, rfl⟩ := List.mem_map.1 hu
  rfl
theorem some_of {w : World} {A : Option Addr} {c : Nat} {l : List Int} (h : IsInts w A c l) (hl : 0 < l.length) : ∃ b o, A = some ⟨b, o, none⟩ := by
  obtain ⟨b, o, e, _⟩ := h.read 0 hl
  exact ⟨b, o, e⟩
/-- Behind an append onto a slice without room. -/
theorem run_fresh {w : World} (ty : TypeId) (g : Nat) {A : Option Addr} {m c : Nat} {l : List Int} (hi : IsInts w A c l) (hm : l.length = m) (hb : m ≤ 1000) :
    ∃ v' w', (Builtin.append_ #[41, 41] ty #[.slice (some ⟨g, 0, none⟩) 0 0, .slice A m c]).run Try.prog w = .ok v' w' ∧ Own0 w.heap.size w' v' m l ∧ Below w.heap.size w w' := by
  obtain ⟨i0, hi0, hz0, hz1, hz2⟩ := info_parts info_int
  by_cases h0 : m = 0
  · subst h0
    have hl : l = [] := List.eq_nil_of_length_eq_zero hm
    refine ⟨.slice (some ⟨g, 0, none⟩) 0 0, w, ?_, .inl ⟨rfl, hl, g, rfl⟩, Below.refl _ _⟩
    rcases A with _ | a
    · simp [Builtin.append_, run_underlying (P := Try.prog) Try.underlying41, sizeOf, typeInfo, hi0, Builtin.lenOf, Builtin.firstCells, storeCells]
    · have hf := run_firstCells_some (P := Try.prog) w i0.size 0 a 0 c [] (by simp) (fun j v h => by simp at h)
      simp [Builtin.append_, run_underlying (P := Try.prog) Try.underlying41, sizeOf, typeInfo, hi0, Builtin.lenOf, hf, storeCells]
  · obtain ⟨b, o, rfl⟩ := some_of hi (by omega)
    have hr := run_append_grow (P := Try.prog) w 41 ty 3 i0 (.int .i64 0) Try.underlying41 hi0 hz0 ⟨g, 0, none⟩ 0 0 [] (by simp) (fun j v h => by simp at h) ⟨b, o, none⟩ m c (is l) (by rw [is_len, hm, hz1]; omega) (src_cells hi) (by omega) (by omega) (by
      rw [hz2]
      have := nextslicecap_small (n := 0 + m) (c := 0) (by omega) (by omega)
      omega)
    have hge := grownCap_ge w (0 + m) 0 3
    have hle := grownCap_le_maxLen w (0 + m) 0 3 (by unfold maxLen; omega)
    obtain ⟨cap, hcap⟩ : ∃ cap, grownCap w (0 + m) 0 3 = cap := ⟨_, rfl⟩
    rw [hcap] at hr hge hle
    refine ⟨_, _, hr, .inr ?_, (Below.refl _ w).drew.alloc (by simp) _⟩
    have hlen : (is l).length = m := by rw [is_len, hm]
    have hz : ∀ k, (Builtin.zeroCells (Value.int .i64 0).cells k).size = k := fun k => by simp [Builtin.zeroCells, Value.cells]
    rw [Nat.zero_add]
    refine ⟨by rw [hlen]; omega, .inr ⟨w.heap.size, cap, _, rfl, Nat.le_refl _, heap_alloc_new w.drew _, by omega, hle, ?_, ?_⟩⟩
    · simp [hz, hlen]
      omega
    · simp [← hlen]
theorem step_append_fresh {w : World} {ops : Array Oper} {o : Oper} {a : Act} {K : Act → World → Prop} {Q : Exit → Act → World → Prop} {E : Prop} (hgd : o.guard = none) (s x : Operand)
    (ho : o.op = .call { callee := .builtin .append, args := #[s, x], argTypes := #[41, 41] }) (g : Nat) (A : Option Addr) (m c : Nat) (l : List Int)
    (hs : a.eval s = .slice (some ⟨g, 0, none⟩) 0 0) (hx : a.eval x = .slice A m c) (hi : IsInts w A c l) (hm : l.length = m) (hb : m ≤ 1000)
    (h : ∀ v' w', Own0 w.heap.size w' v' m l → Below w.heap.size w w' → K (a.put o.dst v') w') :
    if Region.wanted o (yielded ops a.tmps) = true then Oper.wp Try.prog o a w K Q else E := by
  rw [if_pos (by simp [Region.wanted, hgd])]
  obtain ⟨v', w', hr, h1, h2⟩ := run_fresh (w := w) o.type g hi hm hb
  exact Go.Lib.wp_append_run w s x 41 41 ho _ _ hs hx v' w' hr (h v' w' h1 h2)
theorem step_append_one {w : World} {ops : Array Oper} {o : Oper} {a : Act} {K : Act → World → Prop} {Q : Exit → Act → World → Prop} {E : Prop} (hgd : o.guard = none) (s x : Operand)
    (ho : o.op = .call { callee := .builtin .append, args := #[s, x], argTypes := #[41, 41] }) (base : Nat) (v : Value) (n : Nat) (l : List Int) (A : Option Addr) (c : Nat) (z : Int)
    (hs : a.eval s = v) (hown : Own0 base w v n l) (hx : a.eval x = .slice A 1 c) (hi : IsInts w A c [z]) (hn : l.length = n) (hb : n ≤ 1000) (hbase : base ≤ w.heap.size) (hfit : ∀ y ∈ l, -9223372036854775808 ≤ y ∧ y ≤ 9223372036854775807)
    (h : ∀ A' cap w', IsInts w' A' cap (l ++ [z]) → Below base w w' → K (a.put o.dst (.slice A' (n + 1) cap)) w') :
    if Region.wanted o (yielded ops a.tmps) = true then Oper.wp Try.prog o a w K Q else E := by
  rw [if_pos (by simp [Region.wanted, hgd])]
  have hfit2 : ∀ y ∈ l ++ [z], -9223372036854775808 ≤ y ∧ y ≤ 9223372036854775807 := fun y hy => by
    rcases List.mem_append.1 hy with h | h
    · exact hfit y h
    · rw [List.mem_singleton.1 h]
      exact hi.fit z (by simp)
  rcases hown with ⟨rfl, rfl, g, rfl⟩ | hown
  · obtain ⟨v', w', hr, h1, h2⟩ := run_fresh (w := w) o.type g hi rfl (by simp)
    rcases h1 with ⟨h1, _⟩ | h1
    · cases h1
    · obtain ⟨A', cap, rfl, _, _⟩ := own_slice h1
      exact Go.Lib.wp_append_run w s x 41 41 ho _ _ hs hx _ w' hr (h A' cap w' (IsInts.of_own h1 hfit2).1 (h2.mono hbase))
  · obtain ⟨i0, hi0, hz0, hz1, hz2⟩ := info_parts info_int
    obtain ⟨b, o', rfl⟩ := some_of hi (by simp)
    refine wp_append_own w s x 41 ho base 3 i0 (.int .i64 0) 1 8 Try.underlying41 hi0 hz0 hz1 hz2 rfl (by decide) v n (is l) hs hown ⟨b, o', none⟩ 1 c (is [z]) hx rfl (src_cells hi) (is_one _) (by unfold maxLen; omega) (by omega) hbase fun v' w' h1 h2 _ => ?_
    rw [← is_append] at h1
    obtain ⟨A', cap, rfl, _, _⟩ := own_slice h1
    exact h A' cap w' (IsInts.of_own h1 hfit2).1 ((Below.refl base w).grown h2 hbase (fun j hj => (hown.lt j hj).1))
theorem step_append_row {w : World} {ops : Array Oper} {o : Oper} {a : Act} {K : Act → World → Prop} {Q : Exit → Act → World → Prop} {E : Prop} (hgd : o.guard = none) (s x : Operand)
    (ho : o.op = .call { callee := .builtin .append, args := #[s, x], argTypes := #[41, 41] }) (base : Nat) (v : Value) (n : Nat) (l : List Int) (b o' m c : Nat) (news : List Int)
    (hs : a.eval s = v) (hown : w.ownsRow base 3 1 v n (is l)) (hx : a.eval x = .slice (some ⟨b, o', none⟩) m c) (hi : IsInts w (some ⟨b, o', none⟩) c news) (hm : news.length = m) (hb : n ≤ 1000) (hm2 : m ≤ 1000) (hbase : base ≤ w.heap.size)
    (h : ∀ v' w', w'.ownsRow base 3 1 v' (n + m) (is (l ++ news)) → Below base w w' → K (a.put o.dst v') w') :
    if Region.wanted o (yielded ops a.tmps) = true then Oper.wp Try.prog o a w K Q else E := by
  rw [if_pos (by simp [Region.wanted, hgd])]
  obtain ⟨i0, hi0, hz0, hz1, hz2⟩ := info_parts info_int
  refine wp_append_own w s x 41 ho base 3 i0 (.int .i64 0) 1 8 Try.underlying41 hi0 hz0 hz1 hz2 rfl (by decide) v n (is l) hs hown ⟨b, o', none⟩ m c (is news) hx (by rw [is_len, hm]; omega) (src_cells hi) (is_one _) (by unfold maxLen; omega) (by omega) hbase fun v' w' h1 h2 _ => ?_
  rw [← is_append] at h1
  exact h v' w' h1 ((Below.refl base w).grown h2 hbase (fun j hj => (hown.lt j hj).1))
end Go.Proofs.Ytcfoclmkhippoaa.G8
