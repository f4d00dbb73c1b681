/- Shares and lists of blocks in memory. No function is named here. -/
import Derived.Test.YtcfoclmkhippoaaMem
import Derived.Test.YtcfoclmkhippoaaS14Rd
import Derived.Test.YtcfoclmkhippoaaG7El
import Derived.Test.YtcfoclmkhippoaaG6At
import Derived.Test.YtcfoclmkhippoaaE15Spec
namespace Go.Proofs.Ytcfoclmkhippoaa.E15
set_option maxRecDepth 100000
open Go.RowKit Mem S14
open Go.Proofs.Ytcfoclmkhippoaa.G5 Go.Proofs.Ytcfoclmkhippoaa.G7
set_option linter.unusedVariables false
set_option linter.unusedSimpArgs false

/-- A row of a call's own, read. -/
theorem own_rd {w : World} {base n size : Nat} {e : TypeId} {v : Value} {xs : List Value} (h : w.ownsRow base e size v n xs) : ∃ A cap, v = .slice A n cap ∧ n ≤ cap ∧ cap ≤ maxLen ∧ (A = none → cap = 0) ∧ ∀ g o sp, A = some ⟨g, o, sp⟩ → o = 0 ∧ sp = none ∧ base ≤ g ∧ g < w.heap.size ∧ ∀ j u, xs[j]? = some u → w.cell? ⟨g, j, none⟩ = some u := by
  rcases h.2 with ⟨rfl, h0⟩ | ⟨g, cap, cur, rfl, hg, hh, hn, hm, _⟩
  · subst h0
    exact ⟨none, 0, rfl, Nat.le_refl _, by decide, fun _ => rfl, fun g o sp e => by cases e⟩
  · refine ⟨_, cap, rfl, hn, hm, (fun e => by cases e), fun g' o sp e => ?_⟩
    injection e with e
    injection e with e1 e2 e3
    subst e1 e2 e3
    refine ⟨rfl, rfl, hg, (h.lt g rfl).2, fun j u hj => ?_⟩
    have := h.cells (g := g) rfl j u hj
    rwa [add_at] at this
theorem rd_own {w : World} {base n size : Nat} {e : TypeId} {v : Value} {xs : List Value} (h : w.ownsRow base e size v n xs) : ∃ A cap, v = .slice A n cap ∧ n ≤ cap ∧ cap ≤ maxLen ∧ (A = none → cap = 0) ∧ Rd w A xs := by
  obtain ⟨A, cap, h1, h2, h3, h4, h5⟩ := own_rd h
  refine ⟨A, cap, h1, h2, h3, h4, fun j hj => ?_⟩
  rcases A with _ | ⟨g, o, sp⟩
  · have := h.1
    have := h4 rfl
    have e : n = 0 := by omega
    subst e
    have : xs.length = 0 := by have := h.1; simpa using this
    omega
  · obtain ⟨rfl, rfl, _, h6, h7⟩ := h5 g o sp rfl
    exact ⟨g, 0, rfl, h6, by rw [Nat.zero_add]; exact h7 j _ (List.getElem?_eq_getElem hj)⟩
theorem chainB {B : Nat} {w w1 : World} (h : Below B w w1) (n : Nat) : Below B w (w1.drewN n) := ⟨h.os, h.tape, h.output, h.size, h.block⟩
theorem VAt.of_row {w : World} {base n cap g size : Nat} {e : TypeId} {xs : List Value} (h : w.ownsRow base e size (.slice (some ⟨g, 0, none⟩) n cap) n xs) : VAt w g xs := fun j hj => by
  have hl := h.1
  refine ⟨?_, h.frozenAt j⟩
  rw [h.cellAt j (by omega), List.getElem?_eq_getElem hj]
theorem rd_at {w : World} {g : Nat} {xs : List Value} (h : VAt w g xs) : Rd w (some ⟨g, 0, none⟩) xs := fun j hj => ⟨g, 0, rfl, World.block_lt_of_cell? _ _ (h j hj).1, by rw [Nat.zero_add]; exact (h j hj).1⟩
/-! ### Blocks -/
def bs (l : List (List R)) : List Value := l.map fun b => .string (str b)
theorem bs_len (l : List (List R)) : (bs l).length = l.length := by simp [bs]
theorem bs_snoc (l : List (List R)) (x : List R) : bs (l ++ [x]) = bs l ++ [.string (str x)] := by simp [bs]
theorem bs_one (l : List (List R)) : ∀ u ∈ bs l, u.oneCell' = true := by
  intro u hu
  obtain ⟨b, _, rfl⟩ := List.mem_map.1 hu
  rfl
theorem bs_set (l : List (List R)) (k : Nat) (x : List R) : (bs l).set k (.string (str x)) = bs (l.set k x) := by
  unfold bs
  rw [List.map_set]
/-- A slice of blocks. -/
structure IsBs (w : World) (A : Option Addr) (n cap : Nat) (l : List (List R)) : Prop where
  len : l.length = n
  le : n ≤ cap
  capm : cap ≤ maxLen
  nil : A = none → cap = 0
  rd : Rd w A (bs l)
theorem IsBs.below {w w1 : World} {A : Option Addr} {n cap : Nat} {l : List (List R)} (h : IsBs w A n cap l) (k : Below w.heap.size w w1) : IsBs w1 A n cap l := ⟨h.len, h.le, h.capm, h.nil, h.rd.below k⟩
theorem IsBs.drewN {w : World} {A : Option Addr} {n cap : Nat} {l : List (List R)} (h : IsBs w A n cap l) (m : Nat) : IsBs (w.drewN m) A n cap l := ⟨h.len, h.le, h.capm, h.nil, h.rd.drewN m⟩
theorem IsBs.get {w : World} {A : Option Addr} {n cap : Nat} {l : List (List R)} (h : IsBs w A n cap l) {k : Nat} (hk : k < l.length) : ∃ b o : Nat, A = some ⟨b, o, none⟩ ∧ b < w.heap.size ∧ w.cell? ⟨b, o + k, none⟩ = some (.string (str l[k])) := by
  obtain ⟨b, o, e, hb, hc⟩ := h.rd k (by rw [bs_len]; exact hk)
  exact ⟨b, o, e, hb, by rw [hc]; simp [bs]⟩
theorem IsBs.of_own {w : World} {base n : Nat} {e : TypeId} {v : Value} {l : List (List R)} (h : w.ownsRow base e 1 v n (bs l)) : l.length = n ∧ ∃ A cap, v = .slice A n cap ∧ IsBs w A n cap l := by
  have hl : l.length = n := by have := h.1; rw [bs_len] at this; omega
  obtain ⟨A, cap, h1, h2, h3, h4, h5⟩ := rd_own h
  exact ⟨hl, A, cap, h1, hl, h2, h3, h4, h5⟩
theorem IsBs.of_at {w : World} {g n cap : Nat} {l : List (List R)} (h : VAt w g (bs l)) (hn : l.length = n) (hc : n ≤ cap) (hm : cap ≤ maxLen) : IsBs w (some ⟨g, 0, none⟩) n cap l := ⟨hn, hc, hm, (fun e => by cases e), rd_at h⟩
theorem IsBs.of_strs {w : World} {A : Option Addr} {n cap : Nat} {l : List (List UInt8)} (h : IsStrs w A n cap l) : ∃ L : List (List R), L.length = n ∧ IsBs w A n cap L := by
  refine ⟨l.map fun x => el ⟨x.toArray⟩, by rw [List.length_map]; exact h.hlen, by rw [List.length_map]; exact h.hlen, h.hle, h.hcap, h.hnil, ?_⟩
  have e : bs (l.map fun x => el ⟨x.toArray⟩) = strVs l := by
    unfold bs strVs
    rw [List.map_map]
    refine List.map_congr_left fun x _ => ?_
    show Value.string (str (el ⟨x.toArray⟩)) = strV x
    rw [str_el]
    rfl
  rw [e]
  exact h.hrd
/-! ### Shares -/
def encR (r : Rw) : List Value := [.int .i64 r.1, .string (str r.2)]
def rw_ (l : List Rw) : List Value := l.flatMap encR
theorem encR_len (r : Rw) : (encR r).length = 2 := rfl
theorem rw_len (l : List Rw) : (rw_ l).length = l.length * 2 := flat_len encR_len l
theorem rw_snoc (l : List Rw) (x : Rw) : rw_ (l ++ [x]) = rw_ l ++ [.int .i64 x.1, .string (str x.2)] := by
  unfold rw_
  rw [List.flatMap_append]
  simp [encR]
theorem rw_one (l : List Rw) : ∀ u ∈ rw_ l, u.oneCell' = true := by
  intro u hu
  obtain ⟨r, _, h⟩ := List.mem_flatMap.1 hu
  rcases List.mem_cons.1 h with rfl | h
  · rfl
  · rw [List.mem_singleton.1 h]
    rfl
structure IsRaw (w : World) (A : Option Addr) (n cap : Nat) (l : List Rw) : Prop where
  len : l.length = n
  le : n ≤ cap
  capm : cap ≤ maxLen
  nil : A = none → cap = 0
  rd : Rd w A (rw_ l)
theorem IsRaw.below {w w1 : World} {A : Option Addr} {n cap : Nat} {l : List Rw} (h : IsRaw w A n cap l) (k : Below w.heap.size w w1) : IsRaw w1 A n cap l := ⟨h.len, h.le, h.capm, h.nil, h.rd.below k⟩
theorem IsRaw.drewN {w : World} {A : Option Addr} {n cap : Nat} {l : List Rw} (h : IsRaw w A n cap l) (m : Nat) : IsRaw (w.drewN m) A n cap l := ⟨h.len, h.le, h.capm, h.nil, h.rd.drewN m⟩
/-- A share in two cells from q on. -/
structure At2 (W : World) (b q : Nat) (r : Rw) : Prop where
  c0 : W.cell? ⟨b, q, none⟩ = some (.int .i64 r.1)
  c1 : W.cell? ⟨b, q + 1, none⟩ = some (.string (str r.2))
theorem At2.below {W W1 : World} {b q B : Nat} {r : Rw} (h : At2 W b q r) (k : Below B W W1) (hb : b < B) : At2 W1 b q r := ⟨(k.cell (p := ⟨b, q, none⟩) hb).trans h.c0, (k.cell (p := ⟨b, q + 1, none⟩) hb).trans h.c1⟩
theorem IsRaw.get {w : World} {A : Option Addr} {n cap : Nat} {l : List Rw} (h : IsRaw w A n cap l) {k : Nat} (hk : k < l.length) : ∃ b o : Nat, A = some ⟨b, o, none⟩ ∧ b < w.heap.size ∧ At2 w b (o + k * 2) l[k] := by
  obtain ⟨b, o, e, hb, hc⟩ := Rd.struct (s := 2) (enc := encR) encR_len h.rd (by decide) hk
  exact ⟨b, o, e, hb, hc 0 _ rfl, hc 1 _ rfl⟩
theorem IsRaw.of_own {w : World} {base n : Nat} {e : TypeId} {v : Value} {l : List Rw} (h : w.ownsRow base e 2 v n (rw_ l)) : l.length = n ∧ ∃ A cap, v = .slice A n cap ∧ IsRaw w A n cap l := by
  have hl : l.length = n := by have := h.1; rw [rw_len] at this; omega
  obtain ⟨A, cap, h1, h2, h3, h4, h5⟩ := rd_own h
  exact ⟨hl, A, cap, h1, hl, h2, h3, h4, h5⟩
theorem IsRaw.of_at {w : World} {g n cap : Nat} {l : List Rw} (h : VAt w g (rw_ l)) (hn : l.length = n) (hc : n ≤ cap) (hm : cap ≤ maxLen) : IsRaw w (some ⟨g, 0, none⟩) n cap l := ⟨hn, hc, hm, (fun e => by cases e), rd_at h⟩
theorem rd_front {w : World} {A : Option Addr} {xs ys : List Value} (h : Rd w A xs) (hp : ys <+: xs) : Rd w A ys := fun j hj => by
  obtain ⟨zs, rfl⟩ := hp
  obtain ⟨b, o, e, hb, hc⟩ := h j (by rw [List.length_append]; omega)
  exact ⟨b, o, e, hb, by rw [hc, List.getElem_append_left hj]⟩
/-- The front of a slice. -/
theorem IsRaw.take {w : World} {A : Option Addr} {n cap : Nat} {l : List Rw} (h : IsRaw w A n cap l) {d : Nat} (hd : d ≤ n) : IsRaw w A d cap (l.take d) := by
  refine ⟨by rw [List.length_take, h.len]; omega, Nat.le_trans hd h.le, h.capm, h.nil, rd_front h.rd ⟨rw_ (l.drop d), ?_⟩⟩
  unfold rw_
  rw [← List.flatMap_append, List.take_append_drop]
theorem IsBs.take {w : World} {A : Option Addr} {n cap : Nat} {l : List (List R)} (h : IsBs w A n cap l) {d : Nat} (hd : d ≤ n) : IsBs w A d cap (l.take d) := by
  refine ⟨by rw [List.length_take, h.len]; omega, Nat.le_trans hd h.le, h.capm, h.nil, rd_front h.rd ⟨bs (l.drop d), ?_⟩⟩
  unfold bs
  rw [← List.map_append, List.take_append_drop]
theorem rw_set (l : List Rw) (k : Nat) (z : Int) (x : List R) (hk : k < l.length) : ((rw_ l).set (k * 2) (.int .i64 z)).set (k * 2 + 1) (.string (str x)) = rw_ (l.set k (z, x)) := by
  induction l generalizing k with
  | nil => simp at hk
  | cons r l ih =>
    have e : rw_ (r :: l) = .int .i64 r.1 :: .string (str r.2) :: rw_ l := rfl
    cases k with
    | zero => rw [e]; rfl
    | succ k =>
      have := ih k (by simpa using hk)
      rw [e, show (k + 1) * 2 = k * 2 + 1 + 1 by omega]
      simp only [List.set_cons_succ]
      rw [this]
      rfl
end Go.Proofs.Ytcfoclmkhippoaa.E15
