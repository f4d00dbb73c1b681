/- Facts on bytes in memory that every layer's walks share: a row of bytes of the call's own, read back as a string; one byte appended. -/
import Derived.WalkKit
import Derived.Laws.IdiomStrings
import Derived.ProofKit
import Derived.Laws.AppendOwnNone
import Derived.Deep.Draws
namespace Go.Proofs.YtpnnkdgoaeibbaaDoor.Mem
open Go.RowKit

/-- Bytes as cells. -/
def bys (l : List UInt8) : List Value := l.map fun b => .int .u8 (b.toNat : Int)
theorem bys_nil : bys [] = [] := rfl
theorem bys_len (l : List UInt8) : (bys l).length = l.length := by simp [bys]
theorem bys_snoc (l : List UInt8) (b : UInt8) : bys (l ++ [b]) = bys l ++ [.int .u8 (b.toNat : Int)] := by simp [bys]
theorem bys_append (l m : List UInt8) : bys (l ++ m) = bys l ++ bys m := by simp [bys]
theorem bys_get (l : List UInt8) (j : Nat) (h : j < l.length) : (bys l)[j]? = some (.int .u8 (l[j].toNat : Int)) := by
  simp [bys, List.getElem?_eq_getElem h]
theorem bys_one (l : List UInt8) : ∀ u ∈ bys l, u.oneCell' = true := by
  intro u hu
  obtain ⟨b, _, rfl⟩ := List.mem_map.1 hu
  rfl

theorem add_at (g j : Nat) : (⟨g, 0, none⟩ : Addr).add j = ⟨g, j, none⟩ := by
  by_cases h : j = 0
  · subst h; rfl
  · simp [Addr.add, h]

/-- One new cell, laid in a block of its own, is where the append looks for it. -/
theorem one_new (w : World) (x : Value) (t : TypeId) : ∀ j u, ([x] : List Value)[j]? = some u → (w.alloc (.cells #[x] t)).cell? ((⟨w.heap.size, 0, none⟩ : Addr).add j) = some u := by
  intro j u hj
  match j, hj with
  | 0, hj =>
    simp at hj
    subst hj
    simp [Addr.add]
theorem one_cell (k : IntKind) (n : Int) : ∀ u ∈ ([.int k n] : List Value), u.oneCell' = true := by
  intro u hu
  simp at hu
  subst hu
  rfl

/-- 'string(b)' of a row of the call's own (nil too). -/
theorem conv_own {P : Program} {w : World} {base n : Nat} {src dst e : TypeId} {v : Value} {l : List UInt8} (hs : P.underlying src = some (.slice e)) (he : P.underlying e = some (.int .u8)) (hd : P.underlying dst = some .string)
    (h : w.ownsRow base e 1 v n (bys l)) : (convert src dst v).run P w = .ok (.string ⟨l.toArray⟩) w := by
  have hl : l.length = n := by have := h.1; rw [bys_len] at this; omega
  rcases h.2 with ⟨rfl, h0⟩ | ⟨g, cap, cur, rfl, _⟩
  · have : l = [] := List.eq_nil_of_length_eq_zero (by omega)
    subst this
    rw [run_convert_bytes_string w src dst e none 0 0 hs he hd]
    rfl
  · subst hl
    refine run_convert_bytes_back w src dst e ⟨g, 0, none⟩ cap l hs he hd fun j hj => ?_
    have hc := h.cells (g := g) rfl j _ (bys_get l j hj)
    exact hc

/-- One call behind the other. -/
theorem chain {w w1 w2 : World} (h : Below w.heap.size w w1) (k : Below w1.heap.size w1 w2) : Below w.heap.size w w2 := h.trans (k.mono h.size)
theorem chainN {w w1 : World} (h : Below w.heap.size w w1) (n : Nat) : Below w.heap.size w (w1.drewN n) := ⟨h.os, h.tape, h.output, h.size, h.block⟩

/-- Block g holds the bytes l from its head on, and they may be written. -/
def BAt (w : World) (g : Nat) (l : List UInt8) : Prop := ∀ j (h : j < l.length), w.cell? ⟨g, j, none⟩ = some (.int .u8 (l[j].toNat : Int)) ∧ w.frozen? ⟨g, j, none⟩ = false
theorem BAt.drew {w : World} {g : Nat} {l : List UInt8} (h : BAt w g l) : BAt w.drew g l := h
theorem BAt.drewN {w : World} {g : Nat} {l : List UInt8} (h : BAt w g l) (n : Nat) : BAt (w.drewN n) g l := h
theorem BAt.below {w w1 : World} {g B : Nat} {l : List UInt8} (h : BAt w g l) (k : Below B w w1) (hg : g < B) : BAt w1 g l := fun j hj => by
  have := h j hj
  exact ⟨(k.cell (p := ⟨g, j, none⟩) hg).trans this.1, (k.frozen (p := ⟨g, j, none⟩) hg).trans this.2⟩
theorem BAt.set {w : World} {g : Nat} {l : List UInt8} (h : BAt w g l) {k : Nat} (hk : k < l.length) (c : UInt8) : BAt (w.setCell ⟨g, k, none⟩ (.int .u8 (c.toNat : Int))) g (l.set k c) := fun j hj => by
  have hj' : j < l.length := by simpa using hj
  refine ⟨?_, (World.frozen?_setCell _ _ _ _).trans (h j hj').2⟩
  by_cases e : j = k
  · subst e
    rw [World.cell?_setCell_same _ _ _ (h j hj').1, List.getElem_set_self]
  · rw [World.cell?_setCell_other _ _ _ _ (fun x => e (by injection x with _ x; exact x.symm)), (h j hj').1, List.getElem_set_ne (fun x => e x.symm)]
theorem BAt.conv {P : Program} {w : World} {g cap n : Nat} {src dst e : TypeId} {l : List UInt8} (h : BAt w g l) (hn : l.length = n) (hs : P.underlying src = some (.slice e)) (he : P.underlying e = some (.int .u8)) (hd : P.underlying dst = some .string) :
    (convert src dst (.slice (some ⟨g, 0, none⟩) n cap)).run P w = .ok (.string ⟨l.toArray⟩) w := by
  subst hn
  exact run_convert_bytes_back w src dst e ⟨g, 0, none⟩ cap l hs he hd fun j hj => by rw [add_at]; exact (h j hj).1
/-- '[]byte(s)': a new block that holds the bytes. -/
theorem bytes_of {P : Program} (w : World) {src dst e : TypeId} (s : ByteArray) (hs : P.underlying src = some .string) (hd : P.underlying dst = some (.slice e)) (he : P.underlying e = some (.int .u8)) :
    ∃ (C : Array Value) (cap : Nat), s.size ≤ cap ∧ (convert src dst (.string s)).run P w = .ok (.slice (some ⟨w.heap.size, 0, none⟩) s.size cap) (w.drew.alloc (.cells C e (cap, cap + 1))) ∧
      BAt (w.alloc (.cells C e (cap, cap + 1))) w.heap.size s.data.toList := by
  have hcap := grownCap_ge w s.size 0 e
  have hrun := run_bytes_of_string w src dst e s hs hd he
  have hCs : (bytesRow s (grownCap w s.size 0 e)).size = grownCap w s.size 0 e := by simp [bytesRow]; omega
  rw [hCs] at hrun
  refine ⟨_, _, hcap, hrun, fun j hj => ⟨?_, ?_⟩⟩
  · have hj' : j < s.data.size := by simpa using hj
    rw [World.cell?_alloc_mark, bytesRow_at s _ j hj']
    rfl
  · rw [World.frozen?_alloc_mark]
    have hj' : j < s.size := by simpa using hj
    simp
    omega

/-- Block g holds these values, a cell each, from its head on, and they may be written. -/
def VAt (w : World) (g : Nat) (l : List Value) : Prop := ∀ j (h : j < l.length), w.cell? ⟨g, j, none⟩ = some l[j] ∧ w.frozen? ⟨g, j, none⟩ = false
theorem VAt.drew {w : World} {g : Nat} {l : List Value} (h : VAt w g l) : VAt w.drew g l := h
theorem VAt.drewN {w : World} {g : Nat} {l : List Value} (h : VAt w g l) (n : Nat) : VAt (w.drewN n) g l := h
theorem VAt.below {w w1 : World} {g B : Nat} {l : List Value} (h : VAt w g l) (k : Below B w w1) (hg : g < B) : VAt w1 g l := fun j hj => by
  have := h j hj
  exact ⟨(k.cell (p := ⟨g, j, none⟩) hg).trans this.1, (k.frozen (p := ⟨g, j, none⟩) hg).trans this.2⟩
theorem VAt.set {w : World} {g : Nat} {l : List Value} (h : VAt w g l) {k : Nat} (hk : k < l.length) (u : Value) : VAt (w.setCell ⟨g, k, none⟩ u) g (l.set k u) := fun j hj => by
  have hj' : j < l.length := by simpa using hj
  refine ⟨?_, (World.frozen?_setCell _ _ _ _).trans (h j hj').2⟩
  by_cases e : j = k
  · subst e
    rw [World.cell?_setCell_same _ _ _ (h j hj').1, List.getElem_set_self]
  · rw [World.cell?_setCell_other _ _ _ _ (fun x => e (by injection x with _ x; exact x.symm)), (h j hj').1, List.getElem_set_ne (fun x => e x.symm)]
theorem VAt.far {w : World} {g g' k : Nat} {l : List Value} (h : VAt w g l) (hne : g' ≠ g) (u : Value) : VAt (w.setCell ⟨g', k, none⟩ u) g l := fun j hj =>
  ⟨(World.cell?_setCell_other _ _ _ _ (fun x => hne (by injection x))).trans (h j hj).1, (World.frozen?_setCell _ _ _ _).trans (h j hj).2⟩
theorem BAt.far {w : World} {g g' k : Nat} {l : List UInt8} (h : BAt w g l) (hne : g' ≠ g) (u : Value) : BAt (w.setCell ⟨g', k, none⟩ u) g l := fun j hj =>
  ⟨(World.cell?_setCell_other _ _ _ _ (fun x => hne (by injection x))).trans (h j hj).1, (World.frozen?_setCell _ _ _ _).trans (h j hj).2⟩
theorem VAt.of_own {w : World} {base n cap g : Nat} {e : TypeId} {xs : List Value} (h : w.ownsRow base e 1 (.slice (some ⟨g, 0, none⟩) n cap) n xs) : VAt w g xs := fun j hj => by
  have hl := h.1
  refine ⟨?_, h.frozenAt j⟩
  rw [h.cellAt j (by omega), List.getElem?_eq_getElem hj]

/-- A row that a call has made lies there behind the next call. -/
theorem own_below {w w1 : World} {base e size n : Nat} {v : Value} {xs : List Value} (h : w.ownsRow base e size v n xs) (k : Below w.heap.size w w1) : w1.ownsRow base e size v n xs := by
  refine ⟨h.1, ?_⟩
  rcases h.2 with h0 | ⟨g, cap, cur, rfl, hg, hh, h1, h2, h3, h4⟩
  · exact .inl h0
  · have hlt := (h.lt g rfl).2
    exact .inr ⟨g, cap, cur, rfl, hg, (k.block g hlt).trans hh, h1, h2, h3, h4⟩

/-- What a walk is told of a slice of integers that came in. -/
def IsRow (k : IntKind) (w : World) (a : Option Addr) (len cap : Nat) (zs : List Int) : Prop :=
  (a = none ∧ len = 0 ∧ cap = 0 ∧ zs = []) ∨
  ∃ x, a = some x ∧ len ≤ cap ∧ cap ≤ maxLen ∧ zs.length = cap ∧ (∀ i, i < zs.length → w.cell? (x.add i) = some (.int k (zs.getD i 0))) ∧ ∀ n ∈ zs, (Lit.int k n).wf = true

/-- Numbers as cells. -/
def nats (l : List Nat) : List Value := l.map fun (i : Nat) => .int .i64 (i : Int)
theorem nats_len (l : List Nat) : (nats l).length = l.length := by simp [nats]
theorem nats_snoc (l : List Nat) (b : Nat) : nats (l ++ [b]) = nats l ++ [.int .i64 (b : Int)] := by simp [nats]
theorem nats_get (l : List Nat) (j : Nat) (h : j < l.length) : (nats l)[j]? = some (.int .i64 (l[j] : Int)) := by
  simp [nats, List.getElem?_eq_getElem h]

/-- An empty slice literal: nothing is owned yet. -/
theorem empty_at {w : World} {base size g : Nat} {e : TypeId} (hg : w.heap.size = g) (hb : base ≤ g) : (w.alloc (.cells #[] e)).ownsRow base e size (.slice (some ⟨g, 0, none⟩) 0 0) 0 [] := by
  subst hg
  exact World.ownsRow_made w #[] 0 hb (by decide) (by simp)

/-- Two rows of different element types never share a block. -/
theorem own_apart {w : World} {b b' e e' s s' n n' : Nat} {v v' : Value} {xs xs' : List Value} (h : w.ownsRow b e s v n xs) (h' : w.ownsRow b' e' s' v' n' xs') (hne : e ≠ e') : v.ownBlock = none ∨ v.ownBlock ≠ v'.ownBlock := by
  rcases h.2 with ⟨rfl, _⟩ | ⟨g, cap, cur, rfl, _, hh, _⟩
  · exact .inl rfl
  · right
    rcases h'.2 with ⟨rfl, _⟩ | ⟨g', cap', cur', rfl, _, hh', _⟩
    · intro e; cases e
    · intro e
      have e : g = g' := by injection e
      subst e
      rw [hh] at hh'
      injection hh' with hh'
      injection hh' with _ ht
      exact hne ht

/-- What a string made of a list holds. -/
theorem str_list (l : List UInt8) : (⟨l.toArray⟩ : ByteArray).data.toList = l := rfl
theorem str_size (l : List UInt8) : (⟨l.toArray⟩ : ByteArray).size = l.length := rfl
theorem str_back (s : ByteArray) : (⟨s.data.toList.toArray⟩ : ByteArray) = s := rfl
theorem str_toList (s : ByteArray) : s.toList = s.data.toList := ByteArray.toList_eq s
theorem ret_string {a b : List UInt8} (h : a = b) : Ending.returned (.string ⟨a.toArray⟩) = .returned (.string ⟨b.toArray⟩) := by rw [h]
/-- Strings as cells. -/
def strV (l : List UInt8) : Value := .string ⟨l.toArray⟩
def strVs (l : List (List UInt8)) : List Value := l.map strV
theorem strVs_len (l : List (List UInt8)) : (strVs l).length = l.length := by simp [strVs]
theorem strVs_snoc (l : List (List UInt8)) (x : List UInt8) : strVs (l ++ [x]) = strVs l ++ [strV x] := by simp [strVs]
theorem one_str (x : ByteArray) : ∀ u ∈ ([.string x] : List Value), u.oneCell' = true := by
  intro u hu
  simp at hu
  subst hu
  rfl
/-- The slice at A reads as these values (nil, too, where there are none); it lies below the heap's end. -/
def Rd (w : World) (A : Option Addr) (vs : List Value) : Prop := ∀ j (h : j < vs.length), ∃ b o : Nat, A = some ⟨b, o, none⟩ ∧ b < w.heap.size ∧ w.cell? ⟨b, o + j, none⟩ = some vs[j]
theorem Rd.drew {w : World} {A : Option Addr} {vs : List Value} (h : Rd w A vs) : Rd w.drew A vs := h
theorem Rd.drewN {w : World} {A : Option Addr} {vs : List Value} (h : Rd w A vs) (n : Nat) : Rd (w.drewN n) A vs := h
theorem Rd.below {w w1 : World} {A : Option Addr} {vs : List Value} (h : Rd w A vs) (k : Below w.heap.size w w1) : Rd w1 A vs := fun j hj => by
  obtain ⟨b, o, e, hb, hc⟩ := h j hj
  exact ⟨b, o, e, Nat.lt_of_lt_of_le hb k.size, (k.cell (p := ⟨b, o + j, none⟩) hb).trans hc⟩
theorem Rd.of_own {w : World} {base n cap : Nat} {e : TypeId} {A : Option Addr} {xs : List Value} (h : w.ownsRow base e 1 (.slice A n cap) n xs) : Rd w A xs := fun j hj => by
  have hl := h.1
  rcases h.2 with ⟨h0, h1⟩ | ⟨g, cap', cur, hv, _⟩
  · omega
  · injection hv with hA _ _
    subst hA
    exact ⟨g, 0, rfl, (h.lt g rfl).2, by rw [Nat.zero_add, h.cellAt j (by omega), List.getElem?_eq_getElem hj]⟩
theorem own_slice {w : World} {base n : Nat} {e : TypeId} {v : Value} {xs : List Value} (h : w.ownsRow base e 1 v n xs) : ∃ A cap, v = .slice A n cap ∧ n ≤ cap ∧ cap ≤ maxLen := by
  rcases h.2 with ⟨rfl, h0⟩ | ⟨g, cap, cur, rfl, _, _, hn, hm, _⟩
  · subst h0; exact ⟨none, 0, rfl, Nat.le_refl _, by decide⟩
  · exact ⟨_, cap, rfl, hn, hm⟩

/-- What a walk is told of a slice of strings that came in: its strings l; nil has no room. -/
structure IsStrs (w : World) (A : Option Addr) (n c : Nat) (l : List (List UInt8)) : Prop where
  hlen : l.length = n
  hle : n ≤ c
  hcap : c ≤ 9223372036854775807
  hnil : A = none → c = 0
  hrd : Rd w A (strVs l)
theorem IsStrs.none_ (w : World) : IsStrs w none 0 0 [] := ⟨rfl, Nat.le_refl _, by decide, fun _ => rfl, fun j h => by simp [strVs] at h⟩
theorem IsStrs.of_cells {w : World} {a : Addr} {n c : Nat} {ss : List ByteArray} (h1 : n ≤ c) (h2 : c ≤ maxLen) (h3 : ss.length = c) (h4 : ∀ i, i < ss.length → w.cell? (a.add i) = some (.string (ss.getD i ByteArray.empty))) :
    IsStrs w (some a) n c ((ss.take n).map fun s => s.data.toList) := by
  have hl : ((ss.take n).map fun s => s.data.toList).length = n := by simp; omega
  refine ⟨hl, h1, h2, (fun h => by cases h), fun j hj => ?_⟩
  rw [strVs_len, hl] at hj
  obtain ⟨b, o, spot⟩ := a
  have h0 := h4 0 (by omega)
  have hspot : spot = none := by simpa [Addr.add] using World.cell?_spot h0
  subst hspot
  refine ⟨b, o, rfl, World.block_lt_of_cell? _ _ h0, ?_⟩
  have hc := h4 j (by omega)
  have e : (⟨b, o, none⟩ : Addr).add j = ⟨b, o + j, none⟩ := by
    by_cases h : j = 0
    · subst h; rfl
    · simp [Addr.add, h]
  rw [e] at hc
  rw [hc, List.getD_eq_getElem?_getD, List.getElem?_eq_getElem (by omega)]
  simp only [strVs, strV, List.getElem_map, List.getElem_take]
  rfl
/-- The letters of a list of strings, one more for each. -/
def bulkS (l : List (List UInt8)) : Nat := (l.map fun x => x.length + 1).sum

/-- 'append(out, xs...)', out a row of the call's own, xs whatever can be read: nil, empty or not. -/
theorem wpList_append_rd {P : Program} {w : World} {ops : Array Oper} {rest : List Oper} {o : Oper} {a : Act} {Q : Exit → Act → World → Prop} (hgd : o.guard = none) (s x : Operand) (t : TypeId)
    (ho : o.op = .call { callee := .builtin .append, args := #[s, x], argTypes := #[t, t] })
    (base : Nat) (e : TypeId) (i : TypeInfo) (z : Value) (bytes : Nat) (ht : P.underlying t = some (.slice e)) (hi : P.info? e = some i) (hz : i.zero = some z)
    (hsize : i.size = 1) (hby : i.bytes = bytes) (hzs : z.cells.size = 1)
    (v : Value) (n : Nat) (xs : List Value) (hs : a.eval s = v) (hown : w.ownsRow base e 1 v n xs)
    (A : Option Addr) (m c : Nat) (news : List Value) (hx : a.eval x = .slice A m c) (hr : Rd w A news) (hm : news.length = m) (hc : A = none → c = 0) (h1 : ∀ u ∈ news, u.oneCell' = true)
    (h63 : n + m ≤ maxLen) (hbytes : (n + m) * bytes ≤ 140737488355328) (hbase : base ≤ w.heap.size)
    (h : ∀ v' w', w'.ownsRow base e 1 v' (n + m) (xs ++ news) → w.grownBy w' v.ownBlock → wpList P ops Q rest (a.put o.dst v') w') : wpList P ops Q (o :: rest) a w := by
  rcases A with _ | ad
  · have hm0 : m = 0 := by
      rcases Nat.eq_zero_or_pos m with h0 | h0
      · exact h0
      · obtain ⟨b, o, e, _⟩ := hr 0 (by omega)
        cases e
    subst hm0
    have hn : news = [] := List.eq_nil_of_length_eq_zero hm
    subst hn
    have hc0 := hc rfl
    subst hc0
    refine wpList_append_own_none hgd s x t ho base e i 1 ht hi v n xs hs hown hx ?_
    exact h v w (by simpa using hown) (World.grownBy.refl w _)
  · refine wpList_append_own w hgd s x t ho base e i z 1 bytes ht hi hz hsize hby hzs (by decide) v n xs hs hown ad m c news hx (by omega) (fun j u hj => ?_) h1 h63 hbytes hbase fun v' w' h2 h3 _ => h v' w' h2 h3
    have hj' : j < news.length := (List.getElem?_eq_some_iff.1 hj).1
    obtain ⟨b, o, e, _, hcell⟩ := hr j hj'
    injection e with e
    subst e
    rw [List.getElem?_eq_getElem hj'] at hj
    injection hj with hj
    rw [← hj, ← hcell]
    congr 1
    by_cases h0 : j = 0
    · subst h0; rfl
    · simp [Addr.add, h0]
theorem strVs_one (l : List (List UInt8)) : ∀ u ∈ strVs l, u.oneCell' = true := by
  intro u hu
  obtain ⟨x, _, rfl⟩ := List.mem_map.1 hu
  rfl
theorem strVs_append (l m : List (List UInt8)) : strVs (l ++ m) = strVs l ++ strVs m := by simp [strVs]

/-- Results, by their numbers. -/
theorem ret_i {k : IntKind} {a b : Int} (h : a = b) : Ending.returned (.int k a) = .returned (.int k b) := by rw [h]
theorem ret_bool {a b : Bool} (h : a = b) : Ending.returned (.bool a) = .returned (.bool b) := by rw [h]
theorem ret_ib {x x' : Int} {y y' : Bool} (h : x = x') (h' : y = y') : Ending.returned (.tuple #[.int .i64 x, .bool y]) = .returned (.tuple #[.int .i64 x', .bool y']) := by rw [h, h']
theorem ret_ii {x y x' y' : Int} (h : x = x') (h' : y = y') : Ending.returned (.tuple #[.int .i64 x, .int .i64 y]) = .returned (.tuple #[.int .i64 x', .int .i64 y']) := by rw [h, h']
theorem ret_iii {x y z x' y' z' : Int} (h : x = x') (h' : y = y') (h'' : z = z') : Ending.returned (.tuple #[.int .i64 x, .int .i64 y, .int .i64 z]) = .returned (.tuple #[.int .i64 x', .int .i64 y', .int .i64 z']) := by rw [h, h', h'']
theorem ret_sii {x x' : List UInt8} {y z y' z' : Int} (h : x = x') (h' : y = y') (h'' : z = z') : Ending.returned (.tuple #[.string ⟨x.toArray⟩, .int .i64 y, .int .i64 z]) = .returned (.tuple #[.string ⟨x'.toArray⟩, .int .i64 y', .int .i64 z']) := by rw [h, h', h'']
/-- What a walk is told of a slice of booleans that came in. -/
def IsBoolRow (w : World) (a : Option Addr) (len cap : Nat) (bl : List Bool) : Prop :=
  (a = none ∧ len = 0 ∧ cap = 0 ∧ bl = []) ∨
  ∃ x, a = some x ∧ len ≤ cap ∧ cap ≤ maxLen ∧ bl.length = cap ∧ ∀ i, i < bl.length → w.cell? (x.add i) = some (.bool (bl.getD i false))
theorem own_drewN {w : World} {base e size n : Nat} {v : Value} {xs : List Value} (h : w.ownsRow base e size v n xs) (m : Nat) : (w.drewN m).ownsRow base e size v n xs := h

end Go.Proofs.YtpnnkdgoaeibbaaDoor.Mem
