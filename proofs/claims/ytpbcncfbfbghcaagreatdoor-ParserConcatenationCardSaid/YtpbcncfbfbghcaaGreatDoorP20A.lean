/- Facts on bytes in memory that every layer's walks share: a row of bytes of the call's own, read back as a string; one byte appended. The lexer as plain functions: tokens, errors, lines. No program is named here. What the laws of layer 19 ask of the plain lexer. No program is named here. The assembler as plain functions: tokens, labels, the text, the way back. No program is named here. What the laws of the assembler say of its plain functions. No program is named here. Slices of structs in memory, cell by cell. No program is named here. Numerals of one length stand in the order of their values. No program is named here. -/
import Derived.WalkKit
import Derived.Laws.IdiomStrings
import Derived.ProofKit
import Derived.Laws.AppendOwnNone
import Derived.Deep.Draws
import Derived.Lib.ItoaNum
import Derived.ChangeReads
import Derived.OpenShut
import Derived.Deep.Slices
namespace Go.Proofs.YtpbcncfbfbghcaaGreatDoor.Mem
open Go.RowKit

/-- Bytes as cells. -/
def bys (l : List UInt8) : List Value := l.map fun b => .int .u8 (b.toNat : Int)
theorem bys_nil : bys [] = [] := rfl
theorem bys_len (l : List UInt8) : (bys l).length = l.length := by simp [bys]
theorem bys_snoc (l : List UInt8) (b : UInt8) : bys (l ++ [b]) = bys l ++ [.int .u8 (b.toNat : Int)] := by simp [bys]
theorem bys_append (l m : List UInt8) : bys (l ++ m) = bys l ++ bys m := by simp [bys]
theorem bys_get (l : List UInt8) (j : Nat) (h : j < l.length) : (bys l)[j]? = some (.int .u8 (l[j].toNat : Int)) := by
  simp [bys, List.getElem?_eq_getElem h]
theorem bys_one (l : List UInt8) : ∀ u ∈ bys l, u.oneCell' = true := by
  intro u hu
  obtain ⟨b, _, rfl⟩ := List.mem_map.1 hu
  rfl

theorem add_at (g j : Nat) : (⟨g, 0, none⟩ : Addr).add j = ⟨g, j, none⟩ := by
  by_cases h : j = 0
  · subst h; rfl
  · simp [Addr.add, h]

/-- One new cell, laid in a block of its own, is where the append looks for it. -/
theorem one_new (w : World) (x : Value) (t : TypeId) : ∀ j u, ([x] : List Value)[j]? = some u → (w.alloc (.cells #[x] t)).cell? ((⟨w.heap.size, 0, none⟩ : Addr).add j) = some u := by
  intro j u hj
  match j, hj with
  | 0, hj =>
    simp at hj
    subst hj
    simp [Addr.add]
theorem one_cell (k : IntKind) (n : Int) : ∀ u ∈ ([.int k n] : List Value), u.oneCell' = true := by
  intro u hu
  simp at hu
  subst hu
  rfl

/-- 'string(b)' of a row of the call's own (nil too). -/
theorem conv_own {P : Program} {w : World} {base n : Nat} {src dst e : TypeId} {v : Value} {l : List UInt8} (hs : P.underlying src = some (.slice e)) (he : P.underlying e = some (.int .u8)) (hd : P.underlying dst = some .string)
    (h : w.ownsRow base e 1 v n (bys l)) : (convert src dst v).run P w = .ok (.string ⟨l.toArray⟩) w := by
  have hl : l.length = n := by have := h.1; rw [bys_len] at this; omega
  rcases h.2 with ⟨rfl, h0⟩ | ⟨g, cap, cur, rfl, _⟩
  · have : l = [] := List.eq_nil_of_length_eq_zero (by omega)
    subst this
    rw [run_convert_bytes_string w src dst e none 0 0 hs he hd]
    rfl
  · subst hl
    refine run_convert_bytes_back w src dst e ⟨g, 0, none⟩ cap l hs he hd fun j hj => ?_
    have hc := h.cells (g := g) rfl j _ (bys_get l j hj)
    exact hc

/-- One call behind the other. -/
theorem chain {w w1 w2 : World} (h : Below w.heap.size w w1) (k : Below w1.heap.size w1 w2) : Below w.heap.size w w2 := h.trans (k.mono h.size)
theorem chainN {w w1 : World} (h : Below w.heap.size w w1) (n : Nat) : Below w.heap.size w (w1.drewN n) := ⟨h.os, h.tape, h.output, h.size, h.block⟩

/-- Block g holds the bytes l from its head on, and they may be written. -/
def BAt (w : World) (g : Nat) (l : List UInt8) : Prop := ∀ j (h : j < l.length), w.cell? ⟨g, j, none⟩ = some (.int .u8 (l[j].toNat : Int)) ∧ w.frozen? ⟨g, j, none⟩ = false
theorem BAt.drew {w : World} {g : Nat} {l : List UInt8} (h : BAt w g l) : BAt w.drew g l := h
theorem BAt.drewN {w : World} {g : Nat} {l : List UInt8} (h : BAt w g l) (n : Nat) : BAt (w.drewN n) g l := h
theorem BAt.below {w w1 : World} {g B : Nat} {l : List UInt8} (h : BAt w g l) (k : Below B w w1) (hg : g < B) : BAt w1 g l := fun j hj => by
  have := h j hj
  exact ⟨(k.cell (p := ⟨g, j, none⟩) hg).trans this.1, (k.frozen (p := ⟨g, j, none⟩) hg).trans this.2⟩
theorem BAt.set {w : World} {g : Nat} {l : List UInt8} (h : BAt w g l) {k : Nat} (hk : k < l.length) (c : UInt8) : BAt (w.setCell ⟨g, k, none⟩ (.int .u8 (c.toNat : Int))) g (l.set k c) := fun j hj => by
  have hj' : j < l.length := by simpa using hj
  refine ⟨?_, (World.frozen?_setCell _ _ _ _).trans (h j hj').2⟩
  by_cases e : j = k
  · subst e
    rw [World.cell?_setCell_same _ _ _ (h j hj').1, List.getElem_set_self]
  · rw [World.cell?_setCell_other _ _ _ _ (fun x => e (by injection x with _ x; exact x.symm)), (h j hj').1, List.getElem_set_ne (fun x => e x.symm)]
theorem BAt.conv {P : Program} {w : World} {g cap n : Nat} {src dst e : TypeId} {l : List UInt8} (h : BAt w g l) (hn : l.length = n) (hs : P.underlying src = some (.slice e)) (he : P.underlying e = some (.int .u8)) (hd : P.underlying dst = some .string) :
    (convert src dst (.slice (some ⟨g, 0, none⟩) n cap)).run P w = .ok (.string ⟨l.toArray⟩) w := by
  subst hn
  exact run_convert_bytes_back w src dst e ⟨g, 0, none⟩ cap l hs he hd fun j hj => by rw [add_at]; exact (h j hj).1
/-- '[]byte(s)': a new block that holds the bytes. -/
theorem bytes_of {P : Program} (w : World) {src dst e : TypeId} (s : ByteArray) (hs : P.underlying src = some .string) (hd : P.underlying dst = some (.slice e)) (he : P.underlying e = some (.int .u8)) :
    ∃ (C : Array Value) (cap : Nat), s.size ≤ cap ∧ (convert src dst (.string s)).run P w = .ok (.slice (some ⟨w.heap.size, 0, none⟩) s.size cap) (w.drew.alloc (.cells C e (cap, cap + 1))) ∧
      BAt (w.alloc (.cells C e (cap, cap + 1))) w.heap.size s.data.toList := by
  have hcap := grownCap_ge w s.size 0 e
  have hrun := run_bytes_of_string w src dst e s hs hd he
  have hCs : (bytesRow s (grownCap w s.size 0 e)).size = grownCap w s.size 0 e := by simp [bytesRow]; omega
  rw [hCs] at hrun
  refine ⟨_, _, hcap, hrun, fun j hj => ⟨?_, ?_⟩⟩
  · have hj' : j < s.data.size := by simpa using hj
    rw [World.cell?_alloc_mark, bytesRow_at s _ j hj']
    rfl
  · rw [World.frozen?_alloc_mark]
    have hj' : j < s.size := by simpa using hj
    simp
    omega

/-- Block g holds these values, a cell each, from its head on, and they may be written. -/
def VAt (w : World) (g : Nat) (l : List Value) : Prop := ∀ j (h : j < l.length), w.cell? ⟨g, j, none⟩ = some l[j] ∧ w.frozen? ⟨g, j, none⟩ = false
theorem VAt.drew {w : World} {g : Nat} {l : List Value} (h : VAt w g l) : VAt w.drew g l := h
theorem VAt.drewN {w : World} {g : Nat} {l : List Value} (h : VAt w g l) (n : Nat) : VAt (w.drewN n) g l := h
theorem VAt.below {w w1 : World} {g B : Nat} {l : List Value} (h : VAt w g l) (k : Below B w w1) (hg : g < B) : VAt w1 g l := fun j hj => by
  have := h j hj
  exact ⟨(k.cell (p := ⟨g, j, none⟩) hg).trans this.1, (k.frozen (p := ⟨g, j, none⟩) hg).trans this.2⟩
theorem VAt.set {w : World} {g : Nat} {l : List Value} (h : VAt w g l) {k : Nat} (hk : k < l.length) (u : Value) : VAt (w.setCell ⟨g, k, none⟩ u) g (l.set k u) := fun j hj => by
  have hj' : j < l.length := by simpa using hj
  refine ⟨?_, (World.frozen?_setCell _ _ _ _).trans (h j hj').2⟩
  by_cases e : j = k
  · subst e
    rw [World.cell?_setCell_same _ _ _ (h j hj').1, List.getElem_set_self]
  · rw [World.cell?_setCell_other _ _ _ _ (fun x => e (by injection x with _ x; exact x.symm)), (h j hj').1, List.getElem_set_ne (fun x => e x.symm)]
theorem VAt.far {w : World} {g g' k : Nat} {l : List Value} (h : VAt w g l) (hne : g' ≠ g) (u : Value) : VAt (w.setCell ⟨g', k, none⟩ u) g l := fun j hj =>
  ⟨(World.cell?_setCell_other _ _ _ _ (fun x => hne (by injection x))).trans (h j hj).1, (World.frozen?_setCell _ _ _ _).trans (h j hj).2⟩
theorem BAt.far {w : World} {g g' k : Nat} {l : List UInt8} (h : BAt w g l) (hne : g' ≠ g) (u : Value) : BAt (w.setCell ⟨g', k, none⟩ u) g l := fun j hj =>
  ⟨(World.cell?_setCell_other _ _ _ _ (fun x => hne (by injection x))).trans (h j hj).1, (World.frozen?_setCell _ _ _ _).trans (h j hj).2⟩
theorem VAt.of_own {w : World} {base n cap g : Nat} {e : TypeId} {xs : List Value} (h : w.ownsRow base e 1 (.slice (some ⟨g, 0, none⟩) n cap) n xs) : VAt w g xs := fun j hj => by
  have hl := h.1
  refine ⟨?_, h.frozenAt j⟩
  rw [h.cellAt j (by omega), List.getElem?_eq_getElem hj]

/-- A row that a call has made lies there behind the next call. -/
theorem own_below {w w1 : World} {base e size n : Nat} {v : Value} {xs : List Value} (h : w.ownsRow base e size v n xs) (k : Below w.heap.size w w1) : w1.ownsRow base e size v n xs := by
  refine ⟨h.1, ?_⟩
  rcases h.2 with h0 | ⟨g, cap, cur, rfl, hg, hh, h1, h2, h3, h4⟩
  · exact .inl h0
  · have hlt := (h.lt g rfl).2
    exact .inr ⟨g, cap, cur, rfl, hg, (k.block g hlt).trans hh, h1, h2, h3, h4⟩

/-- What a walk is told of a slice of integers that came in. -/
def IsRow (k : IntKind) (w : World) (a : Option Addr) (len cap : Nat) (zs : List Int) : Prop :=
  (a = none ∧ len = 0 ∧ cap = 0 ∧ zs = []) ∨
  ∃ x, a = some x ∧ len ≤ cap ∧ cap ≤ maxLen ∧ zs.length = cap ∧ (∀ i, i < zs.length → w.cell? (x.add i) = some (.int k (zs.getD i 0))) ∧ ∀ n ∈ zs, (Lit.int k n).wf = true

/-- Numbers as cells. -/
def nats (l : List Nat) : List Value := l.map fun (i : Nat) => .int .i64 (i : Int)
theorem nats_len (l : List Nat) : (nats l).length = l.length := by simp [nats]
theorem nats_snoc (l : List Nat) (b : Nat) : nats (l ++ [b]) = nats l ++ [.int .i64 (b : Int)] := by simp [nats]
theorem nats_get (l : List Nat) (j : Nat) (h : j < l.length) : (nats l)[j]? = some (.int .i64 (l[j] : Int)) := by
  simp [nats, List.getElem?_eq_getElem h]

/-- An empty slice literal: nothing is owned yet. -/
theorem empty_at {w : World} {base size g : Nat} {e : TypeId} (hg : w.heap.size = g) (hb : base ≤ g) : (w.alloc (.cells #[] e)).ownsRow base e size (.slice (some ⟨g, 0, none⟩) 0 0) 0 [] := by
  subst hg
  exact World.ownsRow_made w #[] 0 hb (by decide) (by simp)

/-- Two rows of different element types never share a block. -/
theorem own_apart {w : World} {b b' e e' s s' n n' : Nat} {v v' : Value} {xs xs' : List Value} (h : w.ownsRow b e s v n xs) (h' : w.ownsRow b' e' s' v' n' xs') (hne : e ≠ e') : v.ownBlock = none ∨ v.ownBlock ≠ v'.ownBlock := by
  rcases h.2 with ⟨rfl, _⟩ | ⟨g, cap, cur, rfl, _, hh, _⟩
  · exact .inl rfl
  · right
    rcases h'.2 with ⟨rfl, _⟩ | ⟨g', cap', cur', rfl, _, hh', _⟩
    · intro e; cases e
    · intro e
      have e : g = g' := by injection e
      subst e
      rw [hh] at hh'
      injection hh' with hh'
      injection hh' with _ ht
      exact hne ht

/-- What a string made of a list holds. -/
theorem str_list (l : List UInt8) : (⟨l.toArray⟩ : ByteArray).data.toList = l := rfl
theorem str_size (l : List UInt8) : (⟨l.toArray⟩ : ByteArray).size = l.length := rfl
theorem str_back (s : ByteArray) : (⟨s.data.toList.toArray⟩ : ByteArray) = s := rfl
theorem str_toList (s : ByteArray) : s.toList = s.data.toList := ByteArray.toList_eq s
theorem ret_string {a b : List UInt8} (h : a = b) : Ending.returned (.string ⟨a.toArray⟩) = .returned (.string ⟨b.toArray⟩) := by rw [h]
/-- Strings as cells. -/
def strV (l : List UInt8) : Value := .string ⟨l.toArray⟩
def strVs (l : List (List UInt8)) : List Value := l.map strV
theorem strVs_len (l : List (List UInt8)) : (strVs l).length = l.length := by simp [strVs]
theorem strVs_snoc (l : List (List UInt8)) (x : List UInt8) : strVs (l ++ [x]) = strVs l ++ [strV x] := by simp [strVs]
theorem one_str (x : ByteArray) : ∀ u ∈ ([.string x] : List Value), u.oneCell' = true := by
  intro u hu
  simp at hu
  subst hu
  rfl
/-- The slice at A reads as these values (nil, too, where there are none); it lies below the heap's end. -/
def Rd (w : World) (A : Option Addr) (vs : List Value) : Prop := ∀ j (h : j < vs.length), ∃ b o : Nat, A = some ⟨b, o, none⟩ ∧ b < w.heap.size ∧ w.cell? ⟨b, o + j, none⟩ = some vs[j]
theorem Rd.drew {w : World} {A : Option Addr} {vs : List Value} (h : Rd w A vs) : Rd w.drew A vs := h
theorem Rd.drewN {w : World} {A : Option Addr} {vs : List Value} (h : Rd w A vs) (n : Nat) : Rd (w.drewN n) A vs := h
theorem Rd.below {w w1 : World} {A : Option Addr} {vs : List Value} (h : Rd w A vs) (k : Below w.heap.size w w1) : Rd w1 A vs := fun j hj => by
  obtain ⟨b, o, e, hb, hc⟩ := h j hj
  exact ⟨b, o, e, Nat.lt_of_lt_of_le hb k.size, (k.cell (p := ⟨b, o + j, none⟩) hb).trans hc⟩
theorem Rd.of_own {w : World} {base n cap : Nat} {e : TypeId} {A : Option Addr} {xs : List Value} (h : w.ownsRow base e 1 (.slice A n cap) n xs) : Rd w A xs := fun j hj => by
  have hl := h.1
  rcases h.2 with ⟨h0, h1⟩ | ⟨g, cap', cur, hv, _⟩
  · omega
  · injection hv with hA _ _
    subst hA
    exact ⟨g, 0, rfl, (h.lt g rfl).2, by rw [Nat.zero_add, h.cellAt j (by omega), List.getElem?_eq_getElem hj]⟩
theorem own_slice {w : World} {base n : Nat} {e : TypeId} {v : Value} {xs : List Value} (h : w.ownsRow base e 1 v n xs) : ∃ A cap, v = .slice A n cap ∧ n ≤ cap ∧ cap ≤ maxLen := by
  rcases h.2 with ⟨rfl, h0⟩ | ⟨g, cap, cur, rfl, _, _, hn, hm, _⟩
  · subst h0; exact ⟨none, 0, rfl, Nat.le_refl _, by decide⟩
  · exact ⟨_, cap, rfl, hn, hm⟩

/-- What a walk is told of a slice of strings that came in: its strings l; nil has no room. -/
structure IsStrs (w : World) (A : Option Addr) (n c : Nat) (l : List (List UInt8)) : Prop where
  hlen : l.length = n
  hle : n ≤ c
  hcap : c ≤ 9223372036854775807
  hnil : A = none → c = 0
  hrd : Rd w A (strVs l)
theorem IsStrs.none_ (w : World) : IsStrs w none 0 0 [] := ⟨rfl, Nat.le_refl _, by decide, fun _ => rfl, fun j h => by simp [strVs] at h⟩
theorem IsStrs.of_cells {w : World} {a : Addr} {n c : Nat} {ss : List ByteArray} (h1 : n ≤ c) (h2 : c ≤ maxLen) (h3 : ss.length = c) (h4 : ∀ i, i < ss.length → w.cell? (a.add i) = some (.string (ss.getD i ByteArray.empty))) :
    IsStrs w (some a) n c ((ss.take n).map fun s => s.data.toList) := by
  have hl : ((ss.take n).map fun s => s.data.toList).length = n := by simp; omega
  refine ⟨hl, h1, h2, (fun h => by cases h), fun j hj => ?_⟩
  rw [strVs_len, hl] at hj
  obtain ⟨b, o, spot⟩ := a
  have h0 := h4 0 (by omega)
  have hspot : spot = none := by simpa [Addr.add] using World.cell?_spot h0
  subst hspot
  refine ⟨b, o, rfl, World.block_lt_of_cell? _ _ h0, ?_⟩
  have hc := h4 j (by omega)
  have e : (⟨b, o, none⟩ : Addr).add j = ⟨b, o + j, none⟩ := by
    by_cases h : j = 0
    · subst h; rfl
    · simp [Addr.add, h]
  rw [e] at hc
  rw [hc, List.getD_eq_getElem?_getD, List.getElem?_eq_getElem (by omega)]
  simp only [strVs, strV, List.getElem_map, List.getElem_take]
  rfl
/-- The letters of a list of strings, one more for each. -/
def bulkS (l : List (List UInt8)) : Nat := (l.map fun x => x.length + 1).sum

/-- 'append(out, xs...)', out a row of the call's own, xs whatever can be read: nil, empty or not. -/
theorem wpList_append_rd {P : Program} {w : World} {ops : Array Oper} {rest : List Oper} {o : Oper} {a : Act} {Q : Exit → Act → World → Prop} (hgd : o.guard = none) (s x : Operand) (t : TypeId)
    (ho : o.op = .call { callee := .builtin .append, args := #[s, x], argTypes := #[t, t] })
    (base : Nat) (e : TypeId) (i : TypeInfo) (z : Value) (bytes : Nat) (ht : P.underlying t = some (.slice e)) (hi : P.info? e = some i) (hz : i.zero = some z)
    (hsize : i.size = 1) (hby : i.bytes = bytes) (hzs : z.cells.size = 1)
    (v : Value) (n : Nat) (xs : List Value) (hs : a.eval s = v) (hown : w.ownsRow base e 1 v n xs)
    (A : Option Addr) (m c : Nat) (news : List Value) (hx : a.eval x = .slice A m c) (hr : Rd w A news) (hm : news.length = m) (hc : A = none → c = 0) (h1 : ∀ u ∈ news, u.oneCell' = true)
    (h63 : n + m ≤ maxLen) (hbytes : (n + m) * bytes ≤ 140737488355328) (hbase : base ≤ w.heap.size)
    (h : ∀ v' w', w'.ownsRow base e 1 v' (n + m) (xs ++ news) → w.grownBy w' v.ownBlock → wpList P ops Q rest (a.put o.dst v') w') : wpList P ops Q (o :: rest) a w := by
  rcases A with _ | ad
  · have hm0 : m = 0 := by
      rcases Nat.eq_zero_or_pos m with h0 | h0
      · exact h0
      · obtain ⟨b, o, e, _⟩ := hr 0 (by omega)
        cases e
    subst hm0
    have hn : news = [] := List.eq_nil_of_length_eq_zero hm
    subst hn
    have hc0 := hc rfl
    subst hc0
    refine wpList_append_own_none hgd s x t ho base e i 1 ht hi v n xs hs hown hx ?_
    exact h v w (by simpa using hown) (World.grownBy.refl w _)
  · refine wpList_append_own w hgd s x t ho base e i z 1 bytes ht hi hz hsize hby hzs (by decide) v n xs hs hown ad m c news hx (by omega) (fun j u hj => ?_) h1 h63 hbytes hbase fun v' w' h2 h3 _ => h v' w' h2 h3
    have hj' : j < news.length := (List.getElem?_eq_some_iff.1 hj).1
    obtain ⟨b, o, e, _, hcell⟩ := hr j hj'
    injection e with e
    subst e
    rw [List.getElem?_eq_getElem hj'] at hj
    injection hj with hj
    rw [← hj, ← hcell]
    congr 1
    by_cases h0 : j = 0
    · subst h0; rfl
    · simp [Addr.add, h0]
theorem strVs_one (l : List (List UInt8)) : ∀ u ∈ strVs l, u.oneCell' = true := by
  intro u hu
  obtain ⟨x, _, rfl⟩ := List.mem_map.1 hu
  rfl
theorem strVs_append (l m : List (List UInt8)) : strVs (l ++ m) = strVs l ++ strVs m := by simp [strVs]

/-- Results, by their numbers. -/
theorem ret_i {k : IntKind} {a b : Int} (h : a = b) : Ending.returned (.int k a) = .returned (.int k b) := by rw [h]
theorem ret_bool {a b : Bool} (h : a = b) : Ending.returned (.bool a) = .returned (.bool b) := by rw [h]
theorem ret_ib {x x' : Int} {y y' : Bool} (h : x = x') (h' : y = y') : Ending.returned (.tuple #[.int .i64 x, .bool y]) = .returned (.tuple #[.int .i64 x', .bool y']) := by rw [h, h']
theorem ret_ii {x y x' y' : Int} (h : x = x') (h' : y = y') : Ending.returned (.tuple #[.int .i64 x, .int .i64 y]) = .returned (.tuple #[.int .i64 x', .int .i64 y']) := by rw [h, h']
theorem ret_iii {x y z x' y' z' : Int} (h : x = x') (h' : y = y') (h'' : z = z') : Ending.returned (.tuple #[.int .i64 x, .int .i64 y, .int .i64 z]) = .returned (.tuple #[.int .i64 x', .int .i64 y', .int .i64 z']) := by rw [h, h', h'']
theorem ret_sii {x x' : List UInt8} {y z y' z' : Int} (h : x = x') (h' : y = y') (h'' : z = z') : Ending.returned (.tuple #[.string ⟨x.toArray⟩, .int .i64 y, .int .i64 z]) = .returned (.tuple #[.string ⟨x'.toArray⟩, .int .i64 y', .int .i64 z']) := by rw [h, h', h'']
/-- What a walk is told of a slice of booleans that came in. -/
def IsBoolRow (w : World) (a : Option Addr) (len cap : Nat) (bl : List Bool) : Prop :=
  (a = none ∧ len = 0 ∧ cap = 0 ∧ bl = []) ∨
  ∃ x, a = some x ∧ len ≤ cap ∧ cap ≤ maxLen ∧ bl.length = cap ∧ ∀ i, i < bl.length → w.cell? (x.add i) = some (.bool (bl.getD i false))
theorem own_drewN {w : World} {base e size n : Nat} {v : Value} {xs : List Value} (h : w.ownsRow base e size v n xs) (m : Nat) : (w.drewN m).ownsRow base e size v n xs := h

end Go.Proofs.YtpbcncfbfbghcaaGreatDoor.Mem
namespace Go.Proofs.YtpbcncfbfbghcaaGreatDoor.L19
open Mem
set_option linter.unusedVariables false
set_option linter.unusedSimpArgs false

/-! ### Bytes -/
def isDg (c : UInt8) : Bool := decide (48 ≤ c.toNat) && decide (c.toNat ≤ 57)
def isLt (c : UInt8) : Bool := decide (97 ≤ c.toNat) && decide (c.toNat ≤ 122)
def isUp (c : UInt8) : Bool := decide (65 ≤ c.toNat) && decide (c.toNat ≤ 90)
def isLa (c : UInt8) : Bool := isLt c || isUp c
def isNm (c : UInt8) : Bool := isLt c || isDg c || c == 95
def isBl (c : UInt8) : Bool := c == 32 || c == 9 || c == 10
def isLn (c : UInt8) : Bool := !(c == 10)
def isAl (c : UInt8) : Bool := isLa c || c == 95
def isQt (c : UInt8) : Bool := decide (32 ≤ c.toNat) && decide (c.toNat ≤ 126) && !(c == 39) && !(c == 92)
theorem all8 {P : UInt8 → Bool} (h : (List.range 256).all (fun n => P (UInt8.ofNat n)) = true) (c : UInt8) : P c = true := by
  have := (List.all_eq_true.1 h) c.toNat (List.mem_range.2 c.toNat_lt)
  simpa using this
theorem imp8 {P Q : UInt8 → Bool} (h : (List.range 256).all (fun n => !P (UInt8.ofNat n) || Q (UInt8.ofNat n)) = true) {c : UInt8} (hc : P c = true) : Q c = true := by
  have := all8 (P := fun c => !P c || Q c) h c
  simpa [hc] using this
theorem not8 {P Q : UInt8 → Bool} (h : (List.range 256).all (fun n => !P (UInt8.ofNat n) || !Q (UInt8.ofNat n)) = true) {c : UInt8} (hc : P c = true) : Q c = false := by
  have := all8 (P := fun c => !P c || !Q c) h c
  simpa [hc] using this

/-! ### How many bytes at the beginning have a property -/
def pre (p : UInt8 → Bool) (l : List UInt8) : Nat := (l.takeWhile p).length
theorem pre_at {p : UInt8 → Bool} {l : List UInt8} {k : Nat} (hk : k < l.length) (h : ∀ c ∈ l.take k, p c = true) (hn : p l[k] = false) : pre p l = k := by
  have e : l = l.take k ++ l[k] :: l.drop (k + 1) := by rw [List.getElem_cons_drop, List.take_append_drop]
  unfold pre
  rw [e, List.takeWhile_append_of_pos h, List.takeWhile_cons_of_neg (by rw [hn]; simp), List.append_nil, List.length_take]
  omega
theorem pre_all {p : UInt8 → Bool} {l : List UInt8} (h : ∀ c ∈ l, p c = true) : pre p l = l.length := by
  unfold pre
  have : l.takeWhile p = l := by
    have := List.takeWhile_append_of_pos (l₂ := []) h
    simpa using this
  rw [this]
theorem take_pre (p : UInt8 → Bool) (l : List UInt8) : l.take (pre p l) = l.takeWhile p := by
  unfold pre
  conv => lhs; rw [← List.takeWhile_append_dropWhile (p := p) (l := l)]
  rw [List.take_left']
  rw [List.takeWhile_append_dropWhile]
theorem drop_pre (p : UInt8 → Bool) (l : List UInt8) : l.drop (pre p l) = l.dropWhile p := by
  unfold pre
  conv => lhs; rw [← List.takeWhile_append_dropWhile (p := p) (l := l)]
  rw [List.drop_left']
  rw [List.takeWhile_append_dropWhile]
theorem while_mem {p : UInt8 → Bool} : ∀ {l : List UInt8}, ∀ c ∈ l.takeWhile p, p c = true := by
  intro l
  induction l with
  | nil => simp
  | cons d r ih =>
    intro c hc
    rw [List.takeWhile_cons] at hc
    split at hc
    · rcases List.mem_cons.1 hc with rfl | hc
      · assumption
      · exact ih c hc
    · cases hc
theorem while_head {p : UInt8 → Bool} : ∀ {l : List UInt8}, ∀ c ∈ (l.dropWhile p).head?, p c = false := by
  intro l
  induction l with
  | nil => simp
  | cons d r ih =>
    intro c hc
    rw [List.dropWhile_cons] at hc
    split at hc
    · exact ih c hc
    · simp at hc
      subst hc
      simpa using ‹¬ p d = true›
theorem pre_le (p : UInt8 → Bool) (l : List UInt8) : pre p l ≤ l.length := (List.takeWhile_sublist _).length_le
theorem pre_pos {p : UInt8 → Bool} {c : UInt8} {r : List UInt8} (h : p c = true) : 1 ≤ pre p (c :: r) := by
  unfold pre
  rw [List.takeWhile_cons_of_pos h]
  simp
theorem pre_zero {p : UInt8 → Bool} {c : UInt8} {r : List UInt8} (h : p c = false) : pre p (c :: r) = 0 := by
  unfold pre
  rw [List.takeWhile_cons_of_neg (by simp [h])]
  rfl
theorem drop_while_le (p : UInt8 → Bool) (l : List UInt8) : (l.dropWhile p).length ≤ l.length := (List.dropWhile_sublist _).length_le
theorem pre_app {p : UInt8 → Bool} {l : List UInt8} (h : ∀ c ∈ l, p c = true) (m : List UInt8) : pre p (l ++ m) = l.length + pre p m := by
  unfold pre
  rw [List.takeWhile_append_of_pos h, List.length_append]
/-- A byte without the property ends it. -/
theorem pre_sep {p : UInt8 → Bool} {c : UInt8} (hc : p c = false) (b : List UInt8) : ∀ l : List UInt8, pre p (l ++ c :: b) = pre p l
  | [] => by rw [List.nil_append, pre_zero hc]; rfl
  | d :: r => by
    have ih := pre_sep hc b r
    unfold pre at ih ⊢
    rw [List.cons_append, List.takeWhile_cons, List.takeWhile_cons]
    split
    · rw [List.length_cons, List.length_cons, ih]
    · rfl

/-! ### The token at the beginning of a text -/
structure F where
  k : Nat
  T : List UInt8
  m : Nat
  e : Nat
deriving DecidableEq
def bad (e : Nat) : F := ⟨0, [], 0, e⟩
def good (k : Nat) (T : List UInt8) (m : Nat) : F := ⟨k, T, m, 0⟩
def nval (l : List UInt8) : Nat := l.foldl (fun a c => 10 * a + (c.toNat - 48)) 0
/-- Without leading zeros. -/
def val0 (l : List UInt8) : List UInt8 := if l.dropWhile (· == 48) = [] then [48] else l.dropWhile (· == 48)
def num (l : List UInt8) : F :=
  if ((l.drop (pre isDg l)).head?.map isAl).getD false then bad 3
  else if 4294967295 < nval (val0 (l.take (pre isDg l))) then bad 2
  else good 1 (val0 (l.take (pre isDg l))) (pre isDg l)
def kws : List (List UInt8) := [[97, 114, 114, 97, 121], [101, 108, 115, 101], [102, 117, 110, 99], [104, 97, 108, 116], [105, 102], [114, 101, 116, 117, 114, 110], [118, 97, 114], [119, 104, 105, 108, 101]]
def wkind (T : List UInt8) : Nat := if kws.contains T then 3 else 2
def wrd (l : List UInt8) : F :=
  if 24 < pre isNm l then bad 7 else good (wkind (l.take (pre isNm l))) (l.take (pre isNm l)) (pre isNm l)
def chr : List UInt8 → F
  | _ :: c :: d :: _ => if isQt c && d == 39 then good 1 (Lib.decDigits c.toNat) 3 else bad 3
  | _ => bad 3
def two : List (List UInt8) := [[38, 38], [124, 124], [61, 61], [33, 61], [60, 61], [62, 61]]
def ones : List UInt8 := [60, 62, 94, 43, 45, 42, 47, 37, 33, 61, 40, 41, 123, 125, 91, 93, 44, 59]
def sgl (l : List UInt8) : Nat := if two.contains (l.take 2) then 2 else if (l.head?.map ones.contains).getD false then 1 else 0
def sgn (l : List UInt8) : F := if sgl l = 0 then bad 3 else good 4 (l.take (sgl l)) (sgl l)
def fst : List UInt8 → F
  | [] => bad 3
  | c :: r => if isDg c then num (c :: r) else if isLt c then wrd (c :: r) else if c == 39 then chr (c :: r) else sgn (c :: r)

/-! ### The tokens of a text -/
/-- Kind, text, line. -/
abbrev Tok := Nat × List UInt8 × Nat
/-- Tokens, the line of the error, the error (or 0). -/
abbrev Res := List Tok × Nat × Nat
def addL (l : List Tok) (r : Res) : Res := (l ++ r.1, r.2)
theorem addL_nil (r : Res) : addL [] r = r := rfl
theorem addL_addL (l m : List Tok) (r : Res) : addL l (addL m r) = addL (l ++ m) r := by unfold addL; rw [List.append_assoc]
def lx : Nat → Nat → List UInt8 → Res
  | 0, _, _ => ([], 0, 0)
  | _ + 1, _, [] => ([], 0, 0)
  | f + 1, n, c :: r =>
    if c = 10 then lx f (n + 1) r
    else if c = 32 ∨ c = 9 then lx f n r
    else if c = 47 ∧ r.head? = some 47 then lx f n (r.dropWhile isLn)
    else if (fst (c :: r)).e = 0 then addL [((fst (c :: r)).k, (fst (c :: r)).T, n)] (lx f n ((c :: r).drop (fst (c :: r)).m))
    else ([], n, (fst (c :: r)).e)
def tk (n : Nat) (l : List UInt8) : Res := lx l.length n l

theorem fst_len {l : List UInt8} (h : (fst l).e = 0) : 1 ≤ (fst l).m ∧ (fst l).m ≤ l.length := by
  cases l with
  | nil => simp [fst, bad] at h
  | cons c r =>
    unfold fst at h ⊢
    dsimp only at h ⊢
    by_cases h1 : isDg c = true
    · rw [if_pos h1] at h ⊢
      unfold num at h ⊢
      split at h
      · simp [bad] at h
      · rename_i hA
        rw [if_neg hA]
        split at h
        · simp [bad] at h
        · rename_i hB
          rw [if_neg hB]
          exact ⟨pre_pos h1, pre_le _ _⟩
    rw [if_neg h1] at h ⊢
    by_cases h2 : isLt c = true
    · rw [if_pos h2] at h ⊢
      unfold wrd at h ⊢
      split at h
      · simp [bad] at h
      · rename_i hA
        rw [if_neg hA]
        exact ⟨pre_pos (by unfold isNm; rw [h2]; rfl), pre_le _ _⟩
    rw [if_neg h2] at h ⊢
    by_cases h3 : (c == 39) = true
    · rw [if_pos h3] at h ⊢
      match r, h with
      | [], h => simp [chr, bad] at h
      | [_], h => simp [chr, bad] at h
      | x :: y :: z, h =>
        unfold chr at h ⊢
        dsimp only at h ⊢
        split at h
        · rename_i hA
          rw [if_pos hA]
          simp [good]
        · simp [bad] at h
    · rw [if_neg h3] at h ⊢
      unfold sgn at h ⊢
      split at h
      · simp [bad] at h
      · rename_i hA
        rw [if_neg hA]
        refine ⟨by unfold good; dsimp only; omega, ?_⟩
        unfold good sgl
        dsimp only
        split
        · rename_i hB
          have : ∀ x ∈ two, x.length = 2 := by decide
          have h2l := this ((c :: r).take 2) (by simpa using hB)
          have := List.length_take_le' 2 (c :: r)
          omega
        · split <;> simp
theorem lx_len : ∀ (f : Nat) (l : List UInt8) (n : Nat), l.length ≤ f → lx f n l = tk n l := by
  intro f
  induction f using Nat.strongRecOn with
  | ind f ih =>
    intro l n h
    cases l with
    | nil => cases f <;> rfl
    | cons c r =>
      cases f with
      | zero => simp at h
      | succ f =>
        have h : r.length ≤ f := by simpa using h
        have two (x : Nat) (m : List UInt8) (hm : m.length ≤ r.length) : lx f x m = lx r.length x m := by
          rw [ih f (by omega) m x (by omega), ih r.length (by omega) m x hm]
        unfold tk
        rw [List.length_cons, lx, lx, two _ r (Nat.le_refl _), two _ r (Nat.le_refl _), two _ _ (drop_while_le _ _)]
        by_cases he : (fst (c :: r)).e = 0
        · have := (fst_len he).1
          rw [two _ ((c :: r).drop (fst (c :: r)).m) (by rw [List.length_drop, List.length_cons]; omega)]
        · rw [if_neg he, if_neg he]
theorem tk_nil (n : Nat) : tk n [] = ([], 0, 0) := rfl
theorem tk_ten (n : Nat) (r : List UInt8) : tk n (10 :: r) = tk (n + 1) r := by
  unfold tk; rw [List.length_cons, lx, if_pos rfl]
theorem tk_bl (n : Nat) {c : UInt8} (r : List UInt8) (h : c = 32 ∨ c = 9) : tk n (c :: r) = tk n r := by
  unfold tk; rw [List.length_cons, lx, if_neg (by rintro rfl; simp at h), if_pos h]
theorem tk_cm (n : Nat) (r : List UInt8) (h : r.head? = some 47) : tk n (47 :: r) = tk n (r.dropWhile isLn) := by
  conv => lhs; unfold tk
  rw [List.length_cons, lx, if_neg (by decide), if_neg (by decide), if_pos ⟨rfl, h⟩]
  exact lx_len _ _ _ (drop_while_le _ _)
/-- Neither white space nor a comment begins here. -/
def Sta (c : UInt8) (r : List UInt8) : Prop := c ≠ 10 ∧ c ≠ 32 ∧ c ≠ 9 ∧ ¬ (c = 47 ∧ r.head? = some 47)
theorem tk_tok (n : Nat) {c : UInt8} {r : List UInt8} (h : Sta c r) (he : (fst (c :: r)).e = 0) : tk n (c :: r) = addL [((fst (c :: r)).k, (fst (c :: r)).T, n)] (tk n ((c :: r).drop (fst (c :: r)).m)) := by
  conv => lhs; unfold tk
  rw [List.length_cons, lx, if_neg h.1, if_neg (by rintro (e | e); exact h.2.1 e; exact h.2.2.1 e), if_neg h.2.2.2, if_pos he]
  rw [lx_len _ _ _ (by rw [List.length_drop, List.length_cons]; have := (fst_len he).1; omega)]
theorem tk_bad (n : Nat) {c : UInt8} {r : List UInt8} (h : Sta c r) (he : (fst (c :: r)).e ≠ 0) : tk n (c :: r) = ([], n, (fst (c :: r)).e) := by
  unfold tk
  rw [List.length_cons, lx, if_neg h.1, if_neg (by rintro (e | e); exact h.2.1 e; exact h.2.2.1 e), if_neg h.2.2.2, if_neg he]
/-- An induction over what the lexer does. -/
theorem lx_ind {P : List UInt8 → Prop} (h0 : P []) (h1 : ∀ r, P r → P (10 :: r)) (h2 : ∀ c r, (c = 32 ∨ c = 9) → P r → P (c :: r)) (h3 : ∀ r, r.head? = some 47 → P (r.dropWhile isLn) → P (47 :: r))
    (h4 : ∀ c r, Sta c r → (fst (c :: r)).e = 0 → P ((c :: r).drop (fst (c :: r)).m) → P (c :: r)) (h5 : ∀ c r, Sta c r → (fst (c :: r)).e ≠ 0 → P (c :: r)) : ∀ l, P l := by
  have main : ∀ (n : Nat) (l : List UInt8), l.length ≤ n → P l := by
    intro n
    induction n with
    | zero =>
      intro l hl
      obtain rfl : l = [] := List.eq_nil_of_length_eq_zero (by omega)
      exact h0
    | succ n ih =>
      intro l hl
      cases l with
      | nil => exact h0
      | cons c r =>
        have hl : r.length ≤ n := by rw [List.length_cons] at hl; omega
        have hw : (r.dropWhile isLn).length ≤ n := Nat.le_trans (drop_while_le _ _) hl
        have ihr := ih r hl
        have ihw := ih _ hw
        by_cases e1 : c = 10
        · subst e1; exact h1 r ihr
        by_cases e2 : c = 32 ∨ c = 9
        · exact h2 c r e2 ihr
        by_cases e3 : c = 47 ∧ r.head? = some 47
        · obtain ⟨rfl, e3⟩ := e3
          exact h3 r e3 ihw
        have hs : Sta c r := ⟨e1, fun h => e2 (.inl h), fun h => e2 (.inr h), e3⟩
        by_cases he : (fst (c :: r)).e = 0
        · exact h4 c r hs he (ih _ (by rw [List.length_drop, List.length_cons]; have := (fst_len he).1; omega))
        · exact h5 c r hs he
  exact fun l => main l.length l (Nat.le_refl _)
/-- What Tokens hands back. -/
def ans (s : List UInt8) : Res := if 60000 < s.length then ([], 0, 6) else if (tk 1 s).2.2 = 0 then ((tk 1 s).1, 0, 0) else ([], (tk 1 s).2)

/-! ### Gaps -/
def gp (l : List UInt8) : Nat := if l.take 2 = [47, 47] then pre isLn l else pre isBl l
theorem gp_le (l : List UInt8) : gp l ≤ l.length := by unfold gp; split <;> exact pre_le _ _
theorem blanks (l : List UInt8) : ∀ n, tk n l = tk (n + (l.takeWhile isBl).count 10) (l.dropWhile isBl) := by
  induction l with
  | nil => intro n; rfl
  | cons c r ih =>
    intro n
    by_cases h : isBl c = true
    · rw [List.takeWhile_cons_of_pos h, List.dropWhile_cons_of_pos h]
      by_cases e1 : c = 10
      · subst e1
        rw [tk_ten, ih, List.count_cons_self]
        congr 1; omega
      · have e2 : c = 32 ∨ c = 9 := by
          unfold isBl at h
          simp only [Bool.or_eq_true, beq_iff_eq] at h
          rcases h with (h | h) | h
          · exact .inl h
          · exact .inr h
          · exact absurd h e1
        rw [tk_bl _ _ e2, ih, List.count_cons_of_ne (by simpa using e1)]
    · rw [List.takeWhile_cons_of_neg h, List.dropWhile_cons_of_neg h]
      rfl
theorem count_ln (l : List UInt8) : (l.takeWhile isLn).count 10 = 0 := by
  rw [List.count_eq_zero]
  intro h
  have := while_mem _ h
  simp [isLn] at this
/-- A gap is passed over. -/
theorem tk_gap (n : Nat) (l : List UInt8) : tk n l = tk (n + (l.take (gp l)).count 10) (l.drop (gp l)) := by
  unfold gp
  split
  · rename_i h
    rw [take_pre, drop_pre, count_ln, Nat.add_zero]
    match l, h with
    | [], h => simp at h
    | [_], h => simp at h
    | c :: d :: r, h =>
      have hc : c = 47 := by simp at h; exact h.1
      have hd : d = 47 := by simp at h; exact h.2
      subst hc hd
      rw [tk_cm _ _ rfl]
      exact congrArg (tk n) (List.dropWhile_cons_of_pos (p := isLn) (a := 47) (l := 47 :: r) (by decide)).symm
  · rw [take_pre, drop_pre]
    exact blanks l n
theorem gp_zero {c : UInt8} {r : List UInt8} (h : gp (c :: r) = 0) : Sta c r := by
  unfold gp at h
  split at h
  · rename_i h2
    have : c = 47 := by simp at h2; exact h2.1
    subst this
    have := pre_pos (p := isLn) (c := 47) (r := r) (by decide)
    omega
  · rename_i h2
    by_cases hb : isBl c = true
    · have := pre_pos (p := isBl) (c := c) (r := r) hb
      omega
    · unfold isBl at hb
      simp only [Bool.not_eq_true, Bool.or_eq_false_iff, beq_eq_false_iff_ne] at hb
      refine ⟨hb.2, hb.1.1, hb.1.2, ?_⟩
      rintro ⟨rfl, h3⟩
      apply h2
      cases r with
      | nil => simp at h3
      | cons d r => simp at h3; subst h3; simp
end Go.Proofs.YtpbcncfbfbghcaaGreatDoor.L19
namespace Go.Proofs.YtpbcncfbfbghcaaGreatDoor.L19
open Mem
set_option linter.unusedVariables false
set_option linter.unusedSimpArgs false

/-! ### Decimal numerals -/
abbrev dec := Lib.decDigits
theorem dec_small (n : Nat) (h : n < 10) : dec n = [UInt8.ofNat (48 + n)] := by unfold dec; rw [Lib.decDigits, dif_pos h]
theorem dec_step (n : Nat) (h : 10 ≤ n) : dec n = dec (n / 10) ++ [UInt8.ofNat (48 + n % 10)] := by unfold dec; rw [Lib.decDigits, dif_neg (by omega)]
theorem dig_val (d : Nat) (h : d < 10) : isDg (UInt8.ofNat (48 + d)) = true ∧ (UInt8.ofNat (48 + d)).toNat - 48 = d := by
  have : ∀ d, d < 10 → isDg (UInt8.ofNat (48 + d)) = true ∧ (UInt8.ofNat (48 + d)).toNat - 48 = d := by decide +kernel
  exact this d h
theorem dec_dg (n : Nat) : ∀ c ∈ dec n, isDg c = true := by
  induction n using Nat.strongRecOn with
  | ind n ih =>
    intro c hc
    by_cases h : n < 10
    · rw [dec_small n h, List.mem_singleton] at hc
      subst hc
      exact (dig_val n h).1
    · rw [dec_step n (by omega), List.mem_append, List.mem_singleton] at hc
      rcases hc with hc | rfl
      · exact ih (n / 10) (by omega) c hc
      · exact (dig_val (n % 10) (by omega)).1
theorem nval_snoc (l : List UInt8) (c : UInt8) : nval (l ++ [c]) = 10 * nval l + (c.toNat - 48) := by
  unfold nval; rw [List.foldl_append]; rfl
theorem nval_dec (n : Nat) : nval (dec n) = n := by
  induction n using Nat.strongRecOn with
  | ind n ih =>
    by_cases h : n < 10
    · rw [dec_small n h]
      show 10 * 0 + _ = n
      rw [(dig_val n h).2]; omega
    · rw [dec_step n (by omega), nval_snoc, ih (n / 10) (by omega), (dig_val (n % 10) (by omega)).2]
      omega
theorem dec_ne (n : Nat) : dec n ≠ [] := by
  by_cases h : n < 10
  · rw [dec_small n h]; simp
  · rw [dec_step n (by omega)]; simp
theorem dec_head (n : Nat) (h : 0 < n) : (dec n).head? ≠ some 48 := by
  induction n using Nat.strongRecOn with
  | ind n ih =>
    by_cases h1 : n < 10
    · rw [dec_small n h1]
      have : ∀ d, d < 10 → 0 < d → UInt8.ofNat (48 + d) ≠ 48 := by decide +kernel
      simpa using this n h1 h
    · rw [dec_step n (by omega)]
      have h2 := ih (n / 10) (by omega) (by omega)
      have h3 := dec_ne (n / 10)
      cases h4 : dec (n / 10) with
      | nil => exact absurd h4 h3
      | cons c r => rw [h4] at h2; simpa using h2
/-- Zeros ahead are dropped. -/
theorem drop_zeros : ∀ (z : Nat) (l : List UInt8), (List.replicate z 48 ++ l).dropWhile (· == 48) = l.dropWhile (· == 48)
  | 0, l => rfl
  | z + 1, l => by
    rw [List.replicate_succ, List.cons_append, List.dropWhile_cons_of_pos (by rfl), drop_zeros z l]
theorem drop_head {l : List UInt8} (h : l.head? ≠ some 48) : l.dropWhile (· == 48) = l := by
  cases l with
  | nil => rfl
  | cons c r => rw [List.dropWhile_cons_of_neg (by simpa using h)]
theorem val0_dec (z n : Nat) : val0 (List.replicate z 48 ++ dec n) = dec n := by
  unfold val0
  rw [drop_zeros]
  by_cases h : n = 0
  · subst h
    rw [dec_small 0 (by decide)]
    rfl
  · rw [drop_head (dec_head n (by omega)), if_neg (dec_ne n)]
theorem zero_dg (z : Nat) : ∀ c ∈ List.replicate z (48 : UInt8), isDg c = true := by
  intro c hc
  rw [(List.mem_replicate.1 hc).2]
  rfl
theorem val0_good {l : List UInt8} (hl : ∀ c ∈ l, isDg c = true) : (∀ c ∈ val0 l, isDg c = true) ∧ val0 l ≠ [] ∧ ((val0 l).head? = some 48 → val0 l = [48]) := by
  unfold val0
  split
  · exact ⟨by intro c hc; rw [List.mem_singleton.1 hc]; rfl, by simp, fun _ => rfl⟩
  · rename_i h
    refine ⟨fun c hc => hl c ((List.dropWhile_sublist _).subset hc), h, fun h2 => ?_⟩
    have := while_head (p := fun x => x == 48) (l := l) 48 (by rw [h2]; rfl)
    simp at this
theorem val0_self {l : List UInt8} (h1 : l ≠ []) (h2 : l.head? = some 48 → l = [48]) : val0 l = l := by
  unfold val0
  by_cases h : l.head? = some 48
  · rw [h2 h]; rfl
  · rw [drop_head h, if_neg h1]
theorem dg_al {c : UInt8} (h : isDg c = true) : isLt c = false ∧ isBl c = false ∧ (c == 39) = false ∧ (c == 47) = false ∧ isNm c = true :=
  ⟨not8 (P := isDg) (Q := isLt) (by decide +kernel) h, not8 (P := isDg) (Q := isBl) (by decide +kernel) h, not8 (P := isDg) (Q := fun c => c == 39) (by decide +kernel) h, not8 (P := isDg) (Q := fun c => c == 47) (by decide +kernel) h, imp8 (P := isDg) (Q := isNm) (by decide +kernel) h⟩
theorem lt_al {c : UInt8} (h : isLt c = true) : isDg c = false ∧ isBl c = false ∧ (c == 39) = false ∧ (c == 47) = false ∧ isNm c = true :=
  ⟨not8 (P := isLt) (Q := isDg) (by decide +kernel) h, not8 (P := isLt) (Q := isBl) (by decide +kernel) h, not8 (P := isLt) (Q := fun c => c == 39) (by decide +kernel) h, not8 (P := isLt) (Q := fun c => c == 47) (by decide +kernel) h, imp8 (P := isLt) (Q := isNm) (by decide +kernel) h⟩
theorem sta_of {c : UInt8} {r : List UInt8} (h : isBl c = false) (h2 : ¬ (c = 47 ∧ r.head? = some 47)) : Sta c r := by
  unfold isBl at h
  simp only [Bool.or_eq_false_iff, beq_eq_false_iff_ne] at h
  exact ⟨h.2, h.1.1, h.1.2, h2⟩

/-! ### The form of a token -/
inductive Tk1 : Nat → List UInt8 → Prop
  | num (v : List UInt8) : (∀ c ∈ v, isDg c = true) → v ≠ [] → (v.head? = some 48 → v = [48]) → nval v ≤ 4294967295 → Tk1 1 v
  | wrd (c : UInt8) (r : List UInt8) : isLt c = true → (∀ d ∈ c :: r, isNm d = true) → (c :: r).length ≤ 24 → Tk1 (wkind (c :: r)) (c :: r)
  | one (c : UInt8) : ones.contains c = true → Tk1 4 [c]
  | two (c d : UInt8) : two.contains [c, d] = true → Tk1 4 [c, d]
theorem sgl_cases (c : UInt8) (r : List UInt8) : (∃ d r', r = d :: r' ∧ two.contains [c, d] = true ∧ sgl (c :: r) = 2) ∨ (ones.contains c = true ∧ sgl (c :: r) = 1) ∨ sgl (c :: r) = 0 := by
  unfold sgl
  split
  · rename_i h
    cases r with
    | nil =>
      exfalso
      have : ∀ x ∈ two, x.length = 2 := by decide
      have := this ([c].take 2) (by simpa using h)
      simp at this
    | cons d r' => exact .inl ⟨d, r', rfl, by simpa using h, rfl⟩
  · split
    · rename_i h
      exact .inr (.inl ⟨by simpa using h, rfl⟩)
    · exact .inr (.inr rfl)
theorem no_ten_of {p : UInt8 → Bool} (hp : p 10 = false) {l : List UInt8} (h : ∀ c ∈ l, p c = true) : l.count 10 = 0 := by
  rw [List.count_eq_zero]
  intro hm
  rw [h _ hm] at hp
  cases hp
theorem fst_form {l : List UInt8} (h : (fst l).e = 0) : Tk1 (fst l).k (fst l).T ∧ (l.take (fst l).m).count 10 = 0 := by
  cases l with
  | nil => simp [fst, bad] at h
  | cons c r =>
    unfold fst at h ⊢
    dsimp only at h ⊢
    by_cases h1 : isDg c = true
    · rw [if_pos h1] at h ⊢
      unfold num at h ⊢
      split at h
      · simp [bad] at h
      · rename_i hA
        rw [if_neg hA]
        split at h
        · simp [bad] at h
        · rename_i hB
          rw [if_neg hB]
          have hd : ∀ d ∈ (c :: r).take (pre isDg (c :: r)), isDg d = true := by rw [take_pre]; exact while_mem
          obtain ⟨g1, g2, g3⟩ := val0_good hd
          exact ⟨.num _ g1 g2 g3 (Nat.le_of_not_lt hB), no_ten_of (p := isDg) (by decide) hd⟩
    rw [if_neg h1] at h ⊢
    by_cases h2 : isLt c = true
    · rw [if_pos h2] at h ⊢
      unfold wrd at h ⊢
      split at h
      · simp [bad] at h
      · rename_i hA
        rw [if_neg hA]
        have hd : ∀ d ∈ (c :: r).take (pre isNm (c :: r)), isNm d = true := by rw [take_pre]; exact while_mem
        refine ⟨?_, no_ten_of (p := isNm) (by decide) hd⟩
        show Tk1 (wkind ((c :: r).take (pre isNm (c :: r)))) ((c :: r).take (pre isNm (c :: r)))
        have hp := pre_pos (p := isNm) (c := c) (r := r) (lt_al h2).2.2.2.2
        obtain ⟨q, hq⟩ : ∃ q, pre isNm (c :: r) = q + 1 := ⟨pre isNm (c :: r) - 1, by omega⟩
        rw [hq] at hd hA ⊢
        rw [List.take_succ_cons] at hd ⊢
        exact .wrd _ _ h2 hd (by rw [List.length_cons, List.length_take]; omega)
    rw [if_neg h2] at h ⊢
    by_cases h3 : (c == 39) = true
    · rw [if_pos h3] at h ⊢
      match r, h with
      | [], h => simp [chr, bad] at h
      | [_], h => simp [chr, bad] at h
      | x :: y :: z, h =>
        unfold chr at h ⊢
        dsimp only at h ⊢
        split at h
        · rename_i hA
          rw [if_pos hA]
          simp only [Bool.and_eq_true, beq_iff_eq] at h3 hA
          obtain ⟨hA, rfl⟩ := hA
          subst h3
          refine ⟨.num _ (dec_dg _) (dec_ne _) (fun e => absurd e (dec_head _ ?_)) (by show nval (dec x.toNat) ≤ _; rw [nval_dec]; have := x.toNat_lt; omega), ?_⟩
          · simp [isQt] at hA; omega
          · show List.count 10 [39, x, 39] = 0
            have : isLn x = true := imp8 (P := isQt) (Q := isLn) (by decide +kernel) hA
            have : x ≠ 10 := by simpa [isLn] using this
            rw [List.count_cons_of_ne (by decide), List.count_cons_of_ne this, List.count_cons_of_ne (by decide)]
            rfl
        · simp [bad] at h
    · rw [if_neg h3] at h ⊢
      unfold sgn at h ⊢
      rcases sgl_cases c r with ⟨d, r', rfl, hs, e⟩ | ⟨hs, e⟩ | e <;> rw [e] at h ⊢
      · refine ⟨.two c d hs, ?_⟩
        show List.count 10 [c, d] = 0
        have : ∀ x ∈ two, x.count 10 = 0 := by decide
        exact this _ (by simpa using hs)
      · refine ⟨.one c hs, ?_⟩
        show List.count 10 [c] = 0
        have := not8 (P := ones.contains) (Q := fun c => c == 10) (by decide +kernel) hs
        have : c ≠ 10 := by simpa using this
        rw [List.count_cons_of_ne this]
        rfl
      · simp [bad] at h
/-- A token that stands ahead of a space is read back. -/
theorem form_fst {k : Nat} {T : List UInt8} (h : Tk1 k T) (b : List UInt8) : fst (T ++ 32 :: b) = good k T T.length ∧ ∃ c r, T ++ 32 :: b = c :: r ∧ Sta c r := by
  cases h with
  | num _ h1 h2 h3 h4 =>
    obtain ⟨c, r, rfl⟩ : ∃ c r, T = c :: r := by cases T with | nil => exact absurd rfl h2 | cons c r => exact ⟨c, r, rfl⟩
    have hc := h1 c (List.mem_cons_self)
    obtain ⟨a1, a2, a3, a4, a5⟩ := dg_al hc
    refine ⟨?_, c, r ++ 32 :: b, rfl, sta_of a2 (by rintro ⟨rfl, _⟩; simp at a4)⟩
    rw [List.cons_append]
    unfold fst
    dsimp only
    rw [if_pos hc, ← List.cons_append]
    have hp : pre isDg (c :: r ++ 32 :: b) = (c :: r).length := by rw [pre_sep (by decide), pre_all h1]
    unfold num
    rw [hp, List.drop_left' rfl, List.take_left' rfl, val0_self h2 h3]
    rw [if_neg (show ¬ (((32 :: b).head?.map isAl).getD false = true) from by show ¬ (isAl 32 = true); decide), if_neg (by omega)]
  | wrd c r h1 h2 h3 =>
    obtain ⟨a1, a2, a3, a4, a5⟩ := lt_al h1
    refine ⟨?_, c, r ++ 32 :: b, rfl, sta_of a2 (by rintro ⟨rfl, _⟩; simp at a4)⟩
    rw [List.cons_append]
    unfold fst
    dsimp only
    rw [if_neg (by rw [a1]; simp), if_pos h1, ← List.cons_append]
    have hp : pre isNm (c :: r ++ 32 :: b) = (c :: r).length := by rw [pre_sep (by decide), pre_all h2]
    unfold wrd
    rw [hp, List.take_left' rfl, if_neg (by omega)]
  | one c h =>
    refine ⟨?_, c, 32 :: b, rfl, ?_⟩
    · show fst (c :: 32 :: b) = _
      unfold fst
      dsimp only
      have q1 := not8 (P := ones.contains) (Q := isDg) (by decide +kernel) h
      have q2 := not8 (P := ones.contains) (Q := isLt) (by decide +kernel) h
      have q3 := not8 (P := ones.contains) (Q := fun c => c == 39) (by decide +kernel) h
      have q4 : two.contains [c, 32] = false := by
        have := not8 (P := ones.contains) (Q := fun c => two.contains [c, 32]) (by decide +kernel) h
        exact this
      have hs : sgl (c :: 32 :: b) = 1 := by
        unfold sgl
        rw [show (c :: 32 :: b).take 2 = [c, 32] from rfl, q4, if_neg (by simp), if_pos (by simpa using h)]
      rw [q1, q2, if_neg (by simp), if_neg (by simp), q3, if_neg (by simp)]
      unfold sgn
      rw [hs]
      rfl
    · have q := not8 (P := ones.contains) (Q := isBl) (by decide +kernel) h
      exact sta_of q (by rintro ⟨_, h2⟩; simp at h2)
  | two c d h =>
    have hm : [c, d] ∈ L19.two := by simpa using h
    have all : ∀ x ∈ L19.two, ∀ c d, x = [c, d] → isDg c = false ∧ isLt c = false ∧ (c == 39) = false ∧ isBl c = false ∧ (c == 47) = false := by
      intro x hx c d e
      simp [L19.two] at hx
      rcases hx with rfl | rfl | rfl | rfl | rfl | rfl <;> (injection e with e1 e2; subst e1; decide)
    obtain ⟨q1, q2, q3, q4, q5⟩ := all _ hm c d rfl
    refine ⟨?_, c, d :: 32 :: b, rfl, sta_of q4 (by rintro ⟨rfl, _⟩; simp at q5)⟩
    show fst (c :: d :: 32 :: b) = _
    unfold fst
    dsimp only
    have hs : sgl (c :: d :: 32 :: b) = 2 := by
      unfold sgl
      rw [show (c :: d :: 32 :: b).take 2 = [c, d] from rfl, h, if_pos rfl]
    rw [q1, q2, q3, if_neg (by simp), if_neg (by simp), if_neg (by simp)]
    unfold sgn
    rw [hs]
    rfl

/-! ### Kinds and lines (LexerKinds) -/
theorem tk_form (l : List UInt8) : ∀ n, (∀ t ∈ (tk n l).1, Tk1 t.1 t.2.1 ∧ n ≤ t.2.2) ∧ ((tk n l).2.2 ≠ 0 → n ≤ (tk n l).2.1) ∧ (tk n l).1.Pairwise (fun a b => a.2.2 ≤ b.2.2) := by
  induction l using lx_ind with
  | h0 => intro n; exact ⟨by simp [tk_nil], by simp [tk_nil], by simp [tk_nil]⟩
  | h1 r ih => intro n; rw [tk_ten]; obtain ⟨a, b, c⟩ := ih (n + 1); exact ⟨fun t ht => ⟨(a t ht).1, by have := (a t ht).2; omega⟩, fun h => by have := b h; omega, c⟩
  | h2 c r hc ih => intro n; rw [tk_bl _ _ hc]; exact ih n
  | h3 r hr ih => intro n; rw [tk_cm _ _ hr]; exact ih n
  | h4 c r hs he ih =>
    intro n
    rw [tk_tok _ hs he]
    obtain ⟨x, y, z⟩ := ih n
    refine ⟨?_, y, ?_⟩
    · intro t ht
      rcases List.mem_append.1 ht with ht | ht
      · rw [List.mem_singleton.1 ht]
        exact ⟨(fst_form he).1, Nat.le_refl _⟩
      · exact x t ht
    · show List.Pairwise _ ([_] ++ _)
      rw [List.singleton_append, List.pairwise_cons]
      exact ⟨fun t ht => (x t ht).2, z⟩
  | h5 c r hs he => intro n; rw [tk_bad _ hs he]; exact ⟨by simp, fun _ => Nat.le_refl _, by simp⟩

/-! ### What follows a separator (LexerConcatenates, LexerLayout) -/
def Sep (c : UInt8) (b : List UInt8) : Prop := c = 10 ∨ (c = 32 ∧ b.head? ≠ some 39)
theorem fst_sep {c : UInt8} {b : List UInt8} (hc : Sep c b) (x : UInt8) (r : List UInt8) : fst (x :: r ++ c :: b) = fst (x :: r) := by
  have c1 : isDg c = false ∧ isNm c = false ∧ isAl c = false ∧ (c == 39) = false := by
    rcases hc with rfl | ⟨rfl, _⟩ <;> decide
  obtain ⟨d1, d2, d3, d4⟩ := c1
  rw [List.cons_append]
  unfold fst
  dsimp only
  have en : num (x :: (r ++ c :: b)) = num (x :: r) := by
    rw [← List.cons_append]
    unfold num
    rw [pre_sep d1]
    have hle := pre_le isDg (x :: r)
    rw [List.take_append_of_le_length hle, List.drop_append_of_le_length hle]
    have : (((x :: r).drop (pre isDg (x :: r)) ++ c :: b).head?.map isAl).getD false = (((x :: r).drop (pre isDg (x :: r))).head?.map isAl).getD false := by
      cases (x :: r).drop (pre isDg (x :: r)) with
      | nil => simpa using d3
      | cons y z => rfl
    rw [this]
  have ew : wrd (x :: (r ++ c :: b)) = wrd (x :: r) := by
    rw [← List.cons_append]
    unfold wrd
    rw [pre_sep d2, List.take_append_of_le_length (pre_le isNm (x :: r))]
  have ec : chr (x :: (r ++ c :: b)) = chr (x :: r) := by
    match r with
    | [] =>
      rcases hc with rfl | ⟨rfl, h⟩
      · cases b with
        | nil => rfl
        | cons y z => simp [chr, isQt]
      · cases b with
        | nil => rfl
        | cons y z =>
          have : (y == 39) = false := by simpa using h
          simp [chr, this]
    | [y] => simp [chr, d4]
    | y :: z :: w => rfl
  have es : sgn (x :: (r ++ c :: b)) = sgn (x :: r) := by
    have hs : sgl (x :: (r ++ c :: b)) = sgl (x :: r) := by
      match r with
      | [] =>
        unfold sgl
        have : two.contains [x, c] = false := by
          rcases hc with rfl | ⟨rfl, _⟩
          · have := all8 (P := fun x => !two.contains [x, 10]) (by decide +kernel) x
            simpa using this
          · have := all8 (P := fun x => !two.contains [x, 32]) (by decide +kernel) x
            simpa using this
        have h2 : two.contains [x] = false := by simp [two]
        show (if two.contains [x, c] then 2 else _) = (if two.contains [x] then 2 else _)
        rw [this, h2]
        rfl
      | y :: z => rfl
    unfold sgn
    rw [hs]
    rcases sgl_cases x r with ⟨y, z, rfl, _, e⟩ | ⟨_, e⟩ | e <;> rw [e] <;> rfl
  rw [en, ew, ec, es]
theorem tk_sep {c : UInt8} {b : List UInt8} {G : Nat → Res} (hc : Sep c b) (h1 : ∀ n, tk n (c :: b) = G n) (h2 : ∀ n, tk n ((c :: b).dropWhile isLn) = G n) :
    ∀ l n, tk n (l ++ c :: b) = if (tk n l).2.2 = 0 then addL (tk n l).1 (G (n + l.count 10)) else tk n l := by
  intro l
  induction l using lx_ind with
  | h0 => intro n; rw [tk_nil, if_pos rfl, List.nil_append, h1]; rfl
  | h1 r ih =>
    intro n
    rw [List.cons_append, tk_ten, tk_ten, ih, List.count_cons_self, show n + 1 + r.count 10 = n + (r.count 10 + 1) by omega]
  | h2 x r hx ih =>
    intro n
    rw [List.cons_append, tk_bl _ _ hx, tk_bl _ _ hx, ih, List.count_cons_of_ne (by rcases hx with rfl | rfl <;> decide)]
  | h3 r hr ih =>
    intro n
    have hr2 : (r ++ c :: b).head? = some 47 := by cases r with | nil => simp at hr | cons y z => simpa using hr
    rw [List.cons_append, tk_cm _ _ hr2, tk_cm _ _ hr, List.dropWhile_append, List.count_cons_of_ne (by decide)]
    have hcn : r.count 10 = (r.dropWhile isLn).count 10 := by
      conv => lhs; rw [← List.takeWhile_append_dropWhile (p := isLn) (l := r)]
      rw [List.count_append, count_ln, Nat.zero_add]
    rw [hcn]
    split
    · rename_i he
      have he : r.dropWhile isLn = [] := by simpa using he
      rw [he, h2, tk_nil, if_pos rfl]
      rfl
    · exact ih n
  | h4 x r hs he ih =>
    intro n
    have hs2 : Sta x (r ++ c :: b) := ⟨hs.1, hs.2.1, hs.2.2.1, fun ⟨e1, e2⟩ => hs.2.2.2 ⟨e1, by
      cases r with
      | nil => rcases hc with rfl | ⟨rfl, _⟩ <;> simp at e2
      | cons y z => simpa using e2⟩⟩
    have hf := fst_sep hc x r
    rw [List.cons_append] at hf ⊢
    rw [tk_tok n hs2 (by rw [hf]; exact he), tk_tok n hs he, hf, ← List.cons_append, List.drop_append_of_le_length (fst_len he).2, ih]
    have hcn : (x :: r).count 10 = ((x :: r).drop (fst (x :: r)).m).count 10 := by
      conv => lhs; rw [← List.take_append_drop (fst (x :: r)).m (x :: r)]
      rw [List.count_append, (fst_form he).2, Nat.zero_add]
    rw [hcn]
    show addL _ (if (tk n _).2.2 = 0 then _ else _) = if (tk n _).2.2 = 0 then _ else _
    split
    · rw [addL_addL]; rfl
    · rfl
  | h5 x r hs he =>
    intro n
    have hs2 : Sta x (r ++ c :: b) := ⟨hs.1, hs.2.1, hs.2.2.1, fun ⟨e1, e2⟩ => hs.2.2.2 ⟨e1, by
      cases r with
      | nil => rcases hc with rfl | ⟨rfl, _⟩ <;> simp at e2
      | cons y z => simpa using e2⟩⟩
    have hf := fst_sep hc x r
    rw [List.cons_append] at hf ⊢
    rw [tk_bad n hs2 (by rw [hf]; exact he), tk_bad n hs he, hf, if_neg he]
/-- Lines are shifted. -/
def shf (d : Nat) (t : Tok) : Tok := (t.1, t.2.1, t.2.2 + d)
theorem tk_shift (d : Nat) (l : List UInt8) : ∀ n, (tk (n + d) l).1 = (tk n l).1.map (shf d) ∧ (tk (n + d) l).2.2 = (tk n l).2.2 ∧ ((tk n l).2.2 ≠ 0 → (tk (n + d) l).2.1 = (tk n l).2.1 + d) := by
  induction l using lx_ind with
  | h0 => intro n; simp [tk_nil]
  | h1 r ih => intro n; rw [tk_ten, tk_ten, show n + d + 1 = n + 1 + d by omega]; exact ih (n + 1)
  | h2 c r hc ih => intro n; rw [tk_bl _ _ hc, tk_bl _ _ hc]; exact ih n
  | h3 r hr ih => intro n; rw [tk_cm _ _ hr, tk_cm _ _ hr]; exact ih n
  | h4 c r hs he ih =>
    intro n
    rw [tk_tok _ hs he, tk_tok _ hs he]
    obtain ⟨x, y, z⟩ := ih n
    refine ⟨?_, y, z⟩
    show [_] ++ _ = List.map _ ([_] ++ _)
    rw [List.map_append, x]
    rfl
  | h5 c r hs he => intro n; rw [tk_bad _ hs he, tk_bad _ hs he]; simp
theorem concat (a b : List UInt8) (n : Nat) : tk n (a ++ 10 :: b) = if (tk n a).2.2 = 0 then addL (tk n a).1 (tk (n + a.count 10 + 1) b) else tk n a :=
  tk_sep (G := fun n => tk (n + 1) b) (.inl rfl) (fun n => tk_ten n b) (fun n => by rw [List.dropWhile_cons_of_neg (by decide), tk_ten]) a n
/-- " // the end" -/
def tailC : List UInt8 := [32, 47, 47, 32, 116, 104, 101, 32, 101, 110, 100]
theorem behind (l : List UInt8) (n : Nat) : tk n (l ++ tailC) = if (tk n l).2.2 = 0 then ((tk n l).1, 0, 0) else tk n l := by
  have := tk_sep (c := 32) (b := [47, 47, 32, 116, 104, 101, 32, 101, 110, 100]) (G := fun _ => ([], 0, 0)) (.inr ⟨rfl, by decide⟩) (fun n => rfl) (fun n => rfl) l n
  rw [show l ++ tailC = l ++ 32 :: [47, 47, 32, 116, 104, 101, 32, 101, 110, 100] from rfl, this]
  unfold addL
  rw [List.append_nil]
theorem tk_line (l : List UInt8) : ∀ n, (tk n l).2.2 = 0 → (tk n l).2.1 = 0 := by
  induction l using lx_ind with
  | h0 => intro n _; rfl
  | h1 r ih => intro n; rw [tk_ten]; exact ih (n + 1)
  | h2 c r hc ih => intro n; rw [tk_bl _ _ hc]; exact ih n
  | h3 r hr ih => intro n; rw [tk_cm _ _ hr]; exact ih n
  | h4 c r hs he ih => intro n; rw [tk_tok _ hs he]; exact ih n
  | h5 c r hs he => intro n; rw [tk_bad _ hs he]; exact fun h => absurd h he
/-- "\t // \" no token '\n \n" -/
def frontC : List UInt8 := [9, 32, 47, 47, 32, 34, 32, 110, 111, 32, 116, 111, 107, 101, 110, 32, 39, 10, 32, 10]
theorem ahead1 (l : List UInt8) (n : Nat) : tk n (frontC ++ l) = tk (n + 2) l := by
  show tk n (9 :: 32 :: 47 :: 47 :: 32 :: 34 :: 32 :: 110 :: 111 :: 32 :: 116 :: 111 :: 107 :: 101 :: 110 :: 32 :: 39 :: 10 :: 32 :: 10 :: l) = _
  rw [tk_bl _ _ (.inr rfl), tk_bl _ _ (.inl rfl), tk_cm _ _ rfl]
  rw [show List.dropWhile isLn (47 :: 32 :: 34 :: 32 :: 110 :: 111 :: 32 :: 116 :: 111 :: 107 :: 101 :: 110 :: 32 :: 39 :: 10 :: 32 :: 10 :: l) = 10 :: 32 :: 10 :: l from rfl]
  rw [tk_ten, tk_bl _ _ (.inl rfl), tk_ten]
def fronts : Nat → List UInt8
  | 0 => []
  | k + 1 => fronts k ++ frontC
theorem ahead (l : List UInt8) : ∀ k n, tk n (fronts k ++ l) = tk (n + 2 * k) l
  | 0, n => rfl
  | k + 1, n => by
    rw [fronts, List.append_assoc, ahead (frontC ++ l) k n, ahead1]
    congr 1
theorem fronts_len : ∀ k, (fronts k).length = 20 * k
  | 0 => rfl
  | k + 1 => by rw [fronts, List.length_append, fronts_len k, show frontC.length = 20 from rfl]; omega
theorem fronts_count : ∀ k, (fronts k).count 10 = 2 * k
  | 0 => rfl
  | k + 1 => by rw [fronts, List.count_append, fronts_count k, show frontC.count 10 = 2 from rfl]; omega

/-! ### The round trip -/
def rt (l : List Tok) : List UInt8 := l.flatMap (fun t => t.2.1 ++ [32])
theorem rt_snoc (l : List Tok) (t : Tok) : rt (l ++ [t]) = rt l ++ t.2.1 ++ [32] := by
  unfold rt; rw [List.flatMap_append]; simp
def flat (t : Tok) : Tok := (t.1, t.2.1, 1)
theorem round : ∀ (l : List Tok), (∀ t ∈ l, Tk1 t.1 t.2.1) → tk 1 (rt l) = (l.map flat, 0, 0) := by
  intro l
  induction l with
  | nil => intro _; rfl
  | cons t l ih =>
    intro h
    obtain ⟨hf, c, r, hcr, hs⟩ := form_fst (h t List.mem_cons_self) (rt l)
    have e : rt (t :: l) = t.2.1 ++ 32 :: rt l := by unfold rt; rw [List.flatMap_cons]; simp
    rw [e]
    have hd : (c :: r).drop t.2.1.length = 32 :: rt l := by rw [← hcr, List.drop_left' rfl]
    rw [hcr] at hf ⊢
    rw [tk_tok _ hs (by rw [hf]; rfl), hf]
    show addL [(t.1, t.2.1, 1)] (tk 1 ((c :: r).drop t.2.1.length)) = _
    rw [hd, tk_bl _ _ (.inl rfl), ih (fun t ht => h t (List.mem_cons_of_mem _ ht))]
    rfl

/-! ### Numbers -/
theorem num_head (z n : Nat) (b : List UInt8) : ∃ c r, List.replicate z 48 ++ dec n ++ b = c :: r ∧ isDg c = true := by
  have hd : ∀ c ∈ List.replicate z 48 ++ dec n, isDg c = true := fun c hc => by
    rcases List.mem_append.1 hc with h | h
    · exact zero_dg z c h
    · exact dec_dg n c h
  cases h : List.replicate z 48 ++ dec n with
  | nil => rw [List.append_eq_nil_iff] at h; exact absurd h.2 (dec_ne n)
  | cons c r => exact ⟨c, r ++ b, rfl, hd c (by rw [h]; exact List.mem_cons_self)⟩
theorem num_fst (z n : Nat) (x : UInt8) (b : List UInt8) (hx : isDg x = false) : fst (List.replicate z 48 ++ dec n ++ x :: b) = if isAl x then bad 3 else if 4294967295 < n then bad 2 else good 1 (dec n) (z + (dec n).length) := by
  have hd : ∀ c ∈ List.replicate z 48 ++ dec n, isDg c = true := fun c hc => by
    rcases List.mem_append.1 hc with h | h
    · exact zero_dg z c h
    · exact dec_dg n c h
  obtain ⟨c, r, hcr, hc⟩ := num_head z n (x :: b)
  have hp : pre isDg (List.replicate z 48 ++ dec n ++ x :: b) = (List.replicate z 48 ++ dec n).length := by rw [pre_sep hx, pre_all hd]
  have hf : fst (List.replicate z 48 ++ dec n ++ x :: b) = num (List.replicate z 48 ++ dec n ++ x :: b) := by
    rw [hcr]; unfold fst; dsimp only; rw [if_pos hc]
  rw [hf]
  unfold num
  rw [hp, List.take_left' rfl, List.drop_left' rfl, val0_dec, nval_dec, List.length_append, List.length_replicate]
  rfl
theorem num_sta (z n : Nat) (b : List UInt8) : ∃ c r, List.replicate z 48 ++ dec n ++ b = c :: r ∧ Sta c r := by
  obtain ⟨c, r, hcr, hc⟩ := num_head z n b
  obtain ⟨a1, a2, a3, a4, a5⟩ := dg_al hc
  exact ⟨c, r, hcr, sta_of a2 (by rintro ⟨rfl, _⟩; simp at a4)⟩
theorem num_line (z n k : Nat) : tk k (List.replicate z 48 ++ dec n ++ [59]) = if 4294967295 < n then ([], k, 2) else ([(1, dec n, k), (4, [59], k)], 0, 0) := by
  obtain ⟨c, r, hcr, hs⟩ := num_sta z n [59]
  have hf := num_fst z n 59 [] (by decide)
  have hlen : (List.replicate z 48 ++ dec n).length = z + (dec n).length := by rw [List.length_append, List.length_replicate]
  have hd : (c :: r).drop (z + (dec n).length) = [59] := by rw [← hcr, ← hlen, List.drop_left' rfl]
  rw [if_neg (show ¬ (isAl 59 = true) by decide)] at hf
  rw [hcr] at hf ⊢
  split
  · rename_i h
    rw [if_pos h] at hf
    rw [tk_bad _ hs (by rw [hf]; decide), hf]
    rfl
  · rename_i h
    rw [if_neg h] at hf
    rw [tk_tok _ hs (by rw [hf]; rfl), hf]
    show addL [(1, dec n, k)] (tk k ((c :: r).drop (z + (dec n).length))) = _
    rw [hd]
    rfl
theorem num_under (z n k : Nat) : tk k (List.replicate z 48 ++ dec n ++ [95]) = ([], k, 3) := by
  obtain ⟨c, r, hcr, hs⟩ := num_sta z n [95]
  have hf := num_fst z n 95 [] (by decide)
  rw [if_pos (show isAl 95 = true by decide)] at hf
  rw [hcr] at hf ⊢
  rw [tk_bad _ hs (by rw [hf]; decide), hf]
  rfl
/-! ### Blanks -/
theorem blank_any : ∀ (k n : Nat), tk n (List.replicate k 32) = ([], 0, 0)
  | 0, n => rfl
  | k + 1, n => by rw [List.replicate_succ, tk_bl _ _ (.inl rfl), blank_any k n]
theorem dec_three (x : UInt8) : (dec x.toNat).length ≤ 3 := by
  have := all8 (P := fun x => decide ((dec x.toNat).length ≤ 3)) (by decide +kernel) x
  simpa using this
theorem fst_size {l : List UInt8} (h : (fst l).e = 0) : (fst l).T.length + 1 ≤ 2 * (fst l).m := by
  have hl := (fst_len h).1
  cases l with
  | nil => simp [fst, bad] at h
  | cons c r =>
    unfold fst at h hl ⊢
    dsimp only at h hl ⊢
    by_cases h1 : isDg c = true
    · rw [if_pos h1] at h hl ⊢
      unfold num at h hl ⊢
      split at h
      · simp [bad] at h
      · rename_i hA
        rw [if_neg hA] at hl ⊢
        split at h
        · simp [bad] at h
        · rename_i hB
          rw [if_neg hB] at hl ⊢
          have hl : 1 ≤ pre isDg (c :: r) := hl
          show (val0 ((c :: r).take (pre isDg (c :: r)))).length + 1 ≤ 2 * pre isDg (c :: r)
          have := drop_while_le (· == 48) ((c :: r).take (pre isDg (c :: r)))
          rw [List.length_take] at this
          unfold val0
          split
          · rw [show ([48] : List UInt8).length = 1 from rfl]; omega
          · omega
    rw [if_neg h1] at h hl ⊢
    by_cases h2 : isLt c = true
    · rw [if_pos h2] at h hl ⊢
      unfold wrd at h hl ⊢
      split at h
      · simp [bad] at h
      · rename_i hA
        rw [if_neg hA] at hl ⊢
        have hl : 1 ≤ pre isNm (c :: r) := hl
        show ((c :: r).take (pre isNm (c :: r))).length + 1 ≤ 2 * pre isNm (c :: r)
        rw [List.length_take]
        omega
    rw [if_neg h2] at h hl ⊢
    by_cases h3 : (c == 39) = true
    · rw [if_pos h3] at h hl ⊢
      match r, h, hl with
      | [], h, hl => simp [chr, bad] at h
      | [_], h, hl => simp [chr, bad] at h
      | x :: y :: z, h, hl =>
        unfold chr at h hl ⊢
        dsimp only at h hl ⊢
        split at h
        · rename_i hA
          rw [if_pos hA]
          have := dec_three x
          show (dec x.toNat).length + 1 ≤ 2 * 3
          omega
        · simp [bad] at h
    · rw [if_neg h3] at h hl ⊢
      unfold sgn at h hl ⊢
      split at h
      · simp [bad] at h
      · rename_i hA
        rw [if_neg hA] at hl ⊢
        have hl : 1 ≤ sgl (c :: r) := hl
        show ((c :: r).take (sgl (c :: r))).length + 1 ≤ 2 * sgl (c :: r)
        rw [List.length_take]
        omega
theorem rt_cons (t : Tok) (l : List Tok) : (rt (t :: l)).length = t.2.1.length + 1 + (rt l).length := by
  unfold rt; rw [List.flatMap_cons]; simp; omega
theorem tk_bound (l : List UInt8) : ∀ n, (tk n l).1.length ≤ l.length ∧ (tk n l).2.1 ≤ n + l.length ∧ (∀ t ∈ (tk n l).1, t.2.2 ≤ n + l.length) ∧ (rt (tk n l).1).length ≤ 2 * l.length := by
  induction l using lx_ind with
  | h0 => intro n; rw [tk_nil]; exact ⟨by simp, by simp, by simp, by simp [rt]⟩
  | h1 r ih =>
    intro n
    rw [tk_ten, List.length_cons]
    obtain ⟨a, b, c, d⟩ := ih (n + 1)
    exact ⟨by omega, by omega, fun t ht => by have := c t ht; omega, by omega⟩
  | h2 x r hx ih =>
    intro n
    rw [tk_bl _ _ hx, List.length_cons]
    obtain ⟨a, b, c, d⟩ := ih n
    exact ⟨by omega, by omega, fun t ht => by have := c t ht; omega, by omega⟩
  | h3 r hr ih =>
    intro n
    rw [tk_cm _ _ hr, List.length_cons]
    obtain ⟨a, b, c, d⟩ := ih n
    have := drop_while_le isLn r
    exact ⟨by omega, by omega, fun t ht => by have := c t ht; omega, by omega⟩
  | h4 x r hs he ih =>
    intro n
    rw [tk_tok _ hs he]
    obtain ⟨a, b, c, d⟩ := ih n
    have e1 := fst_len he
    have e2 := fst_size he
    rw [List.length_drop] at a b c d
    have e3 : (addL [((fst (x :: r)).k, (fst (x :: r)).T, n)] (tk n ((x :: r).drop (fst (x :: r)).m))).1 = ((fst (x :: r)).k, (fst (x :: r)).T, n) :: (tk n ((x :: r).drop (fst (x :: r)).m)).1 := rfl
    have e4 : (addL [((fst (x :: r)).k, (fst (x :: r)).T, n)] (tk n ((x :: r).drop (fst (x :: r)).m))).2 = (tk n ((x :: r).drop (fst (x :: r)).m)).2 := rfl
    rw [e3, e4]
    refine ⟨by rw [List.length_cons]; omega, by omega, ?_, ?_⟩
    · intro t ht
      rcases List.mem_cons.1 ht with rfl | ht
      · show n ≤ _; omega
      · have := c t ht; omega
    · rw [rt_cons]
      show (fst (x :: r)).T.length + 1 + _ ≤ _
      omega
  | h5 c r hs he => intro n; rw [tk_bad _ hs he]; exact ⟨by simp, by simp, by simp, by simp [rt]⟩
/-! ### What Tokens hands back -/
theorem ans_eq {s : List UInt8} (h : s.length ≤ 60000) : ans s = if (tk 1 s).2.2 = 0 then ((tk 1 s).1, 0, 0) else ([], (tk 1 s).2) := by
  unfold ans; rw [if_neg (by omega)]
theorem ans_ok {s : List UInt8} (h : (ans s).2.2 = 0) : s.length ≤ 60000 ∧ (tk 1 s).2.2 = 0 ∧ ans s = ((tk 1 s).1, 0, 0) := by
  unfold ans at h ⊢
  split at h
  · simp at h
  · rename_i h1
    split at h
    · rename_i h2
      rw [if_neg h1, if_pos h2]
      exact ⟨by omega, h2, rfl⟩
    · rename_i h2
      exact absurd h h2
theorem ans_bad {s : List UInt8} (h : (ans s).2.2 ≠ 0) : (ans s).1 = [] ∧ ((ans s).2.2 ≠ 6 → 1 ≤ (ans s).2.1) := by
  unfold ans at h ⊢
  split
  · simp
  · split
    · rename_i h2; rw [if_neg (by assumption), if_pos h2] at h; simp at h
    · rename_i h2
      refine ⟨rfl, fun _ => ?_⟩
      exact (tk_form s 1).2.1 h2
theorem ans_bound (s : List UInt8) : (ans s).1.length ≤ 60000 ∧ (ans s).2.1 ≤ 60001 ∧ (ans s).1.length ≤ s.length ∧ (∀ t ∈ (ans s).1, t.2.2 ≤ 60001 ∧ t.2.2 ≤ 1 + s.length) ∧ (rt (ans s).1).length ≤ 2 * s.length := by
  obtain ⟨a, b, c, d⟩ := tk_bound s 1
  unfold ans
  split
  · simp [rt]
  · split
    · exact ⟨by show (tk 1 s).1.length ≤ _; omega, by simp, a, fun t ht => by have := c t ht; omega, d⟩
    · exact ⟨by simp, by show (tk 1 s).2.1 ≤ _; omega, by simp, by simp, by simp [rt]⟩
theorem concat_ans {a b : List UInt8} (ha : a.length ≤ 1000) (hb : b.length ≤ 1000) {ta tb : List Tok} {na ea nb eb : Nat} (h1 : ans a = (ta, na, ea)) (h2 : ans b = (tb, nb, eb)) :
    (ea ≠ 0 → ta = [] ∧ ans (a ++ 10 :: b) = ([], na, ea)) ∧ (ea = 0 → eb ≠ 0 → tb = [] ∧ ans (a ++ 10 :: b) = ([], nb + (a.count 10 + 1), eb)) ∧ (ea = 0 → eb = 0 → ans (a ++ 10 :: b) = (ta ++ tb.map (shf (a.count 10 + 1)), 0, 0)) := by
  have hj := concat a b 1
  rw [ans_eq (by omega)] at h1 h2
  rw [ans_eq (by rw [List.length_append, List.length_cons]; omega), hj]
  obtain ⟨s1, s2, s3⟩ := tk_shift (a.count 10 + 1) b 1
  rw [show 1 + (a.count 10 + 1) = 1 + a.count 10 + 1 by omega] at s1 s2 s3
  by_cases e1 : (tk 1 a).2.2 = 0
  · rw [if_pos e1] at h1
    rw [if_pos e1]
    injection h1 with h1 h1'
    injection h1' with h3 h4
    refine ⟨fun h => absurd h4.symm h, fun _ hb2 => ?_, fun _ hb2 => ?_⟩
    · by_cases e2 : (tk 1 b).2.2 = 0
      · rw [if_pos e2] at h2
        injection h2 with h2 h2'
        injection h2' with _ h5
        exact absurd h5.symm hb2
      · rw [if_neg e2] at h2
        injection h2 with h2 h2'
        have h5 : (tk 1 b).2.1 = nb := by rw [h2']
        have h6 : (tk 1 b).2.2 = eb := by rw [h2']
        refine ⟨h2.symm, ?_⟩
        show (if (tk (1 + a.count 10 + 1) b).2.2 = 0 then _ else (([], (tk (1 + a.count 10 + 1) b).2) : Res)) = _
        rw [if_neg (by rw [s2]; exact e2), ← h5, ← h6, ← s3 e2, ← s2]
    · by_cases e2 : (tk 1 b).2.2 = 0
      · rw [if_pos e2] at h2
        injection h2 with h2 h2'
        show (if (tk (1 + a.count 10 + 1) b).2.2 = 0 then (((tk 1 a).1 ++ (tk (1 + a.count 10 + 1) b).1, 0, 0) : Res) else _) = _
        rw [if_pos (by rw [s2]; exact e2), s1, h1, h2]
      · rw [if_neg e2] at h2
        injection h2 with h2 h2'
        have h6 : (tk 1 b).2.2 = eb := by rw [h2']
        exact absurd (h6.trans hb2) e2
  · rw [if_neg e1] at h1
    rw [if_neg e1, if_neg e1]
    injection h1 with h1 h1'
    have h6 : (tk 1 a).2.2 = ea := by rw [h1']
    exact ⟨fun _ => ⟨h1.symm, by rw [h1']⟩, fun h => absurd (h6.trans h) e1, fun h => absurd (h6.trans h) e1⟩
theorem layout_ans {s : List UInt8} (hs : s.length ≤ 1000) {k : Nat} (hk : k ≤ 4) {ts : List Tok} {n e : Nat} (h : ans s = (ts, n, e)) :
    (e ≠ 0 → ts = [] ∧ ans (fronts k ++ s ++ tailC) = ([], n + 2 * k, e)) ∧ (e = 0 → ans (fronts k ++ s ++ tailC) = (ts.map (shf (2 * k)), 0, 0)) := by
  rw [ans_eq (by omega)] at h
  have hl : (fronts k ++ s ++ tailC).length ≤ 60000 := by
    rw [List.length_append, List.length_append, fronts_len, show tailC.length = 11 from rfl]; omega
  rw [ans_eq hl, List.append_assoc, ahead, behind]
  obtain ⟨s1, s2, s3⟩ := tk_shift (2 * k) s 1
  by_cases e1 : (tk 1 s).2.2 = 0
  · rw [if_pos e1] at h
    have e2 : (tk (1 + 2 * k) s).2.2 = 0 := by rw [s2]; exact e1
    rw [if_pos e2]
    injection h with h h'
    injection h' with h3 h4
    refine ⟨fun h5 => absurd h4.symm h5, fun _ => ?_⟩
    show (if (0 : Nat) = 0 then (((tk (1 + 2 * k) s).1, 0, 0) : Res) else _) = _
    rw [if_pos rfl, s1, h]
  · rw [if_neg e1] at h
    have e2 : (tk (1 + 2 * k) s).2.2 ≠ 0 := by rw [s2]; exact e1
    rw [if_neg e2, if_neg e2]
    injection h with h h'
    have h5 : (tk 1 s).2.1 = n := by rw [h']
    have h6 : (tk 1 s).2.2 = e := by rw [h']
    refine ⟨fun _ => ⟨h.symm, ?_⟩, fun h7 => absurd (h6.trans h7) e1⟩
    rw [← h5, ← h6, ← s3 e1, ← s2]
theorem round_ans {s : List UInt8} (hs : s.length ≤ 1000) {ts : List Tok} {n : Nat} (h : ans s = (ts, n, 0)) : ans (rt ts) = (ts.map flat, 0, 0) := by
  have hk := ans_ok (s := s) (by rw [h])
  have hts : (tk 1 s).1 = ts := by rw [hk.2.2] at h; injection h
  have hf := (tk_form s 1).1
  rw [hts] at hf
  have hb := (ans_bound s).2.2.2.2
  rw [h] at hb
  have hb : (rt ts).length ≤ 2 * s.length := hb
  rw [ans_eq (by omega), round ts (fun t ht => (hf t ht).1)]
  rfl
theorem blank_ans {k : Nat} (h : k ≤ 60000) : ans (List.replicate k 32) = ([], 0, 0) := by
  rw [ans_eq (by rw [List.length_replicate]; exact h), blank_any]
  rfl
theorem number_ans (z n : Nat) (hz : z ≤ 7) (hn : (dec n).length ≤ 20) : ans (10 :: (List.replicate z 48 ++ dec n ++ [59])) = (if 4294967295 < n then ([], 2, 2) else ([(1, dec n, 2), (4, [59], 2)], 0, 0)) ∧ ans (List.replicate z 48 ++ dec n ++ [95]) = ([], 1, 3) := by
  constructor
  · rw [ans_eq (by rw [List.length_cons, List.length_append, List.length_append, List.length_replicate, List.length_singleton]; omega), tk_ten, num_line]
    split <;> rfl
  · rw [ans_eq (by rw [List.length_append, List.length_append, List.length_replicate, List.length_singleton]; omega), num_under]
    rfl
end Go.Proofs.YtpbcncfbfbghcaaGreatDoor.L19
namespace Go.Proofs.YtpbcncfbfbghcaaGreatDoor.A18
open Mem
set_option linter.unusedVariables false
set_option linter.unusedSimpArgs false

/-! ### Bytes -/
def sgs : List UInt8 := [43, 45, 42, 47, 37, 94, 60, 64, 33, 63, 58, 59, 44, 46, 36]
def isDg (c : UInt8) : Bool := decide (48 ≤ c.toNat) && decide (c.toNat ≤ 57)
def isSg (c : UInt8) : Bool := sgs.contains c
def isIn (c : UInt8) : Bool := isDg c || isSg c
def isSp (c : UInt8) : Bool := c == 32 || c == 10
def isTk (c : UInt8) : Bool := !(c == 32) && !(c == 10) && !(c == 35)
def isLt (c : UInt8) : Bool := decide (97 ≤ c.toNat) && decide (c.toNat ≤ 122)
def isNm (c : UInt8) : Bool := isLt c || isDg c || c == 95
theorem all8 {P : UInt8 → Bool} (h : (List.range 256).all (fun n => P (UInt8.ofNat n)) = true) (c : UInt8) : P c = true := by
  have := (List.all_eq_true.1 h) c.toNat (List.mem_range.2 c.toNat_lt)
  simpa using this
theorem in_tk (c : UInt8) : isIn c = true → isTk c = true := by
  have := all8 (P := fun c => !isIn c || isTk c) (by decide +kernel) c
  intro h; simpa [h] using this
theorem nm_tk (c : UInt8) : isNm c = true → isTk c = true := by
  have := all8 (P := fun c => !isNm c || isTk c) (by decide +kernel) c
  intro h; simpa [h] using this
theorem lt_in (c : UInt8) : isLt c = true → isIn c = false := by
  have := all8 (P := fun c => !isLt c || !isIn c) (by decide +kernel) c
  intro h; simpa [h] using this
theorem dg_sg (c : UInt8) : isDg c = true → isSg c = false := by
  have := all8 (P := fun c => !isDg c || !isSg c) (by decide +kernel) c
  intro h; simpa [h] using this
theorem in_sp (c : UInt8) : isIn c = true → isSp c = false := by
  have := all8 (P := fun c => !isIn c || !isSp c) (by decide +kernel) c
  intro h; simpa [h] using this
theorem tk_sp {c : UInt8} (h : isTk c = true) : c ≠ 10 ∧ c ≠ 35 ∧ c ≠ 32 := by
  unfold isTk at h
  simp only [Bool.and_eq_true, Bool.not_eq_true', beq_eq_false_iff_ne] at h
  exact ⟨h.1.2, h.2, h.1.1⟩

/-! ### Tokens: a word and its line -/
abbrev Tok := List UInt8 × Nat
def fl (n : Nat) (cur : List UInt8) : List Tok := if cur = [] then [] else [(cur, n)]
theorem fl_nil (n : Nat) : fl n [] = [] := rfl
theorem fl_cons {n : Nat} {cur : List UInt8} (h : cur ≠ []) : fl n cur = [(cur, n)] := if_neg h
/-- The tokens of what is left: the line, whether a comment runs, the word so far. -/
def tk : Nat → Bool → List UInt8 → List UInt8 → List Tok
  | n, _, cur, [] => fl n cur
  | n, cm, cur, c :: r =>
    if c = 10 then fl n cur ++ tk (n + 1) false [] r
    else if cm then tk n true cur r
    else if c = 35 then fl n cur ++ tk n true [] r
    else if c = 32 then fl n cur ++ tk n false [] r
    else tk n false (cur ++ [c]) r
def toks (s : List UInt8) : List Tok := tk 1 false [] s
def wof (l : List Tok) : List (List UInt8) := l.map (·.1)
theorem tk_nil (n : Nat) (cm : Bool) (cur : List UInt8) : tk n cm cur [] = fl n cur := by unfold tk; rfl
theorem tk_ten (n : Nat) (cm : Bool) (cur r : List UInt8) : tk n cm cur (10 :: r) = fl n cur ++ tk (n + 1) false [] r := by rw [tk]; rfl
theorem tk_cm (n : Nat) (cur r : List UInt8) {c : UInt8} (h : c ≠ 10) : tk n true cur (c :: r) = tk n true cur r := by rw [tk, if_neg h]; rfl
theorem tk_hash (n : Nat) (cur r : List UInt8) : tk n false cur (35 :: r) = fl n cur ++ tk n true [] r := by rw [tk]; rfl
theorem tk_space (n : Nat) (cur r : List UInt8) : tk n false cur (32 :: r) = fl n cur ++ tk n false [] r := by rw [tk]; rfl
theorem tk_in (n : Nat) (cur r : List UInt8) {c : UInt8} (h : isTk c = true) : tk n false cur (c :: r) = tk n false (cur ++ [c]) r := by
  obtain ⟨h1, h2, h3⟩ := tk_sp h
  rw [tk, if_neg h1, if_neg (by simp), if_neg h2, if_neg h3]
theorem tk_word (n : Nat) (r : List UInt8) : ∀ (w cur : List UInt8), (∀ c ∈ w, isTk c = true) → tk n false cur (w ++ r) = tk n false (cur ++ w) r := by
  intro w
  induction w with
  | nil => intro cur _; simp
  | cons c w ih =>
    intro cur h
    rw [List.cons_append, tk_in n cur _ (h c (by simp)), ih _ (fun d hd => h d (by simp [hd])), List.append_assoc]
    rfl
theorem tk_end (n : Nat) (cur r : List UInt8) (h : ∀ c ∈ r.head?, isTk c = false) : tk n false cur r = fl n cur ++ tk n false [] r := by
  cases r with
  | nil => simp [tk_nil, fl_nil]
  | cons c r =>
    have hc := h c (by simp)
    unfold isTk at hc
    by_cases h1 : c = 10
    · subst h1; rw [tk_ten, tk_ten, fl_nil, List.nil_append]
    by_cases h2 : c = 35
    · subst h2; rw [tk_hash, tk_hash, fl_nil, List.nil_append]
    by_cases h3 : c = 32
    · subst h3; rw [tk_space, tk_space, fl_nil, List.nil_append]
    · simp [h1, h2, h3] at hc
theorem tk_line (n : Nat) (cur r : List UInt8) : ∀ w : List UInt8, (∀ c ∈ w, c ≠ 10) → tk n true cur (w ++ r) = tk n true cur r := by
  intro w
  induction w with
  | nil => intro _; rfl
  | cons c w ih =>
    intro h
    rw [List.cons_append, tk_cm n cur _ (h c (by simp)), ih fun d hd => h d (by simp [hd])]
theorem tk_cmend (n : Nat) (r : List UInt8) (h : ∀ c ∈ r.head?, c = 10) : tk n true [] r = tk n false [] r := by
  cases r with
  | nil => rfl
  | cons c r =>
    obtain rfl := h c (by simp)
    rw [tk_ten, tk_ten]

/-- What is said of a word: not empty, no space in it. -/
def Wd (w : List UInt8) : Prop := w ≠ [] ∧ ∀ c ∈ w, isTk c = true
theorem fl_wd {n : Nat} {cur : List UInt8} (h : ∀ c ∈ cur, isTk c = true) : ∀ t ∈ fl n cur, Wd t.1 := by
  intro t ht
  unfold fl at ht
  split at ht
  · cases ht
  · rename_i hne
    rw [List.mem_singleton.1 ht]
    exact ⟨hne, h⟩
theorem tk_wd : ∀ (s : List UInt8) (n : Nat) (cm : Bool) (cur : List UInt8), (∀ c ∈ cur, isTk c = true) → ∀ t ∈ tk n cm cur s, Wd t.1 := by
  intro s
  induction s with
  | nil => intro n cm cur h t ht; rw [tk_nil] at ht; exact fl_wd h t ht
  | cons c r ih =>
    intro n cm cur h t ht
    rw [tk] at ht
    split at ht
    · rcases List.mem_append.1 ht with ht | ht
      · exact fl_wd h t ht
      · exact ih _ _ _ (by simp) t ht
    split at ht
    · exact ih _ _ _ h t ht
    split at ht
    · rcases List.mem_append.1 ht with ht | ht
      · exact fl_wd h t ht
      · exact ih _ _ _ (by simp) t ht
    split at ht
    · rcases List.mem_append.1 ht with ht | ht
      · exact fl_wd h t ht
      · exact ih _ _ _ (by simp) t ht
    · rename_i h1 h2 h3 h4
      refine ih _ _ _ (fun d hd => ?_) t ht
      rcases List.mem_append.1 hd with hd | hd
      · exact h d hd
      · rw [List.mem_singleton.1 hd]
        unfold isTk
        simp [h1, h3, h4]
theorem toks_wd (s : List UInt8) : ∀ t ∈ toks s, Wd t.1 := tk_wd s 1 false [] (by simp)
theorem wof_wd (s : List UInt8) : ∀ w ∈ wof (toks s), Wd w := fun w hw => by
  obtain ⟨t, ht, rfl⟩ := List.mem_map.1 hw
  exact toks_wd s t ht

/-! ### The kinds of words -/
def nameB (s : List UInt8) : Bool := decide (s ≠ []) && decide (s.length ≤ 40) && (s.take 1).all isLt && s.all isNm
def defN (w : List UInt8) : Option (List UInt8) := if (w.getLast? = some 58) ∧ nameB w.dropLast = true then some w.dropLast else none
def refN (w : List UInt8) : Option (List UInt8) := if (w.head? = some 38) ∧ nameB w.tail = true then some w.tail else none
def codeB (w : List UInt8) : Bool := decide (w ≠ []) && w.all isIn
theorem code_in {w : List UInt8} (h : codeB w = true) : w ≠ [] ∧ ∀ c ∈ w, isIn c = true := by
  unfold codeB at h
  simp only [Bool.and_eq_true, decide_eq_true_eq, List.all_eq_true] at h
  exact h
theorem code_mk {w : List UInt8} (h0 : w ≠ []) (h : ∀ c ∈ w, isIn c = true) : codeB w = true := by
  unfold codeB
  simp only [Bool.and_eq_true, decide_eq_true_eq, List.all_eq_true]
  exact ⟨h0, h⟩
theorem code_wd {w : List UInt8} (h : codeB w = true) : Wd w := ⟨(code_in h).1, fun c hc => in_tk c ((code_in h).2 c hc)⟩
theorem name_parts {s : List UInt8} (h : nameB s = true) : ∃ c r, s = c :: r ∧ isLt c = true ∧ ∀ d ∈ s, isNm d = true := by
  unfold nameB at h
  simp only [Bool.and_eq_true, decide_eq_true_eq, List.all_eq_true] at h
  obtain ⟨⟨⟨h0, _⟩, h2⟩, h3⟩ := h
  cases s with
  | nil => exact absurd rfl h0
  | cons c r => exact ⟨c, r, rfl, h2 c (by simp), h3⟩
theorem def_some {w n : List UInt8} (h : defN w = some n) : w = n ++ [58] ∧ nameB n = true := by
  unfold defN at h
  split at h
  · rename_i hh
    injection h with h
    subst h
    refine ⟨?_, hh.2⟩
    have hne : w ≠ [] := fun e => by rw [e] at hh; simp at hh
    have := hh.1
    rw [List.getLast?_eq_some_getLast hne] at this
    injection this with this
    conv => lhs; rw [← List.dropLast_concat_getLast hne, this]
  · cases h
theorem def_mk {n : List UInt8} (h : nameB n = true) : defN (n ++ [58]) = some n := by
  unfold defN
  rw [List.dropLast_concat, if_pos ⟨by simp, h⟩]
theorem ref_some {w n : List UInt8} (h : refN w = some n) : w = 38 :: n ∧ nameB n = true := by
  unfold refN at h
  split at h
  · rename_i hh
    injection h with h
    subst h
    refine ⟨?_, hh.2⟩
    cases w with
    | nil => simp at hh
    | cons c r => have := hh.1; simp at this; rw [this]; rfl
  · cases h
theorem ref_mk {n : List UInt8} (h : nameB n = true) : refN (38 :: n) = some n := by
  unfold refN
  rw [if_pos ⟨rfl, h⟩]
  rfl
theorem def_code {w : List UInt8} (h : codeB w = true) : defN w = none := by
  rcases e : defN w with _ | n
  · rfl
  · exfalso
    obtain ⟨rfl, hn⟩ := def_some e
    obtain ⟨c, r, rfl, hc, _⟩ := name_parts hn
    have := (code_in h).2 c (by simp)
    rw [lt_in c hc] at this
    cases this
theorem ref_code {w : List UInt8} (h : codeB w = true) : refN w = none := by
  rcases e : refN w with _ | n
  · rfl
  · exfalso
    obtain ⟨rfl, hn⟩ := ref_some e
    have := (code_in h).2 38 (by simp)
    revert this
    decide
theorem ref_def {w n : List UInt8} (h : defN w = some n) : refN w = none := by
  rcases e : refN w with _ | m
  · rfl
  · exfalso
    obtain ⟨rfl, hn⟩ := def_some h
    obtain ⟨c, r, rfl, hc, _⟩ := name_parts hn
    obtain ⟨e1, _⟩ := ref_some e
    injection e1 with e1 _
    subst e1
    revert hc
    decide

/-! ### The first fault -/
def dfs (ws : List (List UInt8)) : List (List UInt8) := ws.filterMap defN
theorem dfs_app (a b : List (List UInt8)) : dfs (a ++ b) = dfs a ++ dfs b := by unfold dfs; rw [List.filterMap_append]
theorem dfs_one (w : List UInt8) : dfs [w] = (defN w).toList := by
  unfold dfs
  rcases e : defN w with _ | n <;> simp [e]
/-- The number of a word's fault: all names that are defined, those that are defined ahead. -/
def flt (D seen : List (List UInt8)) (w : List UInt8) : Nat :=
  match defN w with
  | some n => if n ∈ seen then 8 else 0
  | none => match refN w with
    | some n => if n ∈ D then 0 else 7
    | none => if codeB w then 0 else 3
def chk (D : List (List UInt8)) : List (List UInt8) → List Tok → Nat × Nat
  | _, [] => (0, 0)
  | seen, t :: r => if flt D seen t.1 = 0 then chk D (seen ++ dfs [t.1]) r else (t.2, flt D seen t.1)
theorem chk_ok {D : List (List UInt8)} : ∀ {l : List Tok} {seen}, (chk D seen l).2 = 0 → chk D seen l = (0, 0) := by
  intro l
  induction l with
  | nil => intro seen _; rfl
  | cons t r ih =>
    intro seen h
    rw [chk] at h ⊢
    split at h
    · rename_i h0
      rw [if_pos h0]
      exact ih h
    · rename_i h0
      exact absurd h h0
theorem chk_app {D : List (List UInt8)} : ∀ (a b : List Tok) (seen), chk D seen (a ++ b) = if (chk D seen a).2 = 0 then chk D (seen ++ dfs (wof a)) b else chk D seen a := by
  intro a
  induction a with
  | nil => intro b seen; simp [chk, wof, dfs]
  | cons t r ih =>
    intro b seen
    rw [List.cons_append, chk, chk]
    by_cases h0 : flt D seen t.1 = 0
    · rw [if_pos h0, if_pos h0, ih]
      congr 2
      rw [List.append_assoc, ← dfs_app]
      rfl
    · rw [if_neg h0, if_neg h0, if_neg h0]
/-- All words of a list without a fault. -/
theorem chk_each {D : List (List UInt8)} : ∀ {l : List Tok} {seen}, (chk D seen l).2 = 0 ↔ ∀ k t, l[k]? = some t → flt D (seen ++ dfs (wof (l.take k))) t.1 = 0 := by
  intro l
  induction l with
  | nil => intro seen; simp [chk]
  | cons t r ih =>
    intro seen
    rw [chk]
    by_cases h0 : flt D seen t.1 = 0
    · rw [if_pos h0, ih]
      constructor
      · intro h k u hk
        cases k with
        | zero => simp at hk; subst hk; simpa [wof, dfs] using h0
        | succ k =>
          have := h k u (by simpa using hk)
          rw [List.append_assoc, ← dfs_app] at this
          simpa [wof] using this
      · intro h k u hk
        have := h (k + 1) u (by simpa using hk)
        rw [List.append_assoc, ← dfs_app]
        simpa [wof] using this
    · rw [if_neg h0]
      constructor
      · intro h; exact absurd h h0
      · intro h; exact absurd (by simpa [wof, dfs] using h 0 t (by simp)) h0
theorem chk_code {D : List (List UInt8)} : ∀ {l : List Tok} {seen}, (∀ t ∈ l, codeB t.1 = true) → chk D seen l = (0, 0) := by
  intro l
  induction l with
  | nil => intro seen _; rfl
  | cons t r ih =>
    intro seen h
    have hc := h t (by simp)
    rw [chk, if_pos (by unfold flt; rw [def_code hc, ref_code hc]; simp [hc]), ih fun u hu => h u (by simp [hu])]

/-! ### The text -/
def endsD (t : List UInt8) : Bool := match t.getLast? with | some c => isDg c | none => false
def begD (t : List UInt8) : Bool := match t.head? with | some c => isDg c | none => false
def addT (t a : List UInt8) : List UInt8 := if endsD t && begD a then t ++ 32 :: a else t ++ a
def sixL (n : Nat) : List UInt8 := [n / 100000 % 10, n / 10000 % 10, n / 1000 % 10, n / 100 % 10, n / 10 % 10, n % 10].map fun d => UInt8.ofNat (48 + d)
theorem six_len (n : Nat) : (sixL n).length = 6 := rfl
theorem dg_of (d : Nat) (h : d < 10) : isDg (UInt8.ofNat (48 + d)) = true := by
  have : ∀ e : Fin 10, isDg (UInt8.ofNat (48 + e.1)) = true := by decide
  exact this ⟨d, h⟩
theorem six_dg (n : Nat) : ∀ c ∈ sixL n, isDg c = true := by
  intro c hc
  obtain ⟨d, hd, rfl⟩ := List.mem_map.1 hc
  apply dg_of
  simp only [List.mem_cons, List.not_mem_nil, or_false] at hd
  rcases hd with rfl | rfl | rfl | rfl | rfl | rfl <;> exact Nat.mod_lt _ (by decide)
/-- What a word adds, where the labels have the addresses A. -/
def stp (A : List UInt8 → Nat) (t w : List UInt8) : List UInt8 :=
  match defN w with
  | some _ => t
  | none => match refN w with
    | some n => addT t (sixL (A n))
    | none => addT t w
def bld (A : List UInt8 → Nat) : List UInt8 → List (List UInt8) → List UInt8
  | t, [] => t
  | t, w :: r => bld A (stp A t w) r
def lbs (A : List UInt8 → Nat) (o : Int) : List UInt8 → List (List UInt8) → List (List UInt8 × Int)
  | _, [] => []
  | t, w :: r => (match defN w with | some n => [(n, o + t.length)] | none => []) ++ lbs A o (stp A t w) r
theorem bld_app (A : List UInt8 → Nat) : ∀ (a b : List (List UInt8)) (t), bld A t (a ++ b) = bld A (bld A t a) b := by
  intro a
  induction a with
  | nil => intro b t; rfl
  | cons w r ih => intro b t; rw [List.cons_append, bld, bld, ih]
theorem lbs_app (A : List UInt8 → Nat) (o : Int) : ∀ (a b : List (List UInt8)) (t), lbs A o t (a ++ b) = lbs A o t a ++ lbs A o (bld A t a) b := by
  intro a
  induction a with
  | nil => intro b t; rfl
  | cons w r ih => intro b t; rw [List.cons_append, lbs, lbs, ih, bld, List.append_assoc]
theorem lbs_names (A : List UInt8 → Nat) (o : Int) : ∀ (a : List (List UInt8)) (t), (lbs A o t a).map (·.1) = dfs a := by
  intro a
  induction a with
  | nil => intro t; rfl
  | cons w r ih =>
    intro t
    rw [lbs, List.map_append, ih, show w :: r = [w] ++ r from rfl, dfs_app, dfs_one]
    rcases e : defN w with _ | n <;> simp [e]
theorem addT_len (t a : List UInt8) : t.length ≤ (addT t a).length := by unfold addT; split <;> simp
theorem addT_pre (t a : List UInt8) : ∃ m, addT t a = t ++ m := by
  unfold addT
  split
  · exact ⟨_, rfl⟩
  · exact ⟨_, rfl⟩
theorem stp_pre (A : List UInt8 → Nat) (t w : List UInt8) : ∃ m, stp A t w = t ++ m := by
  unfold stp
  split
  · exact ⟨[], by simp⟩
  · split
    · exact addT_pre _ _
    · exact addT_pre _ _
theorem bld_pre (A : List UInt8 → Nat) : ∀ (l : List (List UInt8)) (t : List UInt8), ∃ m, bld A t l = t ++ m := by
  intro l
  induction l with
  | nil => intro t; exact ⟨[], by simp [bld]⟩
  | cons w r ih =>
    intro t
    obtain ⟨m, hm⟩ := stp_pre A t w
    obtain ⟨k, hk⟩ := ih (stp A t w)
    exact ⟨m ++ k, by rw [bld, hk, hm, List.append_assoc]⟩
theorem bld_len (A : List UInt8 → Nat) (l : List (List UInt8)) (t : List UInt8) : t.length ≤ (bld A t l).length := by
  obtain ⟨m, hm⟩ := bld_pre A l t
  rw [hm]; simp

/-! ### Texts that differ at digits alone -/
def dl : List UInt8 → List UInt8 → Bool
  | [], [] => true
  | c :: r, d :: s => (c == d || isDg c && isDg d) && dl r s
  | _, _ => false
theorem dl_refl : ∀ t, dl t t = true := by
  intro t
  induction t with
  | nil => rfl
  | cons c r ih => rw [dl, ih]; simp
theorem dl_len : ∀ {t u}, dl t u = true → t.length = u.length := by
  intro t
  induction t with
  | nil => intro u h; cases u with | nil => rfl | cons c r => cases h
  | cons c r ih =>
    intro u h
    cases u with
    | nil => cases h
    | cons d s => rw [dl, Bool.and_eq_true] at h; simp [ih h.2]
theorem dl_app : ∀ {t u a b}, dl t u = true → dl a b = true → dl (t ++ a) (u ++ b) = true := by
  intro t
  induction t with
  | nil => intro u a b h k; cases u with | nil => exact k | cons c r => cases h
  | cons c r ih =>
    intro u a b h k
    cases u with
    | nil => cases h
    | cons d s => rw [dl, Bool.and_eq_true] at h; rw [List.cons_append, List.cons_append, dl, h.1, ih h.2 k]; rfl
theorem dl_at : ∀ {t u} (i : Nat) {c d}, dl t u = true → t[i]? = some c → u[i]? = some d → c = d ∨ (isDg c = true ∧ isDg d = true) := by
  intro t
  induction t with
  | nil => intro u i c d h hc; simp at hc
  | cons c r ih =>
    intro u i x y h hc hd
    cases u with
    | nil => cases h
    | cons d s =>
      rw [dl, Bool.and_eq_true] at h
      cases i with
      | zero =>
        simp at hc hd
        subst hc hd
        have := h.1
        simpa using this
      | succ i => exact ih i h.2 (by simpa using hc) (by simpa using hd)
theorem dl_dg : ∀ {a b : List UInt8}, a.length = b.length → (∀ c ∈ a, isDg c = true) → (∀ c ∈ b, isDg c = true) → dl a b = true := by
  intro a
  induction a with
  | nil => intro b h _ _; cases b with | nil => rfl | cons c r => cases h
  | cons c r ih =>
    intro b h ha hb
    cases b with
    | nil => cases h
    | cons d s =>
      rw [dl, ih (by simpa using h) (fun x hx => ha x (by simp [hx])) (fun x hx => hb x (by simp [hx])), ha c (by simp), hb d (by simp)]
      simp
theorem isDg_ends {t u : List UInt8} (h : dl t u = true) : endsD t = endsD u := by
  have hl := dl_len h
  unfold endsD
  rw [List.getLast?_eq_getElem?, List.getLast?_eq_getElem?, ← hl]
  rcases e : t[t.length - 1]? with _ | c
  · have : u[t.length - 1]? = none := by
      rw [List.getElem?_eq_none_iff] at e ⊢
      omega
    rw [this]
  · have hlt := (List.getElem?_eq_some_iff.1 e).1
    have e2 : u[t.length - 1]? = some (u[t.length - 1]'(by omega)) := List.getElem?_eq_getElem _
    rw [e2]
    rcases dl_at _ h e e2 with h | ⟨h1, h2⟩
    · rw [h]
    · dsimp only; rw [h1, h2]
theorem isDg_begs {t u : List UInt8} (h : dl t u = true) : begD t = begD u := by
  unfold begD
  cases t with
  | nil => cases u with | nil => rfl | cons c r => cases h
  | cons c r =>
    cases u with
    | nil => cases h
    | cons d s =>
      rw [dl, Bool.and_eq_true] at h
      have := h.1
      simp only [Bool.or_eq_true, beq_iff_eq, Bool.and_eq_true] at this
      simp only [List.head?_cons]
      rcases this with rfl | ⟨h1, h2⟩
      · rfl
      · rw [h1, h2]
theorem dl_add {t u a b : List UInt8} (h : dl t u = true) (k : dl a b = true) : dl (addT t a) (addT u b) = true := by
  unfold addT
  rw [isDg_ends h, isDg_begs k]
  split
  · exact dl_app h (by rw [dl, k]; simp)
  · exact dl_app h k
theorem dl_stp (A B : List UInt8 → Nat) {t u : List UInt8} (w : List UInt8) (h : dl t u = true) : dl (stp A t w) (stp B u w) = true := by
  unfold stp
  split
  · exact h
  · split
    · exact dl_add h (dl_dg rfl (six_dg _) (six_dg _))
    · exact dl_add h (dl_refl w)
theorem dl_bld (A B : List UInt8 → Nat) : ∀ (l : List (List UInt8)) {t u : List UInt8}, dl t u = true → dl (bld A t l) (bld B u l) = true := by
  intro l
  induction l with
  | nil => intro t u h; exact h
  | cons w r ih => intro t u h; exact ih (dl_stp A B w h)
theorem lbs_dl (A B : List UInt8 → Nat) (o : Int) : ∀ (l : List (List UInt8)) {t u : List UInt8}, dl t u = true → lbs A o t l = lbs B o u l := by
  intro l
  induction l with
  | nil => intro t u h; rfl
  | cons w r ih =>
    intro t u h
    rw [lbs, lbs, dl_len h, ih (dl_stp A B w h)]
theorem bld_len_eq (A B : List UInt8 → Nat) (l : List (List UInt8)) : (bld A [] l).length = (bld B [] l).length := dl_len (dl_bld A B l rfl)
theorem lbs_eq (A B : List UInt8 → Nat) (o : Int) (l : List (List UInt8)) : lbs A o [] l = lbs B o [] l := lbs_dl A B o l rfl

/-! ### The whole -/
def look (L : List (List UInt8 × Int)) (n : List UInt8) : Int := match L.find? (fun p => p.1 == n) with | some p => p.2 | none => 0
def adr (L : List (List UInt8 × Int)) (n : List UInt8) : Nat := (look L n).toNat
def nul (_ : List UInt8) : Nat := 0
structure Asm where
  text : List UInt8
  labs : List (List UInt8 × Int)
  line : Nat
  err : Nat
def asmW (ts : List Tok) (o : Int) : Asm :=
  if (chk (dfs (wof ts)) [] ts).2 ≠ 0 then ⟨[], [], (chk (dfs (wof ts)) [] ts).1, (chk (dfs (wof ts)) [] ts).2⟩
  else if 40000 < (bld nul [] (wof ts)).length then ⟨[], [], 0, 6⟩
  else ⟨bld (adr (lbs nul o [] (wof ts))) [] (wof ts), lbs nul o [] (wof ts), 0, 0⟩
def asm (s : List UInt8) (o : Int) : Asm := if o < 0 ∨ 262144 ≤ o then ⟨[], [], 0, 2⟩ else asmW (toks s) o
end Go.Proofs.YtpbcncfbfbghcaaGreatDoor.A18
namespace Go.Proofs.YtpbcncfbfbghcaaGreatDoor.A18
open Mem
set_option linter.unusedVariables false
set_option linter.unusedSimpArgs false

/-! ### What an assembled source says -/
structure AsmOk (s : List UInt8) (o : Int) : Prop where
  o0 : 0 ≤ o
  o1 : o < 262144
  flts : ∀ k t, (toks s)[k]? = some t → flt (dfs (wof (toks s))) (dfs (wof ((toks s).take k))) t.1 = 0
  len : (bld nul [] (wof (toks s))).length ≤ 40000
  eq : asm s o = ⟨bld (adr (lbs nul o [] (wof (toks s)))) [] (wof (toks s)), lbs nul o [] (wof (toks s)), 0, 0⟩
theorem flt_ne (D seen : List (List UInt8)) (w : List UInt8) : flt D seen w = 0 ∨ flt D seen w = 3 ∨ flt D seen w = 7 ∨ flt D seen w = 8 := by
  unfold flt
  split
  · split <;> simp
  · split
    · split <;> simp
    · split <;> simp
theorem chk_num {D : List (List UInt8)} : ∀ {l : List Tok} {seen}, (chk D seen l).2 = 0 ∨ (chk D seen l).2 = 3 ∨ (chk D seen l).2 = 7 ∨ (chk D seen l).2 = 8 := by
  intro l
  induction l with
  | nil => intro seen; exact .inl rfl
  | cons t r ih =>
    intro seen
    rw [chk]
    split
    · exact ih
    · exact flt_ne _ _ _
theorem asm_ok {s : List UInt8} {o : Int} (h : (asm s o).err = 0) : AsmOk s o := by
  have hh := h
  unfold asm at h
  split at h
  · cases h
  · rename_i ho
    unfold asmW at h
    split at h
    · rename_i h1
      exact absurd h h1
    · rename_i h1
      split at h
      · cases h
      · rename_i h2
        have h1 : (chk (dfs (wof (toks s))) [] (toks s)).2 = 0 := by
          by_cases e : (chk (dfs (wof (toks s))) [] (toks s)).2 = 0
          · exact e
          · exact absurd e h1
        refine ⟨by omega, by omega, fun k t hk => ?_, by omega, ?_⟩
        · have := (chk_each.1 h1) k t hk
          simpa using this
        · unfold asm asmW
          rw [if_neg ho, if_neg (by rw [h1]; simp), if_neg h2]
theorem asm_mk {s : List UInt8} {o : Int} (o0 : 0 ≤ o) (o1 : o < 262144) (hf : (chk (dfs (wof (toks s))) [] (toks s)).2 = 0) (hl : (bld nul [] (wof (toks s))).length ≤ 40000) :
    asm s o = ⟨bld (adr (lbs nul o [] (wof (toks s)))) [] (wof (toks s)), lbs nul o [] (wof (toks s)), 0, 0⟩ := by
  unfold asm asmW
  rw [if_neg (by omega), if_neg (by rw [hf]; simp), if_neg (by omega)]
theorem asm_bad {s : List UInt8} {o : Int} (h : (asm s o).err ≠ 0) : (asm s o).text = [] ∧ (asm s o).labs = [] := by
  unfold asm at h ⊢
  split
  · exact ⟨rfl, rfl⟩
  · rename_i ho
    rw [if_neg ho] at h
    unfold asmW at h ⊢
    split
    · exact ⟨rfl, rfl⟩
    · rename_i h1
      rw [if_neg h1] at h
      split
      · exact ⟨rfl, rfl⟩
      · rename_i h2
        rw [if_neg h2] at h
        exact absurd rfl h

/-! ### Another origin -/
theorem lbs_shift (A : List UInt8 → Nat) (o : Int) : ∀ (l : List (List UInt8)) (t : List UInt8), lbs A o t l = (lbs A 0 t l).map fun p => (p.1, o + p.2) := by
  intro l
  induction l with
  | nil => intro t; rfl
  | cons w r ih =>
    intro t
    rw [lbs, lbs, ih, List.map_append]
    congr 1
    rcases e : defN w with _ | n <;> simp [e]
structure Org (x y : Asm) (a b : Int) : Prop where
  line : x.line = y.line
  err : x.err = y.err
  text : dl x.text y.text = true
  labs : x.labs.map (fun p => (p.1, p.2 - a)) = y.labs.map fun p => (p.1, p.2 - b)
theorem origin_of (s : List UInt8) {a b : Int} (a0 : 0 ≤ a) (a1 : a < 262144) (b0 : 0 ≤ b) (b1 : b < 262144) : Org (asm s a) (asm s b) a b := by
  unfold asm
  rw [if_neg (show ¬ (a < 0 ∨ 262144 ≤ a) by omega), if_neg (show ¬ (b < 0 ∨ 262144 ≤ b) by omega)]
  unfold asmW
  split
  · exact ⟨rfl, rfl, rfl, rfl⟩
  · split
    · exact ⟨rfl, rfl, rfl, rfl⟩
    · refine ⟨rfl, rfl, dl_bld _ _ _ rfl, ?_⟩
      dsimp only
      rw [lbs_shift nul a, lbs_shift nul b, List.map_map, List.map_map]
      congr 1
      funext p
      simp only [Function.comp]
      congr 1
      omega

/-! ### Two sources, one behind the other -/
theorem tk_join : ∀ (a b cur : List UInt8) (n : Nat) (cm : Bool), ∃ m, tk n cm cur (a ++ 10 :: b) = tk n cm cur a ++ tk m false [] b := by
  intro a
  induction a with
  | nil => intro b cur n cm; exact ⟨n + 1, by rw [List.nil_append, tk_ten, tk_nil]⟩
  | cons c r ih =>
    intro b cur n cm
    rw [List.cons_append, tk, tk]
    split
    · obtain ⟨m, hm⟩ := ih b [] (n + 1) false
      exact ⟨m, by rw [hm, List.append_assoc]⟩
    split
    · exact ih b cur n true
    split
    · obtain ⟨m, hm⟩ := ih b [] n true
      exact ⟨m, by rw [hm, List.append_assoc]⟩
    split
    · obtain ⟨m, hm⟩ := ih b [] n false
      exact ⟨m, by rw [hm, List.append_assoc]⟩
    · exact ih b (cur ++ [c]) n false
theorem bld_congr {A B : List UInt8 → Nat} : ∀ {l : List (List UInt8)} {t : List UInt8}, (∀ w ∈ l, ∀ n, refN w = some n → A n = B n) → bld A t l = bld B t l := by
  intro l
  induction l with
  | nil => intro t _; rfl
  | cons w r ih =>
    intro t h
    rw [bld, bld, ih fun x hx => h x (by simp [hx])]
    congr 1
    unfold stp
    split
    · rfl
    · split
      · rename_i n hn
        rw [h w (by simp) n hn]
      · rfl
theorem look_app {L M : List (List UInt8 × Int)} {n : List UInt8} (h : n ∈ L.map (·.1)) : look (L ++ M) n = look L n := by
  unfold look
  rw [List.find?_append]
  obtain ⟨p, hp, rfl⟩ := List.mem_map.1 h
  rcases e : L.find? (fun q => q.1 == p.1) with _ | q
  · have := List.find?_eq_none.1 e p hp
    simp at this
  · rw [e]; rfl
theorem wof_app (a b : List Tok) : wof (a ++ b) = wof a ++ wof b := by unfold wof; rw [List.map_append]
theorem flt_ref {D seen : List (List UInt8)} {w n : List UInt8} (h : flt D seen w = 0) (hr : refN w = some n) : n ∈ D := by
  unfold flt at h
  split at h
  · rename_i m hm
    rw [ref_def hm] at hr
    cases hr
  · rw [hr] at h
    dsimp only at h
    split at h
    · assumption
    · cases h
theorem concat_of {a b : List UInt8} {o : Int} (ha : (asm a o).err = 0) (hb : (asm (a ++ 10 :: b) o).err = 0) :
    (∃ m, (asm (a ++ 10 :: b) o).labs = (asm a o).labs ++ m) ∧ ∃ m, (asm (a ++ 10 :: b) o).text = (asm a o).text ++ m := by
  have A := asm_ok ha
  have B := asm_ok hb
  obtain ⟨k, hk⟩ := tk_join a b [] 1 false
  have hw : wof (toks (a ++ 10 :: b)) = wof (toks a) ++ wof (tk k false [] b) := by
    unfold toks
    rw [hk, wof_app]
  rw [A.eq, B.eq]
  dsimp only
  rw [hw]
  refine ⟨⟨_, lbs_app _ _ _ _ _⟩, ?_⟩
  rw [bld_app]
  obtain ⟨m, hm⟩ := bld_pre (adr (lbs nul o [] (wof (toks a) ++ wof (tk k false [] b)))) (wof (tk k false [] b)) (bld (adr (lbs nul o [] (wof (toks a) ++ wof (tk k false [] b)))) [] (wof (toks a)))
  refine ⟨m, ?_⟩
  rw [hm]
  congr 1
  refine bld_congr fun w hw n hn => ?_
  unfold adr
  rw [lbs_app, look_app]
  rw [lbs_names]
  obtain ⟨t, ht, rfl⟩ := List.mem_map.1 hw
  obtain ⟨i, hi⟩ := List.mem_iff_getElem?.1 ht
  exact flt_ref (A.flts i t hi) hn

/-! ### Words between single spaces -/
def jn : List (List UInt8) → List UInt8
  | [] => []
  | [w] => w
  | w :: v :: r => w ++ 32 :: jn (v :: r)
theorem jn_cons (w : List UInt8) {l : List (List UInt8)} (h : l ≠ []) : jn (w :: l) = w ++ 32 :: jn l := by
  cases l with
  | nil => exact absurd rfl h
  | cons v r => rfl
theorem jn_snoc : ∀ (l : List (List UInt8)) (w : List UInt8), jn (l ++ [w]) = if l = [] then w else jn l ++ 32 :: w := by
  intro l
  induction l with
  | nil => intro w; rfl
  | cons v r ih =>
    intro w
    by_cases h : r = []
    · subst h; rfl
    · rw [List.cons_append, jn_cons v (by simp), ih, if_neg h, if_neg (by simp), jn_cons v h]; simp
theorem toks_jn : ∀ (l : List (List UInt8)) (n : Nat), (∀ w ∈ l, Wd w) → tk n false [] (jn l) = l.map fun w => (w, n) := by
  intro l n
  induction l with
  | nil => intro _; rfl
  | cons w r ih =>
    intro h
    have hw := h w (by simp)
    by_cases hr : r = []
    · subst hr
      have := tk_word n [] w [] hw.2
      rw [List.append_nil, List.nil_append] at this
      show tk n false [] w = _
      rw [this, tk_nil, fl_cons hw.1]
      rfl
    · rw [jn_cons w hr, tk_word n _ w [] hw.2, List.nil_append, tk_space, fl_cons hw.1, ih fun v hv => h v (by simp [hv])]
      rfl
/-- A space ahead of each word. -/
def sj (l : List (List UInt8)) : List UInt8 := l.flatMap fun w => 32 :: w
theorem sj_snoc (l : List (List UInt8)) (w : List UInt8) : sj (l ++ [w]) = sj l ++ 32 :: w := by simp [sj]
theorem toks_sj : ∀ (l : List (List UInt8)) (n : Nat), (∀ w ∈ l, Wd w) → tk n false [] (sj l) = l.map fun w => (w, n) := by
  intro l n
  induction l with
  | nil => intro _; rfl
  | cons w r ih =>
    intro h
    have hw := h w (by simp)
    have ih := ih fun v hv => h v (by simp [hv])
    show tk n false [] (32 :: w ++ sj r) = _
    rw [List.cons_append, tk_space, fl_nil, List.nil_append, tk_word n _ w [] hw.2, List.nil_append, tk_end n w, ih, fl_cons hw.1]
    · rfl
    · intro c hc
      cases r with
      | nil => simp [sj] at hc
      | cons v r => simp [sj] at hc; subst hc; rfl
theorem wof_const (l : List (List UInt8)) (n : Nat) : wof (l.map fun w => (w, n)) = l := by
  unfold wof
  rw [List.map_map]
  exact List.map_id' _ |>.symm ▸ rfl

/-! ### The labels -/
/-- Zeros for a reference. -/
def rep (w : List UInt8) : List UInt8 := if w.head? = some 38 then [48, 48, 48, 48, 48, 48] else w
def plw (ws : List (List UInt8)) : List (List UInt8) := (ws.filter fun w => (defN w).isNone).map rep
theorem plw_app (a b : List (List UInt8)) : plw (a ++ b) = plw a ++ plw b := by unfold plw; rw [List.filter_append, List.map_append]
def Good (w : List UInt8) : Prop := (∃ n, defN w = some n) ∨ (∃ n, refN w = some n) ∨ codeB w = true
theorem flt_good {D seen : List (List UInt8)} {w : List UInt8} (h : flt D seen w = 0) : Good w := by
  unfold flt at h
  split at h
  · exact .inl ⟨_, by assumption⟩
  · split at h
    · exact .inr (.inl ⟨_, by assumption⟩)
    · split at h
      · exact .inr (.inr (by assumption))
      · cases h
theorem flt_new {D seen : List (List UInt8)} {w n : List UInt8} (h : flt D seen w = 0) (hd : defN w = some n) : n ∉ seen := by
  unfold flt at h
  rw [hd] at h
  dsimp only at h
  split at h
  · cases h
  · assumption
theorem code_head {w : List UInt8} (h : codeB w = true) : w.head? ≠ some 38 := by
  obtain ⟨h0, h1⟩ := code_in h
  cases w with
  | nil => exact absurd rfl h0
  | cons c r =>
    intro e
    simp at e
    subst e
    have := h1 38 (by simp)
    revert this
    decide
theorem rep_ref {w n : List UInt8} (h : refN w = some n) : rep w = [48, 48, 48, 48, 48, 48] := by
  obtain ⟨rfl, _⟩ := ref_some h
  rfl
theorem rep_code {w : List UInt8} (h : codeB w = true) : rep w = w := if_neg (code_head h)
theorem zeros_code : codeB [48, 48, 48, 48, 48, 48] = true := by decide
theorem plw_code {ws : List (List UInt8)} (h : ∀ w ∈ ws, Good w) : ∀ w ∈ plw ws, codeB w = true := by
  intro w hw
  obtain ⟨v, hv, rfl⟩ := List.mem_map.1 hw
  obtain ⟨hv, hn⟩ := List.mem_filter.1 hv
  rcases h v hv with ⟨n, e⟩ | ⟨n, e⟩ | e
  · rw [e] at hn; cases hn
  · rw [rep_ref e]; exact zeros_code
  · rw [rep_code e]; exact e
theorem dl_plw (A : List UInt8 → Nat) : ∀ {ws : List (List UInt8)} {t u : List UInt8}, (∀ w ∈ ws, Good w) → dl t u = true → dl (bld A t (plw ws)) (bld nul u ws) = true := by
  intro ws
  induction ws with
  | nil => intro t u _ h; exact h
  | cons w r ih =>
    intro t u hg h
    have hr : ∀ w ∈ r, Good w := fun x hx => hg x (by simp [hx])
    rcases hg w (by simp) with ⟨n, e⟩ | ⟨n, e⟩ | e
    · have : plw (w :: r) = plw r := by unfold plw; rw [List.filter_cons]; simp [e]
      rw [this, bld]
      refine ih hr ?_
      unfold stp
      rw [e]
      exact h
    · have hd : defN w = none := by
        rcases e2 : defN w with _ | m
        · rfl
        · rw [ref_def e2] at e; cases e
      have : plw (w :: r) = rep w :: plw r := by unfold plw; rw [List.filter_cons]; simp [hd]
      rw [this, rep_ref e, bld, bld]
      refine ih hr ?_
      unfold stp
      rw [hd, e, def_code zeros_code, ref_code zeros_code]
      exact dl_add h (dl_dg rfl (by decide) (six_dg _))
    · have hd := def_code e
      have : plw (w :: r) = rep w :: plw r := by unfold plw; rw [List.filter_cons]; simp [hd]
      rw [this, rep_code e, bld, bld]
      refine ih hr ?_
      unfold stp
      rw [hd, ref_code e]
      exact dl_add h (dl_refl w)
/-- The text of the words so far, as the law assembles it. -/
theorem front_of {s : List UInt8} {o : Int} (h : AsmOk s o) (k : Nat) :
    (asm (sj (plw ((wof (toks s)).take k))) o).err = 0 ∧ (asm (sj (plw ((wof (toks s)).take k))) o).text.length = (bld nul [] ((wof (toks s)).take k)).length := by
  have hg : ∀ w ∈ (wof (toks s)).take k, Good w := fun w hw => by
    obtain ⟨t, ht, rfl⟩ := List.mem_map.1 (List.mem_of_mem_take hw)
    obtain ⟨i, hi⟩ := List.mem_iff_getElem?.1 ht
    exact flt_good (h.flts i t hi)
  have hc := plw_code hg
  have ht : toks (sj (plw ((wof (toks s)).take k))) = (plw ((wof (toks s)).take k)).map fun w => (w, 1) := toks_sj _ 1 fun w hw => code_wd (hc w hw)
  have hl : ∀ A, (bld A [] (plw ((wof (toks s)).take k))).length = (bld nul [] ((wof (toks s)).take k)).length := fun A => dl_len (dl_plw A hg rfl)
  have hle : (bld nul [] ((wof (toks s)).take k)).length ≤ 40000 := by
    have h1 := h.len
    have h2 : bld nul [] (wof (toks s)) = bld nul (bld nul [] ((wof (toks s)).take k)) ((wof (toks s)).drop k) := by rw [← bld_app, List.take_append_drop]
    rw [h2] at h1
    exact Nat.le_trans (bld_len _ _ _) h1
  rw [asm_mk h.o0 h.o1 (by rw [ht]; rw [chk_code]; intro t ht; obtain ⟨w, hw, rfl⟩ := List.mem_map.1 ht; exact hc w hw) (by rw [ht, wof_const, hl]; exact hle)]
  refine ⟨rfl, ?_⟩
  dsimp only
  rw [ht, wof_const, hl]
/-- The label of a definition. -/
theorem label_of {s : List UInt8} {o : Int} (h : AsmOk s o) {k : Nat} {w n : List UInt8} (hk : (wof (toks s))[k]? = some w) (hd : defN w = some n) :
    (asm s o).labs[(dfs ((wof (toks s)).take k)).length]? = some (n, o + ((asm (sj (plw ((wof (toks s)).take k))) o).text.length : Int)) := by
  rw [(front_of h k).2, h.eq]
  dsimp only
  have hlt : k < (wof (toks s)).length := (List.getElem?_eq_some_iff.1 hk).1
  have e : wof (toks s) = (wof (toks s)).take k ++ w :: (wof (toks s)).drop (k + 1) := by
    rw [← (List.getElem?_eq_some_iff.1 hk).2, List.getElem_cons_drop, List.take_append_drop]
  have e2 : lbs nul o [] (wof (toks s)) = lbs nul o [] ((wof (toks s)).take k) ++ lbs nul o (bld nul [] ((wof (toks s)).take k)) (w :: (wof (toks s)).drop (k + 1)) := by
    rw [← lbs_app, ← e]
  have hlen : (lbs nul o [] ((wof (toks s)).take k)).length = (dfs ((wof (toks s)).take k)).length := by rw [← lbs_names nul o _ [], List.length_map]
  rw [e2, List.getElem?_append_right (by omega), hlen, Nat.sub_self, lbs, hd]
  rfl
theorem labels_all {s : List UInt8} {o : Int} (h : AsmOk s o) : (asm s o).labs.length = (dfs (wof (toks s))).length := by
  rw [h.eq]
  dsimp only
  rw [← lbs_names nul o _ [], List.length_map]
theorem text_len {s : List UInt8} {o : Int} (h : AsmOk s o) : (asm s o).text.length = (bld nul [] (wof (toks s))).length := by
  rw [h.eq]
  exact bld_len_eq _ _ _
/-- The law's own test of a definition. -/
def defT (w : List UInt8) : Bool := decide (1 < w.length) && (w.getLast? == some 58) && (w.take 1).all isLt
theorem def_test {w : List UInt8} (h : Good w) (hw : w ≠ []) : defT w = (defN w).isSome := by
  rcases h with ⟨n, e⟩ | ⟨n, e⟩ | e
  · rw [e]
    obtain ⟨rfl, hn⟩ := def_some e
    obtain ⟨c, r, rfl, hc, _⟩ := name_parts hn
    have e1 : (c :: r ++ [58]).getLast? = some 58 := by rw [List.getLast?_append]; rfl
    unfold defT
    rw [e1]
    simp [hc]
  · have hd : defN w = none := by
      rcases e2 : defN w with _ | m
      · rfl
      · rw [ref_def e2] at e; cases e
    rw [hd]
    obtain ⟨rfl, _⟩ := ref_some e
    unfold defT
    rw [show (List.take 1 (38 :: n)).all isLt = false by simp; decide]
    simp
  · rw [def_code e]
    obtain ⟨h0, h1⟩ := code_in e
    unfold defT
    cases w with
    | nil => exact absurd rfl h0
    | cons c r =>
      have : isLt c = false := by
        rcases e2 : isLt c with _ | _
        · rfl
        · have := lt_in c e2
          rw [h1 c (by simp)] at this
          cases this
      simp [this]
end Go.Proofs.YtpbcncfbfbghcaaGreatDoor.A18
namespace Go.Proofs.YtpbcncfbfbghcaaGreatDoor.S14
open Go.RowKit Mem
set_option linter.unusedVariables false
set_option linter.unusedSimpArgs false

theorem add_none (b o k : Nat) : (⟨b, o, none⟩ : Addr).add k = ⟨b, o + k, none⟩ := by
  by_cases h : k = 0
  · subst h; rfl
  · simp [Addr.add, h]
theorem rd_each {α : Type} {w : World} {base b o s : Nat} {enc : α → List Value} {p : α → Prop} (hs : 0 < s) (hl : ∀ x, (enc x).length = s) : ∀ n, (∀ i, i < n → ∃ x, p x ∧ w.cells? base ((⟨b, o, none⟩ : Addr).add (i * s)) s = some (enc x)) →
    ∃ l : List α, l.length = n ∧ (∀ x ∈ l, p x) ∧ Rd w (some ⟨b, o, none⟩) (l.flatMap enc)
  | 0, _ => ⟨[], rfl, fun x h => (by cases h), fun j h => (by simp at h)⟩
  | n + 1, h => by
    obtain ⟨l, h1, h2, h3⟩ := rd_each hs hl n fun i hi => h i (by omega)
    obtain ⟨x, hx, hc⟩ := h n (by omega)
    have hlen : (l.flatMap enc).length = n * s := by
      rw [← h1]
      clear h1 h2 h3 hc
      induction l with
      | nil => simp
      | cons y l ih => rw [List.flatMap_cons, List.length_append, hl, ih, List.length_cons, Nat.succ_mul]; omega
    refine ⟨l ++ [x], by rw [List.length_append, h1]; rfl, fun y hy => ?_, fun j hj => ?_⟩
    · rcases List.mem_append.1 hy with hy | hy
      · exact h2 y hy
      · rw [List.mem_singleton.1 hy]; exact hx
    · have e : (l ++ [x]).flatMap enc = l.flatMap enc ++ enc x := by simp
      have hj2 := hj
      rw [e, List.length_append, hlen, hl] at hj2
      obtain ⟨_, _, hcell⟩ := World.cells?_some hc
      have hb0 := hcell 0 hs
      rw [add_none, add_none, List.getElem?_eq_getElem (by rw [hl]; exact hs)] at hb0
      refine ⟨b, o, rfl, World.block_lt_of_cell? _ _ hb0, ?_⟩
      have e2 : ((l ++ [x]).flatMap enc)[j]? = (l.flatMap enc ++ enc x)[j]? := by rw [e]
      rw [List.getElem?_eq_getElem hj] at e2
      rw [e2]
      by_cases hjn : j < n * s
      · obtain ⟨b', o', e', _, h4⟩ := h3 j (by rw [hlen]; exact hjn)
        injection e' with e'
        injection e' with e5 e6
        subst e5 e6
        rw [h4, List.getElem?_append_left (by rw [hlen]; exact hjn), List.getElem?_eq_getElem (by rw [hlen]; exact hjn)]
      · have := hcell (j - n * s) (by omega)
        rw [add_none, add_none, show o + n * s + (j - n * s) = o + j by omega] at this
        rw [this, List.getElem?_append_right (by rw [hlen]; omega), hlen]
theorem rd_slice {α : Type} {w : World} {base s n : Nat} {a : Addr} {enc : α → List Value} {p : α → Prop} (hs : 0 < s) (hl : ∀ x, (enc x).length = s) (h : ∀ i, i < n → ∃ x, p x ∧ w.cells? base (a.add (i * s)) s = some (enc x)) :
    ∃ l : List α, l.length = n ∧ (∀ x ∈ l, p x) ∧ Rd w (some a) (l.flatMap enc) := by
  rcases Nat.eq_zero_or_pos n with rfl | hn
  · exact ⟨[], rfl, fun x h => (by cases h), fun j h => (by simp at h)⟩
  · obtain ⟨b, o, spot⟩ := a
    obtain ⟨x, _, hc⟩ := h 0 hn
    obtain ⟨_, _, hcell⟩ := World.cells?_some hc
    have h0 := hcell 0 hs
    rw [Nat.zero_mul, List.getElem?_eq_getElem (by rw [hl]; exact hs)] at h0
    have hspot : spot = none := by simpa [Addr.add] using World.cell?_spot h0
    subst hspot
    exact rd_each hs hl n h
/-- The cells of the struct i of a slice. -/
theorem flat_get {α : Type} {s : Nat} {enc : α → List Value} (hl : ∀ x, (enc x).length = s) : ∀ (l : List α) (i j : Nat) (hi : i < l.length), j < s → (l.flatMap enc)[i * s + j]? = (enc l[i])[j]?
  | x :: l, 0, j, _, hj => by
    rw [List.flatMap_cons, Nat.zero_mul, Nat.zero_add, List.getElem?_append_left (by rw [hl]; exact hj)]
    rfl
  | x :: l, i + 1, j, hi, hj => by
    have := flat_get hl l i j (by simpa using hi) hj
    rw [List.flatMap_cons, List.getElem?_append_right (by rw [hl, Nat.succ_mul]; omega), hl, show (i + 1) * s + j - s = i * s + j by rw [Nat.succ_mul]; omega, this]
    rfl
theorem flat_len {α : Type} {s : Nat} {enc : α → List Value} (hl : ∀ x, (enc x).length = s) : ∀ l : List α, (l.flatMap enc).length = l.length * s
  | [] => by simp
  | x :: l => by rw [List.flatMap_cons, List.length_append, hl, flat_len hl l, List.length_cons, Nat.succ_mul]; omega
/-- One struct of a slice, read. -/
theorem Rd.struct {α : Type} {s : Nat} {enc : α → List Value} (hl : ∀ x, (enc x).length = s) {w : World} {A : Option Addr} {l : List α} (h : Rd w A (l.flatMap enc)) (hs : 0 < s) {i : Nat} (hi : i < l.length) :
    ∃ b o : Nat, A = some ⟨b, o, none⟩ ∧ b < w.heap.size ∧ ∀ (j : Nat) (u : Value), (enc l[i])[j]? = some u → w.cell? ⟨b, o + (i * s + j), none⟩ = some u := by
  have hlen := flat_len hl l
  have hlt : ∀ j, j < s → i * s + j < (l.flatMap enc).length := fun j hj => by
    rw [hlen]
    have : (i + 1) * s ≤ l.length * s := Nat.mul_le_mul_right s hi
    rw [Nat.succ_mul] at this
    omega
  obtain ⟨b, o, e, hb, _⟩ := h (i * s + 0) (hlt 0 hs)
  refine ⟨b, o, e, hb, fun j u hu => ?_⟩
  have hj : j < s := by
    have := (List.getElem?_eq_some_iff.1 hu).1
    rw [hl] at this
    exact this
  obtain ⟨b', o', e', _, hc⟩ := h (i * s + j) (hlt j hj)
  rw [e] at e'
  injection e' with e'
  injection e' with e5 e6
  subst e5 e6
  rw [hc]
  have := flat_get hl l i j hi hj
  rw [List.getElem?_eq_getElem (hlt j hj), hu] at this
  exact this
end Go.Proofs.YtpbcncfbfbghcaaGreatDoor.S14
namespace Go.Proofs.YtpbcncfbfbghcaaGreatDoor.L19
open Mem
set_option linter.unusedVariables false
set_option linter.unusedSimpArgs false

theorem nval_from (l : List UInt8) : ∀ a, l.foldl (fun a c => 10 * a + (c.toNat - 48)) a = a * 10 ^ l.length + nval l := by
  induction l with
  | nil => intro a; simp [nval]
  | cons c r ih =>
    intro a
    unfold nval
    rw [List.foldl_cons, List.foldl_cons, ih, ih (10 * 0 + _), List.length_cons, Nat.pow_succ, Nat.add_mul, show 10 * 0 + (c.toNat - 48) = c.toNat - 48 by omega]
    have : 10 * a * 10 ^ r.length = a * (10 ^ r.length * 10) := by rw [Nat.mul_comm 10 a, Nat.mul_assoc, Nat.mul_comm 10]
    omega
theorem nval_cons (c : UInt8) (r : List UInt8) : nval (c :: r) = (c.toNat - 48) * 10 ^ r.length + nval r := by
  have := nval_from r (10 * 0 + (c.toNat - 48))
  rw [show 10 * 0 + (c.toNat - 48) = c.toNat - 48 by omega] at this
  rw [← this]
  unfold nval
  rw [List.foldl_cons, show 10 * 0 + (c.toNat - 48) = c.toNat - 48 by omega]
theorem dg_range {c : UInt8} (h : isDg c = true) : 48 ≤ c.toNat ∧ c.toNat ≤ 57 := by simpa [isDg] using h
theorem nval_lt (l : List UInt8) (h : ∀ c ∈ l, isDg c = true) : nval l < 10 ^ l.length := by
  induction l with
  | nil => simp [nval]
  | cons c r ih =>
    have h1 := dg_range (h c List.mem_cons_self)
    have h2 := ih (fun d hd => h d (List.mem_cons_of_mem _ hd))
    rw [nval_cons, List.length_cons, Nat.pow_succ]
    have : (c.toNat - 48) * 10 ^ r.length ≤ 9 * 10 ^ r.length := Nat.mul_le_mul_right _ (by omega)
    omega
theorem less_iff : ∀ (a b : List UInt8), a.length = b.length → (∀ c ∈ a, isDg c = true) → (∀ c ∈ b, isDg c = true) → Op.bytesLess a b = decide (nval a < nval b) ∧ (a == b) = decide (nval a = nval b)
  | [], [], _, _, _ => by simp [Op.bytesLess]
  | [], _ :: _, h, _, _ => by simp at h
  | _ :: _, [], h, _, _ => by simp at h
  | c :: r, d :: q, h, ha, hb => by
    have hl : r.length = q.length := by simpa using h
    obtain ⟨i1, i2⟩ := less_iff r q hl (fun x hx => ha x (List.mem_cons_of_mem _ hx)) (fun x hx => hb x (List.mem_cons_of_mem _ hx))
    have h1 := dg_range (ha c List.mem_cons_self)
    have h2 := dg_range (hb d List.mem_cons_self)
    have r1 := nval_lt r (fun x hx => ha x (List.mem_cons_of_mem _ hx))
    have r2 := nval_lt q (fun x hx => hb x (List.mem_cons_of_mem _ hx))
    rw [hl] at r1
    have e1 : nval (c :: r) = (c.toNat - 48) * 10 ^ q.length + nval r := by rw [nval_cons, hl]
    have e2 := nval_cons d q
    obtain ⟨P, hP⟩ : ∃ P, 10 ^ q.length = P := ⟨_, rfl⟩
    rw [hP] at e1 e2 r1 r2
    rcases Nat.lt_trichotomy c.toNat d.toNat with hlt | heq | hgt
    · have : (c.toNat - 48) * P + P ≤ (d.toNat - 48) * P := by
        rw [← Nat.succ_mul]; exact Nat.mul_le_mul_right _ (by omega)
      have hcd : c < d := hlt
      constructor
      · rw [Op.bytesLess, decide_eq_true hcd, Bool.true_or]
        exact (decide_eq_true (by omega)).symm
      · have : (c :: r == d :: q) = false := by
          rw [beq_eq_false_iff_ne]; intro e; injection e with e _; subst e; omega
        rw [this]
        exact (decide_eq_false (by omega)).symm
    · have hcd : c = d := UInt8.toNat_inj.1 heq
      subst hcd
      have hnl : ¬ c < c := Nat.lt_irrefl _
      constructor
      · rw [Op.bytesLess, decide_eq_false hnl, Bool.false_or, beq_self_eq_true, Bool.true_and, i1]
        exact decide_eq_decide.2 (by omega)
      · have : (c :: r == c :: q) = (r == q) := by
          rw [Bool.eq_iff_iff, beq_iff_eq, beq_iff_eq]; simp
        rw [this, i2]
        exact decide_eq_decide.2 (by omega)
    · have : (d.toNat - 48) * P + P ≤ (c.toNat - 48) * P := by
        rw [← Nat.succ_mul]; exact Nat.mul_le_mul_right _ (by omega)
      have hnl : ¬ c < d := fun h => by have : c.toNat < d.toNat := h; omega
      have hne : c ≠ d := fun e => by subst e; omega
      constructor
      · rw [Op.bytesLess, decide_eq_false hnl, Bool.false_or, beq_eq_false_iff_ne.2 hne, Bool.false_and]
        exact (decide_eq_false (by omega)).symm
      · have : (c :: r == d :: q) = false := by
          rw [beq_eq_false_iff_ne]; intro e; injection e with e _; exact hne e
        rw [this]
        exact (decide_eq_false (by omega)).symm
def lrg : List UInt8 := [52, 50, 57, 52, 57, 54, 55, 50, 57, 53]
theorem lrg_val : nval lrg = 4294967295 := by decide +kernel
theorem lrg_dg : ∀ c ∈ lrg, isDg c = true := by decide
/-- Too large: by the length, or by the order of the texts. -/
theorem big_len {l : List UInt8} (h1 : ∀ c ∈ l, isDg c = true) (h2 : l ≠ []) (h3 : l.head? = some 48 → l = [48]) (h : l.length ≠ 10) : decide (4294967295 < nval l) = decide (10 < l.length) := by
  refine decide_eq_decide.2 ⟨fun h4 => ?_, fun h4 => ?_⟩
  · have := nval_lt l h1
    rcases Nat.lt_or_ge l.length 10 with h5 | h5
    · have : 10 ^ l.length ≤ 10 ^ 9 := Nat.pow_le_pow_right (by decide) (by omega)
      omega
    · omega
  · cases l with
    | nil => exact absurd rfl h2
    | cons c r =>
      have hc := dg_range (h1 c List.mem_cons_self)
      have hne : c ≠ 48 := fun e => by
        subst e
        have := h3 rfl
        rw [this] at h4
        simp at h4
      have hne : c.toNat ≠ 48 := fun e => hne (UInt8.toNat_inj.1 e)
      rw [nval_cons]
      rw [List.length_cons] at h4
      have a1 : 10 ^ 10 ≤ 10 ^ r.length := Nat.pow_le_pow_right (by decide) (by omega)
      have a2 : 1 * 10 ^ r.length ≤ (c.toNat - 48) * 10 ^ r.length := Nat.mul_le_mul_right _ (by omega)
      omega
theorem big_lex {l : List UInt8} (h1 : ∀ c ∈ l, isDg c = true) (h : l.length = 10) : (!(Op.bytesLess l lrg || l == lrg)) = decide (4294967295 < nval l) := by
  obtain ⟨i1, i2⟩ := less_iff l lrg h h1 lrg_dg
  rw [i1, i2, lrg_val, Bool.eq_iff_iff]
  simp only [Bool.not_eq_true', Bool.or_eq_false_iff, decide_eq_false_iff_not, decide_eq_true_eq]
  omega
end Go.Proofs.YtpbcncfbfbghcaaGreatDoor.L19
