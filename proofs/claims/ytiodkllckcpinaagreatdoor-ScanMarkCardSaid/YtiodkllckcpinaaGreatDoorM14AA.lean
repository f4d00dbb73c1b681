/- Facts and contracts that the walks of this layer use, merged: Mem, Bld, Buf, Apz. -/
import Derived.WalkKit
import Derived.Laws.IdiomStrings
import Derived.ProofKit
import Derived.Laws.AppendOwnNone
import Derived.Deep.Draws
import Derived.Test.YtiodkllckcpinaaGreatDoorRows
import Derived.BigQuiet
import Derived.Lib.Builder
import Derived.Lib.AppendStr
import Derived.WalkSmall
import Derived.Lib.Hide
import Derived.RangeFuncOwn
import Derived.ArgAppend
import Derived.Deep.AppendLies
import Derived.Lib.AppendZerosOnto
import Derived.Lib.AppendZeros
import Derived.Laws.CopyRow
set_option linter.unusedVariables false
set_option linter.unusedSimpArgs false
set_option maxRecDepth 100000
namespace Go.Proofs.YtiodkllckcpinaaGreatDoor
namespace Mem
open Go.RowKit

def bys (l : List UInt8) : List Value := l.map fun b => .int .u8 (b.toNat : Int)
theorem bys_len (l : List UInt8) : (bys l).length = l.length := by simp [bys]
theorem bys_snoc (l : List UInt8) (b : UInt8) : bys (l ++ [b]) = bys l ++ [.int .u8 (b.toNat : Int)] := by simp [bys]
theorem bys_append (l m : List UInt8) : bys (l ++ m) = bys l ++ bys m := by simp [bys]
theorem bys_get (l : List UInt8) (j : Nat) (h : j < l.length) : (bys l)[j]? = some (.int .u8 (l[j].toNat : Int)) := by
 simp [bys, List.getElem?_eq_getElem h]
theorem add_at (g j : Nat) : (⟨g, 0, none⟩ : Addr).add j = ⟨g, j, none⟩ := by
 by_cases h : j = 0
 ·subst h; rfl
 ·simp [Addr.add, h]

theorem one_new (w : World) (x : Value) (t : TypeId) : ∀ j u, ([x] : List Value)[j]? = some u → (w.alloc (.cells #[x] t)).cell? ((⟨w.heap.size, 0, none⟩ : Addr).add j) = some u := by
 intro j u hj
 match j, hj with
 | 0, hj =>
  simp at hj
  subst hj
  simp [Addr.add]
theorem one_cell (k : IntKind) (n : Int) : ∀ u ∈ ([.int k n] : List Value), u.oneCell' = true := by
 intro u hu
 simp at hu
 subst hu
 rfl

theorem conv_own {P : Program} {w : World} {base n : Nat} {src dst e : TypeId} {v : Value} {l : List UInt8} (hs : P.underlying src = some (.slice e)) (he : P.underlying e = some (.int .u8)) (hd : P.underlying dst = some .string)
  (h : w.ownsRow base e 1 v n (bys l)) : (convert src dst v).run P w = .ok (.string ⟨l.toArray⟩) w := by
 have hl : l.length = n := by have := h.1; rw [bys_len] at this; omega
 rcases h.2 with ⟨rfl, h0⟩ | ⟨g, cap, cur, rfl, _⟩
 ·have : l = [] := List.eq_nil_of_length_eq_zero (by omega)
  subst this
  rw [run_convert_bytes_string w src dst e none 0 0 hs he hd]
  rfl
 ·subst hl
  refine run_convert_bytes_back w src dst e ⟨g, 0, none⟩ cap l hs he hd fun j hj => ?_
  have hc := h.cells (g := g) rfl j _ (bys_get l j hj)
  exact hc

theorem chain {w w1 w2 : World} (h : Below w.heap.size w w1) (k : Below w1.heap.size w1 w2) : Below w.heap.size w w2 := h.trans (k.mono h.size)
theorem chainN {w w1 : World} (h : Below w.heap.size w w1) (n : Nat) : Below w.heap.size w (w1.drewN n) := ⟨h.os, h.tape, h.output, h.size, h.block⟩

def BAt (w : World) (g : Nat) (l : List UInt8) : Prop := ∀ j (h : j < l.length), w.cell? ⟨g, j, none⟩ = some (.int .u8 (l[j].toNat : Int)) ∧ w.frozen? ⟨g, j, none⟩ = false
theorem BAt.drew {w : World} {g : Nat} {l : List UInt8} (h : BAt w g l) : BAt w.drew g l := h
theorem BAt.drewN {w : World} {g : Nat} {l : List UInt8} (h : BAt w g l) (n : Nat) : BAt (w.drewN n) g l := h
theorem BAt.below {w w1 : World} {g B : Nat} {l : List UInt8} (h : BAt w g l) (k : Below B w w1) (hg : g < B) : BAt w1 g l := fun j hj => by
 have := h j hj
 exact ⟨(k.cell (p := ⟨g, j, none⟩) hg).trans this.1, (k.frozen (p := ⟨g, j, none⟩) hg).trans this.2⟩
theorem BAt.set {w : World} {g : Nat} {l : List UInt8} (h : BAt w g l) {k : Nat} (hk : k < l.length) (c : UInt8) : BAt (w.setCell ⟨g, k, none⟩ (.int .u8 (c.toNat : Int))) g (l.set k c) := fun j hj => by
 have hj' : j < l.length := by simpa using hj
 refine ⟨?_, (World.frozen?_setCell _ _ _ _).trans (h j hj').2⟩
 by_cases e : j = k
 ·subst e
  rw [World.cell?_setCell_same _ _ _ (h j hj').1, List.getElem_set_self]
 ·rw [World.cell?_setCell_other _ _ _ _ (fun x => e (by injection x with _ x; exact x.symm)), (h j hj').1, List.getElem_set_ne (fun x => e x.symm)]
theorem BAt.conv {P : Program} {w : World} {g cap n : Nat} {src dst e : TypeId} {l : List UInt8} (h : BAt w g l) (hn : l.length = n) (hs : P.underlying src = some (.slice e)) (he : P.underlying e = some (.int .u8)) (hd : P.underlying dst = some .string) :
  (convert src dst (.slice (some ⟨g, 0, none⟩) n cap)).run P w = .ok (.string ⟨l.toArray⟩) w := by
 subst hn
 exact run_convert_bytes_back w src dst e ⟨g, 0, none⟩ cap l hs he hd fun j hj => by rw [add_at]; exact (h j hj).1
theorem bytes_of {P : Program} (w : World) {src dst e : TypeId} (s : ByteArray) (hs : P.underlying src = some .string) (hd : P.underlying dst = some (.slice e)) (he : P.underlying e = some (.int .u8)) :
  ∃ (C : Array Value) (cap : Nat), s.size ≤ cap ∧ (convert src dst (.string s)).run P w = .ok (.slice (some ⟨w.heap.size, 0, none⟩) s.size cap) (w.drew.alloc (.cells C e (cap, cap + 1))) ∧
   BAt (w.alloc (.cells C e (cap, cap + 1))) w.heap.size s.data.toList := by
 have hcap := grownCap_ge w s.size 0 e
 have hrun := run_bytes_of_string w src dst e s hs hd he
 have hCs : (bytesRow s (grownCap w s.size 0 e)).size = grownCap w s.size 0 e := by simp [bytesRow]; omega
 rw [hCs] at hrun
 refine ⟨_, _, hcap, hrun, fun j hj => ⟨?_, ?_⟩⟩
 ·have hj' : j < s.data.size := by simpa using hj
  rw [World.cell?_alloc_mark, bytesRow_at s _ j hj']
  rfl
 ·rw [World.frozen?_alloc_mark]
  have hj' : j < s.size := by simpa using hj
  simp
  omega

def VAt (w : World) (g : Nat) (l : List Value) : Prop := ∀ j (h : j < l.length), w.cell? ⟨g, j, none⟩ = some l[j] ∧ w.frozen? ⟨g, j, none⟩ = false
theorem VAt.drew {w : World} {g : Nat} {l : List Value} (h : VAt w g l) : VAt w.drew g l := h
theorem VAt.drewN {w : World} {g : Nat} {l : List Value} (h : VAt w g l) (n : Nat) : VAt (w.drewN n) g l := h
theorem VAt.below {w w1 : World} {g B : Nat} {l : List Value} (h : VAt w g l) (k : Below B w w1) (hg : g < B) : VAt w1 g l := fun j hj => by
 have := h j hj
 exact ⟨(k.cell (p := ⟨g, j, none⟩) hg).trans this.1, (k.frozen (p := ⟨g, j, none⟩) hg).trans this.2⟩
theorem VAt.set {w : World} {g : Nat} {l : List Value} (h : VAt w g l) {k : Nat} (hk : k < l.length) (u : Value) : VAt (w.setCell ⟨g, k, none⟩ u) g (l.set k u) := fun j hj => by
 have hj' : j < l.length := by simpa using hj
 refine ⟨?_, (World.frozen?_setCell _ _ _ _).trans (h j hj').2⟩
 by_cases e : j = k
 ·subst e
  rw [World.cell?_setCell_same _ _ _ (h j hj').1, List.getElem_set_self]
 ·rw [World.cell?_setCell_other _ _ _ _ (fun x => e (by injection x with _ x; exact x.symm)), (h j hj').1, List.getElem_set_ne (fun x => e x.symm)]
theorem VAt.far {w : World} {g g' k : Nat} {l : List Value} (h : VAt w g l) (hne : g' ≠ g) (u : Value) : VAt (w.setCell ⟨g', k, none⟩ u) g l := fun j hj =>
 ⟨(World.cell?_setCell_other _ _ _ _ (fun x => hne (by injection x))).trans (h j hj).1, (World.frozen?_setCell _ _ _ _).trans (h j hj).2⟩
theorem VAt.of_own {w : World} {base n cap g : Nat} {e : TypeId} {xs : List Value} (h : w.ownsRow base e 1 (.slice (some ⟨g, 0, none⟩) n cap) n xs) : VAt w g xs := fun j hj => by
 have hl := h.1
 refine ⟨?_, h.frozenAt j⟩
 rw [h.cellAt j (by omega), List.getElem?_eq_getElem hj]

theorem own_below {w w1 : World} {base e size n : Nat} {v : Value} {xs : List Value} (h : w.ownsRow base e size v n xs) (k : Below w.heap.size w w1) : w1.ownsRow base e size v n xs := by
 refine ⟨h.1, ?_⟩
 rcases h.2 with h0 | ⟨g, cap, cur, rfl, hg, hh, h1, h2, h3, h4⟩
 ·exact .inl h0
 ·have hlt := (h.lt g rfl).2
  exact .inr ⟨g, cap, cur, rfl, hg, (k.block g hlt).trans hh, h1, h2, h3, h4⟩

def nats (l : List Nat) : List Value := l.map fun (i : Nat) => .int .i64 (i : Int)
theorem nats_len (l : List Nat) : (nats l).length = l.length := by simp [nats]
theorem nats_snoc (l : List Nat) (b : Nat) : nats (l ++ [b]) = nats l ++ [.int .i64 (b : Int)] := by simp [nats]
theorem nats_get (l : List Nat) (j : Nat) (h : j < l.length) : (nats l)[j]? = some (.int .i64 (l[j] : Int)) := by
 simp [nats, List.getElem?_eq_getElem h]

theorem empty_at {w : World} {base size g : Nat} {e : TypeId} (hg : w.heap.size = g) (hb : base ≤ g) : (w.alloc (.cells #[] e)).ownsRow base e size (.slice (some ⟨g, 0, none⟩) 0 0) 0 [] := by
 subst hg
 exact World.ownsRow_made w #[] 0 hb (by decide) (by simp)

theorem own_apart {w : World} {b b' e e' s s' n n' : Nat} {v v' : Value} {xs xs' : List Value} (h : w.ownsRow b e s v n xs) (h' : w.ownsRow b' e' s' v' n' xs') (hne : e ≠ e') : v.ownBlock = none ∨ v.ownBlock ≠ v'.ownBlock := by
 rcases h.2 with ⟨rfl, _⟩ | ⟨g, cap, cur, rfl, _, hh, _⟩
 ·exact .inl rfl
 ·right
  rcases h'.2 with ⟨rfl, _⟩ | ⟨g', cap', cur', rfl, _, hh', _⟩
  ·intro e; cases e
  ·intro e
   have e : g = g' := by injection e
   subst e
   rw [hh] at hh'
   injection hh' with hh'
   injection hh' with _ ht
   exact hne ht

theorem str_list (l : List UInt8) : (⟨l.toArray⟩ : ByteArray).data.toList = l := rfl
theorem str_size (l : List UInt8) : (⟨l.toArray⟩ : ByteArray).size = l.length := rfl
theorem str_toList (s : ByteArray) : s.toList = s.data.toList := ByteArray.toList_eq s
def strV (l : List UInt8) : Value := .string ⟨l.toArray⟩
def strVs (l : List (List UInt8)) : List Value := l.map strV
theorem strVs_len (l : List (List UInt8)) : (strVs l).length = l.length := by simp [strVs]
def Rd (w : World) (A : Option Addr) (vs : List Value) : Prop := ∀ j (h : j < vs.length), ∃ b o : Nat, A = some ⟨b, o, none⟩ ∧ b < w.heap.size ∧ w.cell? ⟨b, o + j, none⟩ = some vs[j]
theorem Rd.drew {w : World} {A : Option Addr} {vs : List Value} (h : Rd w A vs) : Rd w.drew A vs := h
theorem Rd.drewN {w : World} {A : Option Addr} {vs : List Value} (h : Rd w A vs) (n : Nat) : Rd (w.drewN n) A vs := h
theorem Rd.below {w w1 : World} {A : Option Addr} {vs : List Value} (h : Rd w A vs) (k : Below w.heap.size w w1) : Rd w1 A vs := fun j hj => by
 obtain ⟨b, o, e, hb, hc⟩ := h j hj
 exact ⟨b, o, e, Nat.lt_of_lt_of_le hb k.size, (k.cell (p := ⟨b, o + j, none⟩) hb).trans hc⟩
theorem Rd.of_own {w : World} {base n cap : Nat} {e : TypeId} {A : Option Addr} {xs : List Value} (h : w.ownsRow base e 1 (.slice A n cap) n xs) : Rd w A xs := fun j hj => by
 have hl := h.1
 rcases h.2 with ⟨h0, h1⟩ | ⟨g, cap', cur, hv, _⟩
 ·omega
 ·injection hv with hA _ _
  subst hA
  exact ⟨g, 0, rfl, (h.lt g rfl).2, by rw [Nat.zero_add, h.cellAt j (by omega), List.getElem?_eq_getElem hj]⟩
theorem own_slice {w : World} {base n : Nat} {e : TypeId} {v : Value} {xs : List Value} (h : w.ownsRow base e 1 v n xs) : ∃ A cap, v = .slice A n cap ∧ n ≤ cap ∧ cap ≤ maxLen := by
 rcases h.2 with ⟨rfl, h0⟩ | ⟨g, cap, cur, rfl, _, _, hn, hm, _⟩
 ·subst h0; exact ⟨none, 0, rfl, Nat.le_refl _, by decide⟩
 ·exact ⟨_, cap, rfl, hn, hm⟩

theorem wpList_append_rd {P : Program} {w : World} {ops : Array Oper} {rest : List Oper} {o : Oper} {a : Act} {Q : Exit → Act → World → Prop} (hgd : o.guard = none) (s x : Operand) (t : TypeId)
  (ho : o.op = .call { callee := .builtin .append, args := #[s, x], argTypes := #[t, t] })
  (base : Nat) (e : TypeId) (i : TypeInfo) (z : Value) (bytes : Nat) (ht : P.underlying t = some (.slice e)) (hi : P.info? e = some i) (hz : i.zero = some z)
  (hsize : i.size = 1) (hby : i.bytes = bytes) (hzs : z.cells.size = 1)
  (v : Value) (n : Nat) (xs : List Value) (hs : a.eval s = v) (hown : w.ownsRow base e 1 v n xs)
  (A : Option Addr) (m c : Nat) (news : List Value) (hx : a.eval x = .slice A m c) (hr : Rd w A news) (hm : news.length = m) (hc : A = none → c = 0) (h1 : ∀ u ∈ news, u.oneCell' = true)
  (h63 : n + m ≤ maxLen) (hbytes : (n + m) * bytes ≤ 140737488355328) (hbase : base ≤ w.heap.size)
  (h : ∀ v' w', w'.ownsRow base e 1 v' (n + m) (xs ++ news) → w.grownBy w' v.ownBlock → wpList P ops Q rest (a.put o.dst v') w') : wpList P ops Q (o :: rest) a w := by
 rcases A with _ | ad
 ·have hm0 : m = 0 := by
   rcases Nat.eq_zero_or_pos m with h0 | h0
   ·exact h0
   ·obtain ⟨b, o, e, _⟩ := hr 0 (by omega)
    cases e
  subst hm0
  have hn : news = [] := List.eq_nil_of_length_eq_zero hm
  subst hn
  have hc0 := hc rfl
  subst hc0
  refine wpList_append_own_none hgd s x t ho base e i 1 ht hi v n xs hs hown hx ?_
  exact h v w (by simpa using hown) (World.grownBy.refl w _)
 ·refine wpList_append_own w hgd s x t ho base e i z 1 bytes ht hi hz hsize hby hzs (by decide) v n xs hs hown ad m c news hx (by omega) (fun j u hj => ?_) h1 h63 hbytes hbase fun v' w' h2 h3 _ => h v' w' h2 h3
  have hj' : j < news.length := (List.getElem?_eq_some_iff.1 hj).1
  obtain ⟨b, o, e, _, hcell⟩ := hr j hj'
  injection e with e
  subst e
  rw [List.getElem?_eq_getElem hj'] at hj
  injection hj with hj
  rw [← hj, ← hcell]
  congr 1
  by_cases h0 : j = 0
  ·subst h0; rfl
  ·simp [Addr.add, h0]
theorem ret_i {k : IntKind} {a b : Int} (h : a = b) : Ending.returned (.int k a) = .returned (.int k b) := by rw [h]
theorem ret_bool {a b : Bool} (h : a = b) : Ending.returned (.bool a) = .returned (.bool b) := by rw [h]
theorem ret_ib {x x' : Int} {y y' : Bool} (h : x = x') (h' : y = y') : Ending.returned (.tuple #[.int .i64 x, .bool y]) = .returned (.tuple #[.int .i64 x', .bool y']) := by rw [h, h']
theorem own_drewN {w : World} {base e size n : Nat} {v : Value} {xs : List Value} (h : w.ownsRow base e size v n xs) (m : Nat) : (w.drewN m).ownsRow base e size v n xs := h

end Mem
namespace Bld
open Go.RowKit Mem
/-! ### strings.Builder (its writers; its check's refused branch is never entered) -/
theorem sizeB : (Tryz.prog.info? 74).map (·.size) = some 2 := by kernel_rfl
theorem liesB : liesAt Tryz.prog Tryz.prog.depth 74 (2 / Tryz.prog.cellsOf 74) 0 74 1 = true := by kernel_rfl
theorem infoB : (Tryz.prog.info? 5).map (fun i => (i.zero, i.size, i.bytes)) = some (some (.int .u8 0), 1, 1) := by kernel_rfl

set_option maxHeartbeats 1000000 in
theorem check_used (b : Nat) (w : World) (h0 : w.cell? ⟨b, 0, none⟩ = some (.pointer (some ⟨b, 0, none⟩))) :
  Calls Tryz.prog 66 #[.pointer (some ⟨b, 0, none⟩)] w fun e w' => e = .returned (.tuple #[]) ∧ w' = w := by
 obtain ⟨j, hj, _⟩ := Option.map_eq_some_iff.1 sizeB
 go_enter Tryz.func66, Tryz.ntmps66
 go_wp2
 rw [Lib.run_neq_ptr_same w _ Tryz.underlying72 hj]
 go_wp2
 go_end0
 exact ⟨rfl, rfl⟩

set_option maxHeartbeats 1000000 in
theorem check_fresh (b : Nat) (w : World) (h0 : w.cell? ⟨b, 0, none⟩ = some (.pointer none)) (hsh : w.shape? b = some (74, 2)) (hfz : w.frozen? ⟨b, 0, none⟩ = false) :
  Calls Tryz.prog 66 #[.pointer (some ⟨b, 0, none⟩)] w fun e w' => e = .returned (.tuple #[]) ∧ w' = w.setCell ⟨b, 0, none⟩ (.pointer (some ⟨b, 0, none⟩)) := by
 obtain ⟨j, hj, hjs⟩ := Option.map_eq_some_iff.1 sizeB
 go_enter Tryz.func66, Tryz.ntmps66
 go_wp2
 rw [Lib.run_to_unsafe w ⟨b, 0, none⟩ Tryz.underlying72 Tryz.underlying139 hj (by rw [hjs]; decide) hsh (Nat.zero_lt_succ 1)]
 simp only [Result.andThen]
 rw [Oper.upon_value]
 go_wp2
 rw [run_callFunc_extern Tryz.func108 (by kernel_rfl) (by kernel_rfl) (by kernel_rfl) (e := Extern.AbiNoEscape.same) (by kernel_rfl)]
 rw [Lib.run_noEscape]
 simp only [Result.andThen]
 rw [Oper.upon_value]
 go_wp2
 rw [Lib.run_from_unsafe w ⟨b, 0, none⟩ Tryz.underlying139 Tryz.underlying72 hj hsh liesB]
 simp only [Result.andThen]
 rw [Oper.upon_value]
 go_wp2
 go_end0
 exact ⟨rfl, rfl⟩

theorem check_any (B b : Nat) (bs : List Value) (w : World) (h : Lib.IsBuilder 74 5 B b bs w) :
  Calls Tryz.prog 66 #[.pointer (some ⟨b, 0, none⟩)] w fun e w' => e = .returned (.tuple #[]) ∧ (Lib.BuilderAt 74 5 B b (.pointer (some ⟨b, 0, none⟩)) bs w' ∧ Below B w w' ∧ KeepsOthers w w') := by
 rcases h with h | h
 ·refine (check_fresh b w h.cell0 h.shape h.frozen0).mono ?_
  rintro e w' ⟨rfl, rfl⟩
  exact ⟨rfl, h.used _, (Below.refl B w).setCell (p := ⟨b, 0, none⟩) h.1 _, KeepsOthers.setCell _ _ _⟩
 ·refine (check_used b w h.cell0).mono ?_
  rintro e w' ⟨rfl, rfl⟩
  exact ⟨rfl, h, Below.refl B _, KeepsOthers.refl _⟩

set_option maxHeartbeats 2000000 in
theorem write_any (B b : Nat) (bs : List Value) (s : ByteArray) (w : World) (h : Lib.IsBuilder 74 5 B b bs w) (hlen : bs.length + s.size ≤ 140737488355328) (hBw : B ≤ w.heap.size) :
  Calls Tryz.prog 31 #[.pointer (some ⟨b, 0, none⟩), .string s] w fun e w' => e = .returned (.tuple #[.int .i64 s.size, .nilIface]) ∧ Lib.IsBuilder 74 5 B b (bs ++ Lib.strCells s) w' ∧ Below B w w' ∧ KeepsOthers w w' := by
 obtain ⟨i0, hi, hz0, hz1, hz2⟩ := info_parts infoB
 go_enter Tryz.func31, Tryz.ntmps31
 go_wp2_with (go_at_call 66; refine (check_any B b bs _ h).mono ?_)
 rintro e w1 ⟨rfl, h1, hb1, hk1⟩
 obtain ⟨hB, v, hbk, hown, hne⟩ := h1
 have c0 : w1.cell? ⟨b, 0, none⟩ = some (.pointer (some ⟨b, 0, none⟩)) := by rw [Lib.cell_of_heap hbk]; rfl
 have c1 : w1.cell? ⟨b, 1, none⟩ = some v := by rw [Lib.cell_of_heap hbk]; rfl
 go_wp2_with (at_builtin; refine Lib.wpList_append_own_string _ rfl _ _ 53 9 rfl B 5 i0 Tryz.underlying53 Tryz.underlying9 hi hz0 hz1 hz2 _ _ _ rfl hown s rfl ?c3 ?c4 ?c5 ?_)
 case c3 => unfold maxLen; omega
 case c4 => omega
 case c5 => have := hb1.size; omega
 intro v' w2 hown' hgrow _
 have hlt : b < w1.heap.size := by
  rcases Nat.lt_or_ge b w1.heap.size with h' | h'
  ·exact h'
  ·simp [Array.getElem?_eq_none h'] at hbk
 have hb2 : w2.heap[b]? = some (.cells #[.pointer (some ⟨b, 0, none⟩), v] 74 (0, 0)) := by
  rw [hgrow.block b hlt (fun e => hne e.symm)]
  exact hbk
 have d0 : w2.cell? ⟨b, 0, none⟩ = some (.pointer (some ⟨b, 0, none⟩)) := by rw [Lib.cell_of_heap hb2]; rfl
 have d1 : w2.cell? ⟨b, 1, none⟩ = some v := by rw [Lib.cell_of_heap hb2]; rfl
 have f1 : w2.frozen? ⟨b, 1, none⟩ = false := Lib.frozen_of_heap hb2 1
 obtain ⟨ao, n', cap, rfl⟩ : ∃ ao n' cap, v' = .slice ao n' cap := by
  rcases hown'.2 with ⟨hv, _⟩ | ⟨g, cap, cur, hv, _⟩
  ·exact ⟨_, _, _, hv⟩
  ·exact ⟨_, _, _, hv⟩
 go_wp2
 go_ret2
 refine ⟨rfl, .inr ?_, ?_, hk1.trans ((KeepsOthers.of_grownBy hgrow ?_).trans (KeepsOthers.setCell _ _ _))⟩
 ·exact Lib.BuilderAt.put (T := 74) (e := 5) hB hb2 (bs' := bs ++ Lib.strCells s) (by simpa [Lib.strCells_length] using hown') (by decide)
 ·exact (hb1.grown hgrow (by have := hb1.size; omega) (fun k hk => (hown.lt k hk).1)).setCell (p := ⟨b, 1, none⟩) hB _
 ·intro j o hj hjo
  rcases hown.2 with ⟨hv, _⟩ | ⟨g, cap, cur, hv, _, hg, _⟩
  ·rw [hv] at hj
   cases hj
  ·rw [hv] at hj
   injection hj with hj
   subst hj
   rw [hg] at hjo
   injection hjo with hjo
   subst hjo
   rfl
theorem builder_below {T e B b : Nat} {bs : List Value} {w w1 : World} (h : Lib.IsBuilder T e B b bs w) (k : Below w.heap.size w w1) : Lib.IsBuilder T e B b bs w1 := by
 have one : ∀ p, Lib.BuilderAt T e B b p bs w → Lib.BuilderAt T e B b p bs w1 := by
  intro p h
  have hlt := h.lt
  obtain ⟨hB, v, hb, hown, hne⟩ := h
  exact ⟨hB, v, (k.block b hlt).trans hb, own_below hown k, hne⟩
 rcases h with h | h
 ·exact .inl (one _ h)
 ·exact .inr (one _ h)
theorem builder_grown {T e B b : Nat} {bs : List Value} {w w1 : World} {row : Option Nat} (h : Lib.IsBuilder T e B b bs w) (k : w.grownBy w1 row) (hr : ∀ r, row = some r → ∃ o : Obj, w.heap[r]? = some o ∧ o.isCells = false) : Lib.IsBuilder T e B b bs w1 := by
 have one : ∀ p, Lib.BuilderAt T e B b p bs w → Lib.BuilderAt T e B b p bs w1 := by
  intro p h
  have hlt := h.lt
  obtain ⟨hB, v, hb, hown, hne⟩ := h
  have hnb : ∀ (g : Nat) (cs : Array Value) (t : TypeId) (f : Nat × Nat), w.heap[g]? = some (.cells cs t f) → some g ≠ row := fun g cs t f hg e => by
   obtain ⟨o, ho, hc⟩ := hr g e.symm
   rw [hg] at ho
   injection ho with ho
   subst ho
   cases hc
  refine ⟨hB, v, (k.block b hlt (hnb _ _ _ _ hb)).trans hb, ?_, hne⟩
  refine ⟨hown.1, ?_⟩
  rcases hown.2 with h0 | ⟨g, cap, cur, rfl, hg, hh, h1, h2, h3, h4⟩
  ·exact .inl h0
  ·have hlt := (hown.lt g rfl).2
   exact .inr ⟨g, cap, cur, rfl, hg, (k.block g hlt (hnb _ _ _ _ hh)).trans hh, h1, h2, h3, h4⟩
 rcases h with h | h
 ·exact .inl (one _ h)
 ·exact .inr (one _ h)
end Bld
namespace Mem
open Go.RowKit

structure Buf (W : World) (g cap : Nat) (l : List UInt8) : Prop where
 lt : g < W.heap.size
 le : l.length ≤ cap
 byte : ∀ j (h : j < l.length), W.cell? ⟨g, j, none⟩ = some (.int .u8 (l[j].toNat : Int))
 room : ∀ j, j < cap → (W.cell? ⟨g, j, none⟩).isSome = true ∧ W.frozen? ⟨g, j, none⟩ = false
theorem Buf.below {W W1 : World} {g cap B : Nat} {l : List UInt8} (h : Buf W g cap l) (k : Below B W W1) (hg : g < B) (hB : B ≤ W.heap.size) : Buf W1 g cap l :=
 ⟨Nat.lt_of_lt_of_le h.lt k.size, h.le, fun j hj => (k.cell (p := ⟨g, j, none⟩) hg).trans (h.byte j hj), fun j hj => by
  rw [k.cell (p := ⟨g, j, none⟩) hg, k.frozen (p := ⟨g, j, none⟩) hg]
  exact h.room j hj⟩
theorem Buf.alloc {W : World} {g cap : Nat} {l : List UInt8} (h : Buf W g cap l) (o : Obj) : Buf (W.alloc o) g cap l :=
 h.below ((Below.refl W.heap.size W).alloc (Nat.le_refl _) o) h.lt (Nat.le_refl _)
theorem buf_of {P : Program} (w : World) {src dst e : TypeId} (s : ByteArray) (hm : s.size ≤ 1000000) (hs : P.underlying src = some .string) (hd : P.underlying dst = some (.slice e)) (he : P.underlying e = some (.int .u8)) :
  ∃ (cap : Nat) (W : World), cap ≤ 9223372036854775807 ∧ (convert src dst (.string s)).run P w = .ok (.slice (some ⟨w.heap.size, 0, none⟩) s.size cap) W ∧ Buf W w.heap.size cap s.data.toList ∧ Below w.heap.size w W := by
 have hcap := grownCap_ge w s.size 0 e
 have hle := grownCap_le_maxLen w s.size 0 e (by unfold maxLen; omega)
 have hrun := run_bytes_of_string (P := P) w src dst e s hs hd he
 obtain ⟨cap, hc⟩ : ∃ cap, grownCap w s.size 0 e = cap := ⟨_, rfl⟩
 rw [hc] at hcap hle hrun
 have hCs : (bytesRow s cap).size = cap := by simp [bytesRow]; omega
 rw [hCs] at hrun
 refine ⟨cap, _, by unfold maxLen at hle; omega, hrun, ⟨by simp, by simpa using hcap, fun j hj => ?_, fun j hj => ⟨?_, ?_⟩⟩, (Below.refl _ w).drew.alloc (by simp) _⟩
 ·have hj' : j < s.data.size := by simpa using hj
  refine (World.cell?_alloc_mark w.drew _ _ _ j).trans ((bytesRow_at s cap j hj').trans ?_)
  rfl
 ·have e1 : (w.drew.alloc (.cells (bytesRow s cap) e (cap, cap + 1))).cell? ⟨w.heap.size, j, none⟩ = (bytesRow s cap)[j]? := World.cell?_alloc_mark w.drew _ _ _ j
  rw [e1, Array.getElem?_eq_getElem (by rw [hCs]; exact hj)]
  rfl
 ·refine (World.frozen?_alloc_mark w.drew _ _ _ _ j).trans ?_
  simp
  omega
theorem Buf.put {W : World} {g cap : Nat} {l : List UInt8} (h : Buf W g cap l) (hr : l.length < cap) (x : UInt8) : Buf (W.setCell ⟨g, l.length, none⟩ (.int .u8 (x.toNat : Int))) g cap (l ++ [x]) := by
 obtain ⟨v, hv⟩ := Option.isSome_iff_exists.1 (h.room l.length hr).1
 have hne : ∀ j, j ≠ l.length → (W.setCell ⟨g, l.length, none⟩ (.int .u8 (x.toNat : Int))).cell? ⟨g, j, none⟩ = W.cell? ⟨g, j, none⟩ := fun j hj =>
  World.cell?_setCell_other _ _ _ _ (fun x => hj (by injection x with _ x; exact x.symm))
 refine ⟨by simpa using h.lt, by rw [List.length_append]; exact hr, fun j hj => ?_, fun j hj => ⟨?_, (World.frozen?_setCell _ _ _ _).trans (h.room j hj).2⟩⟩
 ·by_cases e : j = l.length
  ·subst e
   rw [World.cell?_setCell_same _ _ _ hv, List.getElem_append_right (Nat.le_refl _)]
   simp
  ·have hj' : j < l.length := by rw [List.length_append] at hj; simp at hj; omega
   rw [hne j e, h.byte j hj', List.getElem_append_left hj']
 ·by_cases e : j = l.length
  ·subst e
   rw [World.cell?_setCell_same _ _ _ hv]
   rfl
  ·rw [hne j e]
   exact (h.room j hj).1
theorem buf_own {W : World} {base n : Nat} {e : TypeId} {v : Value} {l : List UInt8} (h : W.ownsRow base e 1 v n (bys l)) (hn : 0 < n) : ∃ g cap, v = .slice (some ⟨g, 0, none⟩) n cap ∧ cap ≤ 9223372036854775807 ∧ base ≤ g ∧ l.length = n ∧ Buf W g cap l := by
 rcases h with ⟨h0, ⟨_, h1⟩ | ⟨g, cap, cur, rfl, hb, hg, hnc, hcm, hcs, ht⟩⟩
 ·omega
 ·have hl : l.length = n := by rw [bys_len] at h0; omega
  have hcell : ∀ j, W.cell? ⟨g, j, none⟩ = cur[j]? := fun j => by simp [World.cell?, hg]
  refine ⟨g, cap, rfl, by unfold maxLen at hcm; omega, hb, hl, ⟨(Array.getElem?_eq_some_iff.1 hg).1, by omega, fun j hj => ?_, fun j hj => ⟨?_, ?_⟩⟩⟩
  ·rw [hcell]
   have h1 := bys_get l j hj
   rw [← ht, List.getElem?_take_of_lt (by omega), Array.getElem?_toList] at h1
   exact h1
  ·rw [hcell, Array.getElem?_eq_getElem (by omega)]
   rfl
  ·simp [World.frozen?, hg]
theorem Buf.conv {P : Program} {w : World} {g cap n : Nat} {src dst e : TypeId} {l : List UInt8} (h : Buf w g cap l) (hn : l.length = n) (hs : P.underlying src = some (.slice e)) (he : P.underlying e = some (.int .u8)) (hd : P.underlying dst = some .string) :
  (convert src dst (.slice (some ⟨g, 0, none⟩) n cap)).run P w = .ok (.string ⟨l.toArray⟩) w := by
 subst hn
 exact run_convert_bytes_back w src dst e ⟨g, 0, none⟩ cap l hs he hd fun j hj => by rw [add_at]; exact h.byte j hj
theorem wpList_append_buf {P : Program} (w : World) {ops : Array Oper} {rest : List Oper} {o : Oper} {a : Act} {Q : Exit → Act → World → Prop} (hg : o.guard = none) (s x : Operand) (t : TypeId)
  (hop : o.op = Op.call { callee := Callee.builtin Builtin.append, args := #[s, x], argTypes := #[t, t] }) (e : TypeId) (i : TypeInfo) (h1 : P.underlying t = some (.slice e)) (h2 : P.info? e = some i) (h3 : i.zero = some (.int .u8 0)) (h4 : i.size = 1) (h5 : i.bytes = 1)
  (g n cap : Nat) (l : List UInt8) (hs : a.eval s = .slice (some ⟨g, 0, none⟩) n cap) (hl : l.length = n) (hb : Buf w g cap l) (hm : n ≤ 1000000)
  (ad : Addr) (y : UInt8) (hx : a.eval x = .slice (some ad) 1 1) (hc : w.cell? ad = some (.int .u8 (y.toNat : Int)))
  (B : Nat) (w0 : World) (hB : Below B w0 w) (hgB : B ≤ g)
  (hK : ∀ g' cap' w', cap' ≤ max cap 9223372036854775807 → B ≤ g' → Buf w' g' cap' (l ++ [y]) → Below B w0 w' → wpList P ops Q rest (a.put o.dst (.slice (some ⟨g', 0, none⟩) (n + 1) cap')) w') : wpList P ops Q (o :: rest) a w := by
 refine wpList_append_arg w hg s x t hop e i (.int .u8 0) 1 1 h1 h2 h3 h4 h5 rfl (by decide) g 0 n cap (bys l) hs (by rw [bys_len, hl, Nat.mul_one]) (fun j u hj => ?_) ad 1 1 [.int .u8 (y.toNat : Int)] hx rfl (fun j u hj => ?_) (fun u hu => ?_) (fun hr j hj => ?_) (by unfold maxLen; omega) (by omega) (fun hr => ?_) (fun hr v' w' hown hgr => ?_)
 ·obtain ⟨hj', e1⟩ := List.getElem?_eq_some_iff.1 hj
  rw [bys_len] at hj'
  rw [Nat.zero_add, hb.byte j hj', ← hj, bys_get l j hj']
 ·have hj0 : j = 0 := by have := (List.getElem?_eq_some_iff.1 hj).1; simp at this; exact this
  subst hj0
  injection hj with hj
  rw [← hj, ← hc]
  rfl
 ·simp at hu
  rw [hu]
  rfl
 ·have hj0 : j = 0 := by simpa using hj
  subst hj0
  rw [Nat.zero_add, Nat.mul_one, Nat.add_zero]
  exact hb.room n (by omega)
 ·have e1 : w.setCells g (0 + n * 1) [.int .u8 (y.toNat : Int)] = w.setCell ⟨g, l.length, none⟩ (.int .u8 (y.toNat : Int)) := by
   rw [Nat.zero_add, Nat.mul_one, hl]
   rfl
  rw [e1]
  exact hK g cap _ (Nat.le_max_left _ _) hgB (hb.put (by omega) y) (hB.setCell (p := ⟨g, l.length, none⟩) hgB _)
 ·have e1 : bys l ++ [.int .u8 (y.toNat : Int)] = bys (l ++ [y]) := (bys_snoc l y).symm
  rw [e1] at hown
  obtain ⟨g', cap', rfl, hcm, hbase, hl', hbuf⟩ := buf_own hown (by omega)
  have hgw := hb.lt
  have hBw : B ≤ w.heap.size := by omega
  exact hK g' cap' w' (by omega) (by omega) hbuf (hB.grown hgr hBw (fun k h => by cases h))
end Mem
namespace Mem
open Go.RowKit Go.Lib

theorem run_storeCells_ahead (P : Program) (g o : Nat) (t : TypeId) (fz : Nat × Nat) : ∀ (vs : List Value) (i : Nat) (cur : Array Value) (w : World), w.heap[g]? = some (.cells cur t fz) → o + i + vs.length ≤ fz.1 → o + i + vs.length ≤ cur.size → (∀ v ∈ vs, v.oneCell' = true) →
  (storeCells ⟨g, o, none⟩ vs i).run P w = .ok () (w.setRow g (cur.toList.take (o + i) ++ vs ++ cur.toList.drop (o + i + vs.length)).toArray)
 | [], i, cur, w, hg, _, _, _ => by
  simp only [storeCells, List.append_nil, List.length_nil, Nat.add_zero, List.take_append_drop, Array.toArray_toList]
  rw [setRow_self w g cur t fz hg]
  rfl
 | v :: rest, i, cur, w, hg, hfz, hl, h1 => by
  have hi : o + i < cur.size := by simp at hl; omega
  have hadd : (⟨g, o, none⟩ : Addr).add i = ⟨g, o + i, none⟩ := by unfold Addr.add; split <;> simp_all
  have hcell : w.cell? ⟨g, o + i, none⟩ = some cur[o + i] := by simp [World.cell?, hg, hi]
  have hfro : w.frozen? ⟨g, o + i, none⟩ = false := by
   obtain ⟨lo, hi'⟩ := fz
   simp only [World.frozen?, hg, Bool.and_eq_false_iff, decide_eq_false_iff_not]
   left
   simp only [List.length_cons] at hfz
   omega
  have hst : (store ((⟨g, o, none⟩ : Addr).add i) v).run P w = .ok () (w.setRow g (cur.setIfInBounds (o + i) v)) := by
   rw [hadd, run_store P w _ v _ (h1 v (by simp)), hcell]
   simp [hfro, setCell_eq_setRow w g (o + i) cur t fz v hg]
  have ih := run_storeCells_ahead P g o t fz rest (i + 1) (cur.setIfInBounds (o + i) v) (w.setRow g (cur.setIfInBounds (o + i) v)) (setRow_heap w g cur _ t _ hg) (by simp at hfz ⊢; omega) (by simp at hl ⊢; omega) (fun x hx => h1 x (by simp [hx]))
  simp only [storeCells, Sem.run_bind, hst, Result.andThen_ok, ih, setRow_setRow]
  congr 3
  rw [Array.toList_setIfInBounds, ← Nat.add_assoc]
  have := list_seg_step cur.toList (o + i) v rest (by simp at hl ⊢; omega)
  rw [show o + i + (rest.length + 1) = o + i + (v :: rest).length by simp] at this
  rw [← this]
theorem run_append_room_zeros {P : Program} (w : World) (t tn ty e : TypeId) (i : TypeInfo) (z : Value) (kq kn : IntKind) (ht : P.underlying t = some (.slice e)) (htn : P.underlying tn = some (.int kn)) (hi : P.info? e = some i) (hz : i.zero = some z) (hs1 : i.size = 1)
  (g sLen sCap : Nat) (k : Nat) (h0 : 0 < k) (hg : sLen + k ≤ sCap) (h63 : ((k : Nat) : Int) ≤ 9223372036854775807) (h48 : k * i.bytes ≤ 281474976710656) (w' : World)
  (hst : (storeCells ⟨g, sLen, none⟩ (Builtin.zeroCells z.cells k).toList).run P w = .ok () w') :
  (Builtin.append_ #[t, tn] ty #[.slice (some ⟨g, 0, none⟩) sLen sCap, .int kq k]).run P w = .ok (.slice (some ⟨g, 0, none⟩) (sLen + k) sCap) w' := by
 have hk : k ≠ 0 := by omega
 have hw : IntKind.i64.wrap (k : Int) = k := by rw [IntKind.wrap_i64]; omega
 have h48i : ¬ (281474976710656 < (k : Int) * (i.bytes : Int)) := by
  rw [← Int.natCast_mul]
  omega
 have hneg : ¬ ((k : Int) < 0) := by omega
 have hadd : (⟨g, 0, none⟩ : Addr).add sLen = ⟨g, sLen, none⟩ := add_at g sLen
 simp [Builtin.append_, run_underlying ht, run_underlying htn, sizeOf, typeInfo, zeroValue, hi, hz, asInt, asIntOf, hw, hneg, h48i, hs1, hk, hg, hadd, hst]
structure Padded (B : Nat) (w w' : World) (G : Nat) (l : List UInt8) (k : Nat) : Prop where
 row : VAt w' G (bys l ++ List.replicate k (.int .u8 0))
 lo : B ≤ G
 lt : G < w'.heap.size
 below : Below B w w'
theorem zeroCells_u8 (k : Nat) : (Builtin.zeroCells (Value.int .u8 0).cells k).toList = List.replicate k (.int .u8 0) := by
 apply List.ext_getElem
 ·simp [Builtin.zeroCells, Value.cells]
 ·intro j h1 h2
  simp [Builtin.zeroCells, Value.cells, Nat.mod_one]
theorem heap_drew (w : World) : w.drew.heap = w.heap := rfl
theorem nextslicecap_small {n c : Nat} (hn : n ≤ 1000000) (h : c ≤ 1000000) : Builtin.nextslicecap n c ≤ 100000000 := by
 unfold Builtin.nextslicecap
 have hg : ∀ (r c b : Nat), c ≤ b → Builtin.growBy n r c ≤ b * 2 ^ r + 768 * 2 ^ r := by
  intro r
  induction r with
  | zero => intro c b h; simp [Builtin.growBy]; omega
  | succ r ih =>
   intro c b h
   unfold Builtin.growBy
   have h2 : 2 ^ (r + 1) = 2 * 2 ^ r := by rw [Nat.pow_succ, Nat.mul_comm]
   have hp : 1 ≤ 2 ^ r := Nat.one_le_two_pow
   split
   ·have : b ≤ b * 2 ^ (r + 1) := Nat.le_mul_of_pos_right _ (by omega)
    omega
   ·have := ih (c + (c + 768) / 4) (2 * b + 192) (by omega)
    rw [Nat.add_mul, Nat.mul_assoc, Nat.mul_comm 2, Nat.mul_assoc, Nat.mul_comm (2 ^ r) 2, ← h2] at this
    have e : 192 * 2 ^ r + 768 * 2 ^ r ≤ 768 * 2 ^ (r + 1) := by omega
    omega
 split
 ·omega
 ·split
  ·omega
  ·have := hg 4 c c (Nat.le_refl _)
   omega
theorem append_zeros {P : Program} (w : World) (t tn ty e : TypeId) (i : TypeInfo) (kq kn : IntKind) (ht : P.underlying t = some (.slice e)) (htn : P.underlying tn = some (.int kn)) (hi : P.info? e = some i) (hz : i.zero = some (.int .u8 0)) (hs1 : i.size = 1) (hb1 : i.bytes = 1)
  (g n cap : Nat) (C : Array Value) (l : List UInt8) (hl : l.length = n) (hg : w.heap[g]? = some (.cells C e (cap, cap + 1))) (hC : C.size = cap) (hn : n ≤ cap) (hcap : cap ≤ 9223372036854775807) (hlist : C.toList.take n = bys l) (k : Nat) (h0 : 0 < k) (hk : n + k ≤ 1000000) :
  ∃ (w' : World) (G c : Nat), (Builtin.append_ #[t, tn] ty #[.slice (some ⟨g, 0, none⟩) n cap, .int kq k]).run P w = .ok (.slice (some ⟨G, 0, none⟩) (n + k) c) w' ∧ n + k ≤ c ∧ c ≤ 9223372036854775807 ∧ Padded g w w' G l k := by
 have hglt : g < w.heap.size := (Array.getElem?_eq_some_iff.1 hg).1
 have hbl : (bys l).length = n := by rw [bys_len, hl]
 have hrl : (bys l ++ List.replicate k (Value.int .u8 0)).length = n + k := by simp [hbl]
 by_cases hroom : n + k ≤ cap
 ·have hst := run_storeCells_ahead P g n e (cap, cap + 1) (List.replicate k (.int .u8 0)) 0 C w hg (by simpa using hroom) (by simpa [hC] using hroom) (by intro v hv; rw [List.eq_of_mem_replicate hv]; rfl)
  rw [Nat.add_zero, List.length_replicate, hlist] at hst
  obtain ⟨L, hL⟩ : ∃ L, (bys l ++ List.replicate k (.int .u8 0) ++ C.toList.drop (n + k)) = L := ⟨_, rfl⟩
  rw [hL] at hst
  have hh := setRow_heap w g C L.toArray e _ hg
  refine ⟨w.setRow g L.toArray, g, cap, run_append_room_zeros w t tn ty e i (.int .u8 0) kq kn ht htn hi hz hs1 g n cap k h0 hroom (by omega) (by rw [hb1]; omega) _ (by rw [zeroCells_u8]; exact hst), hroom, hcap, fun j hj => ?_, Nat.le_refl _, (Array.getElem?_eq_some_iff.1 hh).1, ⟨rfl, rfl, rfl, by simp [World.setRow], fun m hm => setRow_other w g m _ (by omega)⟩⟩
  have hj2 : j < n + k := by rw [← hrl]; exact hj
  refine ⟨?_, ?_⟩
  ·rw [cell_of_row _ g j _ e _ hh, ← hL]
   simp only [List.getElem?_toArray]
   rw [List.getElem?_append_left hj, List.getElem?_eq_getElem hj]
  ·simp only [World.frozen?, hh, Bool.and_eq_false_iff, decide_eq_false_iff_not]
   left
   omega
 ·have hfc : (Builtin.firstCells i.size n (.slice (some ⟨g, 0, none⟩) n cap)).run P w.drew = .ok (bys l).toArray w.drew := by
   refine run_firstCells_some _ i.size n ⟨g, 0, none⟩ n cap (bys l) (by rw [hbl, hs1]; omega) fun j v hj => ?_
   have hj' : j < n := by rw [← hbl]; exact (List.getElem?_eq_some_iff.1 hj).1
   rw [add_at]
   refine (cell_of_row w g j C e _ hg).trans ?_
   rw [← hlist, List.getElem?_take, if_pos hj'] at hj
   simpa using hj
  have hgrow := run_append_grow_zeros w t tn ty e i (.int .u8 0) kq kn ht htn hi hz (some ⟨g, 0, none⟩) n cap (bys l) hfc k h0 (by omega) (by omega) (by omega) (by rw [hb1]; omega) (by
   rw [hb1]
   have := nextslicecap_small (n := n + k) (c := cap) hk (by omega)
   omega)
  have hge := grownCap_ge w (n + k) cap e
  refine ⟨_, w.heap.size, grownCap w (n + k) cap e, hgrow, hge, grownCap_le_maxLen w _ _ _ (by unfold maxLen; omega), fun j hj => ?_, by omega, by simp, ⟨rfl, rfl, rfl, by simp, fun m hm => Below.heap_alloc w.drew _ _ (by rw [heap_drew]; omega)⟩⟩
  have hj2 : j < n + k := by rw [← hrl]; exact hj
  refine ⟨?_, ?_⟩
  ·show (w.drew.alloc _).cell? ⟨w.drew.heap.size, j, none⟩ = _
   rw [World.cell?_alloc_new]
   have e1 : ((bys l).toArray ++ Builtin.zeroCells (Value.int .u8 0).cells k).toList = bys l ++ List.replicate k (.int .u8 0) := by rw [Array.toList_append, zeroCells_u8]
   have hs : ((bys l).toArray ++ Builtin.zeroCells (Value.int .u8 0).cells k).size = n + k := by rw [← Array.length_toList, e1, hrl]
   rw [Array.getElem?_append_left (by rw [hs]; exact hj2), ← Array.getElem?_toList, e1, List.getElem?_eq_getElem hj]
  ·show (w.drew.alloc _).frozen? ⟨w.drew.heap.size, j, none⟩ = _
   rw [World.frozen?_alloc_mark]
   simp
end Mem
end Go.Proofs.YtiodkllckcpinaaGreatDoor
