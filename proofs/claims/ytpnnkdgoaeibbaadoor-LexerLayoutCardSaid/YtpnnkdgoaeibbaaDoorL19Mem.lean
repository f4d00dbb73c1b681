/- Tokens in memory. No walk here. -/
import Derived.Test.YtpnnkdgoaeibbaaDoorL19More
import Derived.Test.YtpnnkdgoaeibbaaDoorA18Mem
import Derived.Test.YtpnnkdgoaeibbaaDoorM17Tab
import Derived.Laws.Rows
namespace Go.Proofs.YtpnnkdgoaeibbaaDoor.L19
set_option maxRecDepth 100000
open Go.RowKit Mem
open Go.Proofs.YtpnnkdgoaeibbaaDoor.S14 (rd_slice flat_get flat_len Rd.struct)
open M17 (Laid Laid.below gPow tPow cPow cU64)
set_option linter.unusedVariables false
set_option linter.unusedSimpArgs false

def enc3 (t : Tok) : List Value := [.int .i64 (t.1 : Int), strV t.2.1, .int .i64 (t.2.2 : Int)]
theorem enc3_len (t : Tok) : (enc3 t).length = 3 := rfl
theorem enc3_snoc (l : List Tok) (t : Tok) : (l ++ [t]).flatMap enc3 = l.flatMap enc3 ++ [.int .i64 (t.1 : Int), strV t.2.1, .int .i64 (t.2.2 : Int)] := by
  rw [List.flatMap_append]; rfl
/-- A slice of tokens that is read. -/
structure IsTk (w : World) (A : Option Addr) (n cap : Nat) (l : List Tok) : Prop where
  len : l.length = n
  le : n ≤ cap
  capm : cap ≤ maxLen
  nil : A = none → cap = 0
  rd : Rd w A (l.flatMap enc3)
theorem IsTk.below {w w1 : World} {A : Option Addr} {n cap : Nat} {l} (h : IsTk w A n cap l) (k : Below w.heap.size w w1) : IsTk w1 A n cap l := ⟨h.len, h.le, h.capm, h.nil, h.rd.below k⟩
theorem IsTk.at {w : World} {A : Option Addr} {n cap : Nat} {l : List Tok} (h : IsTk w A n cap l) {i : Nat} (hi : i < n) : ∃ (k : Nat) (T : List UInt8) (z : Nat) (b o : Nat), l[i]? = some (k, T, z) ∧ A = some ⟨b, o, none⟩ ∧ b < w.heap.size ∧ w.cell? ⟨b, o + i * 3, none⟩ = some (.int .i64 (k : Int)) ∧ w.cell? ⟨b, o + i * 3 + 1, none⟩ = some (strV T) ∧ w.cell? ⟨b, o + i * 3 + 2, none⟩ = some (.int .i64 (z : Int)) := by
  have hl : i < l.length := by have := h.len; omega
  obtain ⟨b, o, e, hb, hc⟩ := Rd.struct enc3_len h.rd (by decide) hl
  exact ⟨l[i].1, l[i].2.1, l[i].2.2, b, o, List.getElem?_eq_getElem hl, e, hb, hc 0 _ rfl, hc 1 _ rfl, hc 2 _ rfl⟩
theorem rd_own3 {w : World} {base n cap : Nat} {e : TypeId} {A : Option Addr} {xs : List Value} (h : w.ownsRow base e 3 (.slice A n cap) n xs) : Rd w A xs := fun j hj => by
  have hl := h.1
  rcases h.2 with ⟨h0, h1⟩ | ⟨g, cap', cur, hv, _⟩
  · omega
  · injection hv with hA _ _
    subst hA
    exact ⟨g, 0, rfl, (h.lt g rfl).2, by rw [Nat.zero_add, h.cellAt j (by omega), List.getElem?_eq_getElem hj]⟩
theorem IsTk.of_own {w : World} {base n : Nat} {e : TypeId} {v : Value} {l : List Tok} (h : w.ownsRow base e 3 v n (l.flatMap enc3)) (hn : l.length = n) : ∃ A cap, v = .slice A n cap ∧ IsTk w A n cap l := by
  obtain ⟨A, cap, rfl, h1, h2, h3⟩ := A18.own2_slice h
  exact ⟨A, cap, rfl, hn, h1, h2, h3, rd_own3 h⟩
theorem three_tok (k : Int) (S : ByteArray) (z : Int) : ∀ u ∈ ([.int .i64 k, .string S, .int .i64 z] : List Value), u.oneCell' = true := fun u hu => by
  rcases List.mem_cons.1 hu with rfl | hu
  · rfl
  rcases List.mem_cons.1 hu with rfl | hu
  · rfl
  · rw [List.mem_singleton.1 hu]; rfl
/-- What Tokens hands back. -/
def TkP (T : TypeId) (r : Res) (w : World) (e : Ending) (w' : World) : Prop := ∃ v, e = .returned (.tuple #[v, .int .i64 (r.2.1 : Int), .int .i64 (r.2.2 : Int)]) ∧ w'.ownsRow w.heap.size T 3 v r.1.length (r.1.flatMap enc3) ∧ Below w.heap.size w w'
/-- A block whose cells are these. -/
def Blk (T : TypeId) (W : World) (g : Nat) (l : List Value) : Prop := W.heap[g]? = some (.cells l.toArray T (0, 0))
theorem Blk.lt {T : TypeId} {W : World} {g : Nat} {l : List Value} (h : Blk T W g l) : g < W.heap.size := (Array.getElem?_eq_some_iff.1 h).1
theorem Blk.cell {T : TypeId} {W : World} {g : Nat} {l : List Value} (h : Blk T W g l) (j : Nat) : W.cell? ⟨g, j, none⟩ = l[j]? := by
  unfold Blk at h
  simp [World.cell?, h]
theorem Blk.frz {T : TypeId} {W : World} {g : Nat} {l : List Value} (h : Blk T W g l) (j : Nat) : W.frozen? ⟨g, j, none⟩ = false := by
  unfold Blk at h
  simp [World.frozen?, h]
theorem Blk.set {T : TypeId} {W : World} {g : Nat} {l : List Value} (h : Blk T W g l) (j : Nat) (v : Value) : Blk T (W.setCell ⟨g, j, none⟩ v) g (l.set j v) := by
  unfold Blk at *
  simp [World.setCell, Array.getElem?_modify, h]
theorem Blk.new (W : World) (T : TypeId) (l : List Value) : Blk T (W.alloc (.cells l.toArray T)) W.heap.size l := World.alloc_heap_new W _
theorem Blk.below {T : TypeId} {W W1 : World} {g : Nat} {l : List Value} (h : Blk T W g l) (k : Below W.heap.size W W1) : Blk T W1 g l := (k.block g h.lt).trans h
theorem boxed (w : World) (x : Obj) : Below w.heap.size w (w.alloc x) := (Below.refl _ _).alloc (Nat.le_refl _) _
/-- A token without its line, its length, the error. -/
def fV (f : F) : Value := .tuple #[.agg #[.int .i64 (f.k : Int), strV f.T, .int .i64 0], .int .i64 (f.m : Int), .int .i64 (f.e : Int)]
/-- How such a call ends: the token in its box. -/
theorem fst_ret {fn : Func} (hr : fn.results = #[.cell 2 33, .tmp 3, .tmp 4]) {tmps : Array Value} {W : World} {G : Nat} {k m e : Int} {S : ByteArray} {R : Ending → World → Prop}
    (h2 : tmps.getD 2 undef = .pointer (some ⟨G, 0, none⟩)) (h3 : tmps.getD 3 undef = .int .i64 m) (h4 : tmps.getD 4 undef = .int .i64 e)
    (hb : Blk 33 W G [.int .i64 k, .string S, .int .i64 0]) (hR : R (.returned (.tuple #[.agg #[.int .i64 k, .string S, .int .i64 0], .int .i64 m, .int .i64 e])) W) :
    bodyPost Tryd.prog fn R .ret { tmps := tmps, defers := [] } W := by
  refine bodyPost_ret (v := .tuple #[.agg #[.int .i64 k, .string S, .int .i64 0], .int .i64 m, .int .i64 e]) ?_ rfl hR
  have h2' : tmps[2]?.getD undef = .pointer (some ⟨G, 0, none⟩) := by simpa using h2
  have h3' : tmps[3]?.getD undef = .int .i64 m := by simpa using h3
  have h4' : tmps[4]?.getD undef = .int .i64 e := by simpa using h4
  have hl := run_loadVar_row (P := Tryd.prog) W G 33 33 #[.int .i64 k, .string S, .int .i64 0] (0, 0) _ hb Tryd.underlying33 rfl (by kernel_rfl)
  simp [results, hr, h2', h3', h4', asAddr, hl]
end Go.Proofs.YtpnnkdgoaeibbaaDoor.L19
