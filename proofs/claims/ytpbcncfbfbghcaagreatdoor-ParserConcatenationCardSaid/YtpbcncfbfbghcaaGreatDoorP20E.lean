/- Tokens and labels in memory. No walk here. The table of powers of ten in a world. No walk here. Tokens in memory. No walk here. The contracts of the landed predicates on bytes and of prefix (layer 19). The contracts of the landed isTooLarge, number, character (layer 19). -/
import Derived.Test.YtpbcncfbfbghcaaGreatDoorRows
import Derived.Test.YtpbcncfbfbghcaaGreatDoorP20A
import Derived.Lib.Hide
import Derived.Laws.MakeOwn
import Derived.RangeFuncRecord
import Derived.ChangeSame
import Derived.WalkKit
import Derived.ProofKit
import Derived.WalkSpells
import Derived.WalkLawsBesides
import Derived.BigQuiet
import Derived.Deep.QuietTactic
import Derived.Deep.RegionHeld3
import Derived.Test.YtpbcncfbfbghcaaGreatDoorP20Lift
import Derived.Lib.AppendIntMem
import Derived.Lib.ItoaMem
import Derived.Lib.LaidTab
import Derived.Stop.LaidErr
import Derived.WalkSmall
import Derived.Below
import Derived.Laws.Rows
import Derived.Test.YtpbcncfbfbghcaaGreatDoorShelf
namespace Go.Proofs.YtpbcncfbfbghcaaGreatDoor.A18
set_option maxRecDepth 100000
open Go.RowKit Mem
open Go.Proofs.YtpbcncfbfbghcaaGreatDoor.S14 (rd_slice flat_get flat_len Rd.struct)
set_option linter.unusedVariables false
set_option linter.unusedSimpArgs false

/-- A list of structs of a string and a number in a slice. -/
def enc2 (p : List UInt8 × Int) : List Value := [strV p.1, .int .i64 p.2]
theorem enc2_len (p : List UInt8 × Int) : (enc2 p).length = 2 := rfl
def tokI (t : Tok) : List UInt8 × Int := (t.1, (t.2 : Int))
/-- A slice of such structs that is read. -/
structure IsPs (w : World) (A : Option Addr) (n cap : Nat) (l : List (List UInt8 × Int)) : Prop where
  len : l.length = n
  le : n ≤ cap
  capm : cap ≤ maxLen
  nil : A = none → cap = 0
  rd : Rd w A (l.flatMap enc2)
theorem IsPs.below {w w1 : World} {A : Option Addr} {n cap : Nat} {l} (h : IsPs w A n cap l) (k : Below w.heap.size w w1) : IsPs w1 A n cap l := ⟨h.len, h.le, h.capm, h.nil, h.rd.below k⟩
theorem IsPs.get {w : World} {A : Option Addr} {n cap : Nat} {l} (h : IsPs w A n cap l) {i : Nat} (hi : i < l.length) : ∃ b o : Nat, A = some ⟨b, o, none⟩ ∧ b < w.heap.size ∧ w.cell? ⟨b, o + i * 2, none⟩ = some (strV l[i].1) ∧ w.cell? ⟨b, o + i * 2 + 1, none⟩ = some (.int .i64 l[i].2) := by
  obtain ⟨b, o, e, hb, hc⟩ := Rd.struct enc2_len h.rd (by decide) hi
  exact ⟨b, o, e, hb, hc 0 _ rfl, hc 1 _ rfl⟩
theorem IsPs.at {w : World} {A : Option Addr} {n cap : Nat} {l : List (List UInt8 × Int)} (h : IsPs w A n cap l) {i : Nat} (hi : i < n) : ∃ (T : List UInt8) (z : Int) (b o : Nat), l[i]? = some (T, z) ∧ A = some ⟨b, o, none⟩ ∧ b < w.heap.size ∧ w.cell? ⟨b, o + i * 2, none⟩ = some (strV T) ∧ w.cell? ⟨b, o + i * 2 + 1, none⟩ = some (.int .i64 z) := by
  have hl : i < l.length := by have := h.len; omega
  obtain ⟨b, o, h1, h2, h3, h4⟩ := h.get hl
  exact ⟨l[i].1, l[i].2, b, o, List.getElem?_eq_getElem hl, h1, h2, h3, h4⟩
theorem IsPs.none_ (w : World) : IsPs w none 0 0 [] := ⟨rfl, Nat.le_refl _, by decide, fun _ => rfl, fun j h => by simp at h⟩
theorem rd_own2 {w : World} {base n cap : Nat} {e : TypeId} {A : Option Addr} {xs : List Value} (h : w.ownsRow base e 2 (.slice A n cap) n xs) : Rd w A xs := fun j hj => by
  have hl := h.1
  rcases h.2 with ⟨h0, h1⟩ | ⟨g, cap', cur, hv, _⟩
  · omega
  · injection hv with hA _ _
    subst hA
    exact ⟨g, 0, rfl, (h.lt g rfl).2, by rw [Nat.zero_add, h.cellAt j (by omega), List.getElem?_eq_getElem hj]⟩
theorem own2_slice {w : World} {base n s : Nat} {e : TypeId} {v : Value} {xs : List Value} (h : w.ownsRow base e s v n xs) : ∃ A cap, v = .slice A n cap ∧ n ≤ cap ∧ cap ≤ maxLen ∧ (A = none → cap = 0) := by
  rcases h.2 with ⟨rfl, h0⟩ | ⟨g, cap, cur, rfl, _, _, hn, hm, _⟩
  · subst h0; exact ⟨none, 0, rfl, Nat.le_refl _, by decide, fun _ => rfl⟩
  · exact ⟨_, cap, rfl, hn, hm, fun e => by cases e⟩
theorem IsPs.of_own {w : World} {base n : Nat} {e : TypeId} {v : Value} {l : List (List UInt8 × Int)} (h : w.ownsRow base e 2 v n (l.flatMap enc2)) (hn : l.length = n) : ∃ A cap, v = .slice A n cap ∧ IsPs w A n cap l := by
  obtain ⟨A, cap, rfl, h1, h2, h3⟩ := own2_slice h
  exact ⟨A, cap, rfl, hn, h1, h2, h3, rd_own2 h⟩
theorem list_new (w : World) (l : List Value) (t : TypeId) : ∀ j u, l[j]? = some u → (w.alloc (.cells l.toArray t)).cell? ((⟨w.heap.size, 0, none⟩ : Addr).add j) = some u := by
  intro j u hj
  rw [add_at, World.cell?_alloc_new]
  simpa using hj
theorem two_si (S : ByteArray) (z : Int) : ∀ u ∈ ([.string S, .int .i64 z] : List Value), u.oneCell' = true := fun u hu => by
  rcases List.mem_cons.1 hu with rfl | hu
  · rfl
  · rw [List.mem_singleton.1 hu]; rfl
theorem enc2_snoc (l : List (List UInt8 × Int)) (p : List UInt8 × Int) : (l ++ [p]).flatMap enc2 = l.flatMap enc2 ++ [strV p.1, .int .i64 p.2] := by
  rw [List.flatMap_append]; rfl
theorem own_none (w : World) (base : Nat) (e : TypeId) (s : Nat) : w.ownsRow base e s (.slice none 0 0) 0 [] := ⟨by simp, .inl ⟨rfl, rfl⟩⟩
/-- A string's part as a list. -/
theorem ext_list (s : ByteArray) (a b : Nat) : (s.extract a b).data.toList = (s.data.toList.drop a).take (b - a) := by
  rw [ByteArray.data_extract, Array.toList_extract]
theorem str_of (l : List UInt8) (s : ByteArray) (h : s.data.toList = l) : (⟨l.toArray⟩ : ByteArray) = s := by subst h; rfl
theorem ba_get (S : ByteArray) (k : Nat) (h : k < S.size) : S.data.toList[k]'(by simpa using h) = S[k] := by simp [ByteArray.getElem_eq_getElem_data]
theorem drop_get (S : ByteArray) (k : Nat) (h : k < S.size) : S.data.toList.drop k = S[k] :: S.data.toList.drop (k + 1) := by
  rw [← ba_get S k h, List.getElem_cons_drop]
theorem str_cat (a b : List UInt8) : (⟨a.toArray⟩ : ByteArray) ++ ⟨b.toArray⟩ = ⟨(a ++ b).toArray⟩ := by
  apply ByteArray.ext
  rw [ByteArray.data_append]
  simp
theorem own_mono {w : World} {base base' e size n : Nat} {v : Value} {xs : List Value} (h : w.ownsRow base e size v n xs) (hb : base' ≤ base) : w.ownsRow base' e size v n xs := ⟨h.1, h.2.imp id fun ⟨g, cap, cur, h1, h2, h3⟩ => ⟨g, cap, cur, h1, Nat.le_trans hb h2, h3⟩⟩
end Go.Proofs.YtpbcncfbfbghcaaGreatDoor.A18
namespace Go.Proofs.YtpbcncfbfbghcaaGreatDoor.M17
set_option maxRecDepth 100000
open Go.RowKit Mem
set_option linter.unusedVariables false
set_option linter.unusedSimpArgs false

/-- The table of powers of ten is in the world. -/
def Laid (w : World) : Prop := Lib.TabIs Tryz.prog w "internal/strconv.uint64pow10" .u64 Lib.pow10Tab
theorem gPow : Tryz.prog.globalNamed "internal/strconv.uint64pow10" = some 1 := by kernel_rfl
theorem Laid.below {w w' : World} (h : Laid w) (k : Below w.heap.size w w') : Laid w' := by
  unfold Laid Lib.TabIs at h ⊢
  have hlt : 1 < w.heap.size := World.block_lt_of_cell? _ _ (World.var?_cell gPow h 0)
  exact var?_below k gPow hlt h
theorem tPow : (Tryz.prog.globals[1]?).map (·.type) = some 165 := by kernel_rfl
theorem cPow : Tryz.prog.cellsOf 165 = 20 := by kernel_rfl
theorem cU64 : Tryz.prog.cellsOf 124 = 1 := by kernel_rfl
end Go.Proofs.YtpbcncfbfbghcaaGreatDoor.M17
namespace Go.Proofs.YtpbcncfbfbghcaaGreatDoor.L19
set_option maxRecDepth 100000
open Go.RowKit Mem
open Go.Proofs.YtpbcncfbfbghcaaGreatDoor.S14 (rd_slice flat_get flat_len Rd.struct)
open M17 (Laid Laid.below gPow tPow cPow cU64)
set_option linter.unusedVariables false
set_option linter.unusedSimpArgs false

def enc3 (t : Tok) : List Value := [.int .i64 (t.1 : Int), strV t.2.1, .int .i64 (t.2.2 : Int)]
theorem enc3_len (t : Tok) : (enc3 t).length = 3 := rfl
theorem enc3_snoc (l : List Tok) (t : Tok) : (l ++ [t]).flatMap enc3 = l.flatMap enc3 ++ [.int .i64 (t.1 : Int), strV t.2.1, .int .i64 (t.2.2 : Int)] := by
  rw [List.flatMap_append]; rfl
/-- A slice of tokens that is read. -/
structure IsTk (w : World) (A : Option Addr) (n cap : Nat) (l : List Tok) : Prop where
  len : l.length = n
  le : n ≤ cap
  capm : cap ≤ maxLen
  nil : A = none → cap = 0
  rd : Rd w A (l.flatMap enc3)
theorem IsTk.below {w w1 : World} {A : Option Addr} {n cap : Nat} {l} (h : IsTk w A n cap l) (k : Below w.heap.size w w1) : IsTk w1 A n cap l := ⟨h.len, h.le, h.capm, h.nil, h.rd.below k⟩
theorem IsTk.at {w : World} {A : Option Addr} {n cap : Nat} {l : List Tok} (h : IsTk w A n cap l) {i : Nat} (hi : i < n) : ∃ (k : Nat) (T : List UInt8) (z : Nat) (b o : Nat), l[i]? = some (k, T, z) ∧ A = some ⟨b, o, none⟩ ∧ b < w.heap.size ∧ w.cell? ⟨b, o + i * 3, none⟩ = some (.int .i64 (k : Int)) ∧ w.cell? ⟨b, o + i * 3 + 1, none⟩ = some (strV T) ∧ w.cell? ⟨b, o + i * 3 + 2, none⟩ = some (.int .i64 (z : Int)) := by
  have hl : i < l.length := by have := h.len; omega
  obtain ⟨b, o, e, hb, hc⟩ := Rd.struct enc3_len h.rd (by decide) hl
  exact ⟨l[i].1, l[i].2.1, l[i].2.2, b, o, List.getElem?_eq_getElem hl, e, hb, hc 0 _ rfl, hc 1 _ rfl, hc 2 _ rfl⟩
theorem rd_own3 {w : World} {base n cap : Nat} {e : TypeId} {A : Option Addr} {xs : List Value} (h : w.ownsRow base e 3 (.slice A n cap) n xs) : Rd w A xs := fun j hj => by
  have hl := h.1
  rcases h.2 with ⟨h0, h1⟩ | ⟨g, cap', cur, hv, _⟩
  · omega
  · injection hv with hA _ _
    subst hA
    exact ⟨g, 0, rfl, (h.lt g rfl).2, by rw [Nat.zero_add, h.cellAt j (by omega), List.getElem?_eq_getElem hj]⟩
theorem IsTk.of_own {w : World} {base n : Nat} {e : TypeId} {v : Value} {l : List Tok} (h : w.ownsRow base e 3 v n (l.flatMap enc3)) (hn : l.length = n) : ∃ A cap, v = .slice A n cap ∧ IsTk w A n cap l := by
  obtain ⟨A, cap, rfl, h1, h2, h3⟩ := A18.own2_slice h
  exact ⟨A, cap, rfl, hn, h1, h2, h3, rd_own3 h⟩
theorem three_tok (k : Int) (S : ByteArray) (z : Int) : ∀ u ∈ ([.int .i64 k, .string S, .int .i64 z] : List Value), u.oneCell' = true := fun u hu => by
  rcases List.mem_cons.1 hu with rfl | hu
  · rfl
  rcases List.mem_cons.1 hu with rfl | hu
  · rfl
  · rw [List.mem_singleton.1 hu]; rfl
/-- What Tokens hands back. -/
def TkP (T : TypeId) (r : Res) (w : World) (e : Ending) (w' : World) : Prop := ∃ v, e = .returned (.tuple #[v, .int .i64 (r.2.1 : Int), .int .i64 (r.2.2 : Int)]) ∧ w'.ownsRow w.heap.size T 3 v r.1.length (r.1.flatMap enc3) ∧ Below w.heap.size w w'
/-- A block whose cells are these. -/
def Blk (T : TypeId) (W : World) (g : Nat) (l : List Value) : Prop := W.heap[g]? = some (.cells l.toArray T (0, 0))
theorem Blk.lt {T : TypeId} {W : World} {g : Nat} {l : List Value} (h : Blk T W g l) : g < W.heap.size := (Array.getElem?_eq_some_iff.1 h).1
theorem Blk.cell {T : TypeId} {W : World} {g : Nat} {l : List Value} (h : Blk T W g l) (j : Nat) : W.cell? ⟨g, j, none⟩ = l[j]? := by
  unfold Blk at h
  simp [World.cell?, h]
theorem Blk.frz {T : TypeId} {W : World} {g : Nat} {l : List Value} (h : Blk T W g l) (j : Nat) : W.frozen? ⟨g, j, none⟩ = false := by
  unfold Blk at h
  simp [World.frozen?, h]
theorem Blk.set {T : TypeId} {W : World} {g : Nat} {l : List Value} (h : Blk T W g l) (j : Nat) (v : Value) : Blk T (W.setCell ⟨g, j, none⟩ v) g (l.set j v) := by
  unfold Blk at *
  simp [World.setCell, Array.getElem?_modify, h]
theorem Blk.new (W : World) (T : TypeId) (l : List Value) : Blk T (W.alloc (.cells l.toArray T)) W.heap.size l := World.alloc_heap_new W _
theorem Blk.below {T : TypeId} {W W1 : World} {g : Nat} {l : List Value} (h : Blk T W g l) (k : Below W.heap.size W W1) : Blk T W1 g l := (k.block g h.lt).trans h
theorem boxed (w : World) (x : Obj) : Below w.heap.size w (w.alloc x) := (Below.refl _ _).alloc (Nat.le_refl _) _
/-- A token without its line, its length, the error. -/
def fV (f : F) : Value := .tuple #[.agg #[.int .i64 (f.k : Int), strV f.T, .int .i64 0], .int .i64 (f.m : Int), .int .i64 (f.e : Int)]
/-- How such a call ends: the token in its box. -/
theorem fst_ret {fn : Func} (hr : fn.results = #[.cell 2 39, .tmp 3, .tmp 4]) {tmps : Array Value} {W : World} {G : Nat} {k m e : Int} {S : ByteArray} {R : Ending → World → Prop}
    (h2 : tmps.getD 2 undef = .pointer (some ⟨G, 0, none⟩)) (h3 : tmps.getD 3 undef = .int .i64 m) (h4 : tmps.getD 4 undef = .int .i64 e)
    (hb : Blk 39 W G [.int .i64 k, .string S, .int .i64 0]) (hR : R (.returned (.tuple #[.agg #[.int .i64 k, .string S, .int .i64 0], .int .i64 m, .int .i64 e])) W) :
    bodyPost Tryz.prog fn R .ret { tmps := tmps, defers := [] } W := by
  refine bodyPost_ret (v := .tuple #[.agg #[.int .i64 k, .string S, .int .i64 0], .int .i64 m, .int .i64 e]) ?_ rfl hR
  have h2' : tmps[2]?.getD undef = .pointer (some ⟨G, 0, none⟩) := by simpa using h2
  have h3' : tmps[3]?.getD undef = .int .i64 m := by simpa using h3
  have h4' : tmps[4]?.getD undef = .int .i64 e := by simpa using h4
  have hl := run_loadVar_row (P := Tryz.prog) W G 39 39 #[.int .i64 k, .string S, .int .i64 0] (0, 0) _ hb Tryz.underlying39 rfl (by kernel_rfl)
  simp [results, hr, h2', h3', h4', asAddr, hl]
end Go.Proofs.YtpbcncfbfbghcaaGreatDoor.L19
namespace Go.Proofs.YtpbcncfbfbghcaaGreatDoor.L19
set_option maxRecDepth 100000
open Go.RowKit Mem
open A18 (ba_get drop_get ext_list str_of)
set_option linter.unusedVariables false
set_option linter.unusedSimpArgs false

/-- A predicate on bytes as a function of the program. -/
def Has (F : Nat) (p : UInt8 → Bool) : Prop := ∀ (c : UInt8) (w : World), Calls Tryz.prog F #[.int .u8 (c.toNat : Int)] w fun e w' => e = .returned (.bool (p c)) ∧ w = w'
/-- It has a body. -/
def Ent (F : Nat) : Prop := ∀ (v : Value) (w : World), (callFunc F #[v]).run Tryz.prog w = .ok (.enter F #[v]) w
theorem ent_digit : Ent 82 := fun _ _ => rfl
theorem ent_gap1 : Ent 77 := fun _ _ => rfl
theorem ent_gap2 : Ent 78 := fun _ _ => rfl
theorem ent_word1 : Ent 120 := fun _ _ => rfl
theorem tst (c : UInt8) (n : Nat) (hn : n < 256) : ((c.toNat : Int) == (n : Int)) = (c == UInt8.ofNat n) := by
  have : ((c.toNat : Int) == (n : Int)) = decide (c.toNat = n) := by
    rw [Bool.eq_iff_iff, beq_iff_eq, decide_eq_true_eq]; omega
  rw [this, Bool.eq_iff_iff, decide_eq_true_eq, beq_iff_eq]
  constructor
  · intro h; rw [← h]; simp
  · intro h; rw [h]; simp [Nat.mod_eq_of_lt hn]
theorem tsn (c : UInt8) (n : Nat) (hn : n < 256) : ((c.toNat : Int) != (n : Int)) = !(c == UInt8.ofNat n) := by
  rw [← tst c n hn]; rfl
theorem tle (c : UInt8) (n : Nat) : decide ((n : Int) ≤ (c.toNat : Int)) = decide (n ≤ c.toNat) := decide_eq_decide.2 (by omega)
theorem tge (c : UInt8) (n : Nat) : decide ((c.toNat : Int) ≤ (n : Int)) = decide (c.toNat ≤ n) := decide_eq_decide.2 (by omega)
set_option maxHeartbeats 2000000 in
theorem isDigit_any : Has 82 isDg := by
  intro c w
  have t1 := tle c 48
  have t2 := tge c 57
  unfold isDg
  rw [show ((48 : Nat) : Int) = 48 from rfl] at t1
  rw [show ((57 : Nat) : Int) = 57 from rfl] at t2
  generalize c.toNat = m at *
  rcases e1 : decide (48 ≤ m) with _ | _ <;> rcases e2 : decide (m ≤ 57) with _ | _ <;> rw [e1] at t1 <;> rw [e2] at t2 <;> clear e1 e2
  all_goals
    go_enter Tryz.func82, Tryz.ntmps82
    go_wp2
    first | go_ret | skip
    exact ⟨rfl, rfl⟩
set_option maxHeartbeats 2000000 in
theorem isSmall_any : Has 84 isLt := by
  intro c w
  have t1 := tle c 97
  have t2 := tge c 122
  unfold isLt
  rw [show ((97 : Nat) : Int) = 97 from rfl] at t1
  rw [show ((122 : Nat) : Int) = 122 from rfl] at t2
  generalize c.toNat = m at *
  rcases e1 : decide (97 ≤ m) with _ | _ <;> rcases e2 : decide (m ≤ 122) with _ | _ <;> rw [e1] at t1 <;> rw [e2] at t2 <;> clear e1 e2
  all_goals
    go_enter Tryz.func84, Tryz.ntmps84
    go_wp2
    first | go_ret | skip
    exact ⟨rfl, rfl⟩
set_option maxHeartbeats 2000000 in
theorem isLetter_any : Has 117 isLa := by
  intro c w
  have t1 := tle c 65
  have t2 := tge c 90
  have h1 := isSmall_any c
  unfold isLa isUp
  rw [show ((65 : Nat) : Int) = 65 from rfl] at t1
  rw [show ((90 : Nat) : Int) = 90 from rfl] at t2
  rcases b : isLt c with _ | _ <;> rw [b] at h1 <;> clear b <;> replace h1 := Lib.hid h1
  · generalize c.toNat = m at *
    rcases e1 : decide (65 ≤ m) with _ | _ <;> rcases e2 : decide (m ≤ 90) with _ | _ <;> rw [e1] at t1 <;> rw [e2] at t2 <;> clear e1 e2
    all_goals
      go_enter Tryz.func117, Tryz.ntmps117
      go_wp2_with fail
      refine (h1.out _).mono ?_
      rintro e w1 ⟨rfl, rfl⟩
      go_wp2
      first | go_ret | skip
      exact ⟨rfl, rfl⟩
  · generalize c.toNat = m at *
    clear t1 t2
    go_enter Tryz.func117, Tryz.ntmps117
    go_wp2_with fail
    refine (h1.out _).mono ?_
    rintro e w1 ⟨rfl, rfl⟩
    go_wp2
    first | go_ret | skip
    exact ⟨rfl, rfl⟩
set_option maxHeartbeats 2000000 in
theorem isQuotable_any : Has 123 isQt := by
  intro c w
  have t1 := tle c 32
  have t2 := tge c 126
  have t3 := tsn c 39 (by decide)
  have t4 := tsn c 92 (by decide)
  unfold isQt
  rw [show ((32 : Nat) : Int) = 32 from rfl] at t1
  rw [show ((126 : Nat) : Int) = 126 from rfl] at t2
  rw [show ((39 : Nat) : Int) = 39 from rfl, show UInt8.ofNat 39 = 39 from rfl] at t3
  rw [show ((92 : Nat) : Int) = 92 from rfl, show UInt8.ofNat 92 = 92 from rfl] at t4
  generalize (c == 39) = q3 at *
  generalize (c == 92) = q4 at *
  generalize c.toNat = m at *
  rcases e1 : decide (32 ≤ m) with _ | _ <;> rcases e2 : decide (m ≤ 126) with _ | _ <;> rw [e1] at t1 <;> rw [e2] at t2 <;> clear e1 e2 <;> cases q3 <;> cases q4
  all_goals
    go_enter Tryz.func123, Tryz.ntmps123
    go_wp2
    first | go_ret | skip
    exact ⟨rfl, rfl⟩
set_option maxHeartbeats 2000000 in
theorem gap1_any : Has 77 isLn := by
  intro c w
  have t2 := tsn c 10 (by decide)
  rw [show ((10 : Nat) : Int) = 10 from rfl, show UInt8.ofNat 10 = 10 from rfl] at t2
  unfold isLn
  generalize (c == 10) = q at *
  generalize c.toNat = m at *
  cases q
  all_goals
    go_enter Tryz.func77, Tryz.ntmps77
    go_wp2
    first | go_ret | skip
    exact ⟨rfl, rfl⟩
set_option maxHeartbeats 2000000 in
theorem gap2_any : Has 78 isBl := by
  intro c w
  have t1 := tst c 32 (by decide)
  have t2 := tst c 9 (by decide)
  have t3 := tst c 10 (by decide)
  rw [show ((32 : Nat) : Int) = 32 from rfl, show UInt8.ofNat 32 = 32 from rfl] at t1
  rw [show ((9 : Nat) : Int) = 9 from rfl, show UInt8.ofNat 9 = 9 from rfl] at t2
  rw [show ((10 : Nat) : Int) = 10 from rfl, show UInt8.ofNat 10 = 10 from rfl] at t3
  unfold isBl
  generalize (c == 32) = q1 at *
  generalize (c == 9) = q2 at *
  generalize (c == 10) = q3 at *
  generalize c.toNat = m at *
  cases q1 <;> cases q2 <;> cases q3
  all_goals
    go_enter Tryz.func78, Tryz.ntmps78
    go_wp2
    first | go_ret | skip
    exact ⟨rfl, rfl⟩
set_option maxHeartbeats 2000000 in
theorem word1_any : Has 120 isNm := by
  intro c w
  have h1 := isSmall_any c
  have h2 := isDigit_any c
  have t2 := tst c 95 (by decide)
  rw [show ((95 : Nat) : Int) = 95 from rfl, show UInt8.ofNat 95 = 95 from rfl] at t2
  unfold isNm
  generalize isLt c = b at *
  generalize isDg c = d at *
  generalize (c == 95) = q at *
  generalize c.toNat = m at *
  replace h1 := Lib.hid h1
  replace h2 := Lib.hid h2
  cases b
  · cases d
    · cases q
      all_goals
        go_enter Tryz.func120, Tryz.ntmps120
        go_wp2_with fail
        refine (h1.out _).mono ?_
        rintro e w1 ⟨rfl, rfl⟩
        go_wp2_with fail
        refine (h2.out _).mono ?_
        rintro e w1 ⟨rfl, rfl⟩
        go_wp2
        first | go_ret | skip
        exact ⟨rfl, rfl⟩
    · go_enter Tryz.func120, Tryz.ntmps120
      go_wp2_with fail
      refine (h1.out _).mono ?_
      rintro e w1 ⟨rfl, rfl⟩
      go_wp2_with fail
      refine (h2.out _).mono ?_
      rintro e w1 ⟨rfl, rfl⟩
      go_wp2
      first | go_ret | skip
      exact ⟨rfl, rfl⟩
  · go_enter Tryz.func120, Tryz.ntmps120
    go_wp2_with fail
    refine (h1.out _).mono ?_
    rintro e w1 ⟨rfl, rfl⟩
    go_wp2
    first | go_ret | skip
    exact ⟨rfl, rfl⟩
set_option maxHeartbeats 4000000 in
theorem prefix_any {F : Nat} {p : UInt8 → Bool} (hF : Has F p) (hE : Ent F) (s : ByteArray) (hs : s.size ≤ 1000000) (w : World) :
    Calls Tryz.prog 76 #[.string s, .func (.func F) #[] #[]] w fun e w' => e = .returned (.int .i64 (pre p s.data.toList : Int)) ∧ w = w' := by
  have cF := Lib.hid hF
  replace hE := Lib.hid hE
  have hn : s.data.toList.length = s.size := by simp
  have h1 := Lib.hid (fun (k : Nat) (hk : k < s.size) (h : ∀ c ∈ s.data.toList.take k, p c = true) (hq : p s[k] = false) => pre_at (l := s.data.toList) (k := k) (by omega) h (by rw [ba_get s k hk]; exact hq))
  have h2 := Lib.hid (fun (h : ∀ c ∈ s.data.toList, p c = true) => (pre_all h).trans hn)
  replace hn := Lib.hid hn
  obtain ⟨Z, hZ⟩ : ∃ Z, pre p s.data.toList = Z := ⟨_, rfl⟩
  rw [hZ] at h1 h2 ⊢
  clear hZ hF
  go_enter Tryz.func76, Tryz.ntmps76
  go_wp2
  go_loop [8] (fun iv => ∃ (k : Nat), iv = .int .i64 (k : Int) ∧ k ≤ s.size ∧ Hid (∀ c ∈ s.data.toList.take k, p c = true)) (fun iv => s.size - (intOf iv).toNat)
  case atStart => exact ⟨0, rfl, Nat.zero_le _, Lib.hid (by simp)⟩
  case round =>
    obtain ⟨k, rfl, hk, hok⟩ := hrel
    by_cases hlt : k < s.size
    · have dk : decide ((k : Int) < (s.size : Int)) = true := decide_eq_true (by omega)
      have dk2 : decide (k < s.size) = true := decide_eq_true hlt
      have k0 : (0 : Int) ≤ (k : Int) := by omega
      have k1 : (k : Int) < (s.size : Int) := by omega
      have htk := List.take_succ_eq_append_getElem (l := s.data.toList) (i := k) (by rw [hn.out]; exact hlt)
      rw [ba_get s k hlt] at htk
      have h1k := h1.out k hlt hok.out
      have hc := cF.out s[k]
      obtain ⟨c, hcc⟩ : ∃ c, s[k] = c := ⟨_, rfl⟩
      rw [hcc] at htk h1k hc
      obtain ⟨b, hb⟩ : ∃ b, p c = b := ⟨_, rfl⟩
      rw [hb] at h1k hc
      cases b
      · have hz := h1k rfl
        subst hz
        have c1 := Lib.hid hc
        clear hok htk h1k hb hc h1 h2 hn cF
        go_wp2_with fail
        rw [hE.out, Oper.upon_enter]
        refine (c1.out _).mono ?_
        rintro e w3 ⟨rfl, rfl⟩
        go_wp2
        first | go_ret | skip
        exact ⟨rfl, rfl⟩
      · have hok2 : Hid (∀ c ∈ s.data.toList.take (k + 1), p c = true) := Lib.hid (by
          rw [htk]
          intro x hx
          rcases List.mem_append.1 hx with hx | hx
          · exact hok.out x hx
          · rw [List.mem_singleton.1 hx]; exact hb)
        have c1 := Lib.hid hc
        clear hok htk h1k hb hc h1 h2 hn cF
        go_wp2_with fail
        rw [hE.out, Oper.upon_enter]
        refine (c1.out _).mono ?_
        rintro e w3 ⟨rfl, rfl⟩
        go_wp2
        go_round
        case rel => exact ⟨k + 1, by go_num, by omega, hok2⟩
        case measure => simp [intOf]; omega
    · obtain rfl : k = s.size := by omega
      have dk : decide ((s.size : Int) < (s.size : Int)) = false := decide_eq_false (by omega)
      have hz := h2.out (by have := hok.out; rwa [List.take_of_length_le (by rw [hn.out]; exact Nat.le_refl _)] at this)
      subst hz
      clear h1 h2 hok hn cF
      go_wp2
      first | go_ret | skip
      exact ⟨rfl, rfl⟩
end Go.Proofs.YtpbcncfbfbghcaaGreatDoor.L19
namespace Go.Proofs.YtpbcncfbfbghcaaGreatDoor.L19
set_option maxRecDepth 100000
open Go.RowKit Mem
open A18 (ba_get drop_get ext_list str_of)
open M17 (Laid Laid.below)
set_option linter.unusedVariables false
set_option linter.unusedSimpArgs false

theorem str_empty {s : ByteArray} (h : s.size = 0) : s = ByteArray.empty := by
  apply ByteArray.ext
  apply Array.eq_empty_of_size_eq_zero h
theorem str_ne {s : ByteArray} (h : ¬ s.size = 0) : s.toList.isEmpty = false ∧ (s.toList == []) = false ∧ ¬ s.toList = [] := by
  have : s.toList ≠ [] := by
    rw [str_toList]
    intro e
    apply h
    have h2 : s.data.toList.length = s.size := by simp
    rw [← h2, e]; rfl
  exact ⟨by simpa using this, beq_eq_false_iff_ne.2 this, this⟩
set_option maxHeartbeats 4000000 in
theorem isTooLarge_any (s : ByteArray) (hs : s.size ≤ 1000000) (h1 : ∀ c ∈ s.data.toList, isDg c = true) (h2 : s.data.toList ≠ []) (h3 : s.data.toList.head? = some 48 → s.data.toList = [48]) (w : World) :
    Calls Tryz.prog 119 #[.string s] w fun e w' => e = .returned (.bool (decide (4294967295 < nval s.data.toList))) ∧ w = w' := by
  have hn : s.data.toList.length = s.size := by simp
  by_cases h : s.size = 10
  · have t1 : ((s.size : Int) != 10) = false := by rw [h]; rfl
    have hb := big_lex h1 (by omega)
    rw [← str_toList] at hb
    rw [show lrg = [52, 50, 57, 52, 57, 54, 55, 50, 57, 53] from rfl] at hb
    rw [str_toList] at hb
    obtain ⟨b, hbb⟩ : ∃ b, decide (4294967295 < nval s.data.toList) = b := ⟨_, rfl⟩
    rw [hbb] at hb ⊢
    rw [← str_toList] at hb
    clear hbb h1 h2 h3 hn h
    go_enter Tryz.func119, Tryz.ntmps119
    go_wp2
    first | go_ret | skip
    exact ⟨rfl, rfl⟩
  · have t1 : ((s.size : Int) != 10) = true := bne_iff_ne.2 (by omega)
    have hb := big_len h1 h2 h3 (by omega)
    rw [hn] at hb
    rw [hb]
    have t2 : decide ((10 : Int) < (s.size : Int)) = decide (10 < s.size) := decide_eq_decide.2 (by omega)
    obtain ⟨b, hbb⟩ : ∃ b, decide (10 < s.size) = b := ⟨_, rfl⟩
    rw [hbb] at t2 ⊢
    clear hbb h1 h2 h3 hn h hb
    go_enter Tryz.func119, Tryz.ntmps119
    go_wp2
    first | go_ret | skip
    exact ⟨rfl, rfl⟩
theorem list_len (s : ByteArray) : s.data.toList.length = s.size := by simp
-- BEGIN number
theorem head_drop {l : List UInt8} {k : Nat} (h : k < l.length) : (l.drop k).head? = some l[k] := by
  rw [← List.getElem_cons_drop h]; rfl
theorem num_al {s : ByteArray} {k : Nat} (h : k < s.size) (hk : pre isDg s.data.toList = k) (ha : isAl s[k] = true) : num s.data.toList = bad 3 := by
  unfold num
  rw [hk, head_drop (by rw [list_len]; exact h), ba_get s k h]
  show (if isAl s[k] = true then _ else _) = _
  rw [if_pos ha]
theorem num_no {s : ByteArray} {k : Nat} (hk : pre isDg s.data.toList = k) (ha : ∀ h : k < s.size, isAl s[k] = false) : num s.data.toList = if 4294967295 < nval (val0 (s.data.toList.take k)) then bad 2 else good 1 (val0 (s.data.toList.take k)) k := by
  unfold num
  rw [hk]
  have : ¬ (((s.data.toList.drop k).head?.map isAl).getD false = true) := by
    by_cases h : k < s.size
    · rw [head_drop (by rw [list_len]; exact h), ba_get s k h]
      show ¬ (isAl s[k] = true)
      rw [ha h]; simp
    · rw [List.drop_of_length_le (by rw [list_len]; omega)]
      simp
  rw [if_neg this]
theorem strV_of {s : ByteArray} {l : List UInt8} (h : s.data.toList = l) : strV l = .string s := by subst h; rfl
set_option maxHeartbeats 16000000 in
theorem number_any (s : ByteArray) (hs : s.size ≤ 1000000) (w : World) : Calls Tryz.prog 83 #[.string s] w fun e w' => e = .returned (fV (num s.data.toList)) ∧ Below w.heap.size w w' := by
  have hle := pre_le isDg s.data.toList
  rw [list_len] at hle
  obtain ⟨Z, hZ⟩ : ∃ Z, pre isDg s.data.toList = Z := ⟨_, rfl⟩
  have hdg : ∀ c ∈ s.data.toList.take Z, isDg c = true := by rw [← hZ, take_pre]; exact while_mem
  have cP := Lib.hid (fun W => prefix_any isDigit_any ent_digit s hs W)
  rw [hZ] at cP hle
  obtain ⟨R, hR⟩ : ∃ R, fV (num s.data.toList) = R := ⟨_, rfl⟩
  have hy : ∀ h : Z < s.size, isAl s[Z] = true → R = fV (bad 3) := fun h ha => by rw [← hR, num_al h hZ ha]
  have hn2 : (∀ h : Z < s.size, isAl s[Z] = false) → R = fV (if 4294967295 < nval (val0 (s.data.toList.take Z)) then bad 2 else good 1 (val0 (s.data.toList.take Z)) Z) := fun ha => by rw [← hR, num_no hZ ha]
  rw [hR]
  obtain ⟨g1, g2, g3⟩ := val0_good hdg
  have cT := fun W => Tryz.strings_TrimLeft_one (s.extract 0 Z) 48 (by decide) W
  rw [ext_list, List.drop_zero, Nat.sub_zero] at cT
  have hv : val0 (s.data.toList.take Z) = if (s.data.toList.take Z).dropWhile (· == 48) = [] then [48] else (s.data.toList.take Z).dropWhile (· == 48) := rfl
  rw [show Lib.trimLeftB (s.data.toList.take Z) 48 = (s.data.toList.take Z).dropWhile (· == 48) from rfl] at cT
  have hvl := drop_while_le (· == 48) (s.data.toList.take Z)
  rw [List.length_take, list_len] at hvl
  obtain ⟨V, hV⟩ : ∃ V, (s.data.toList.take Z).dropWhile (· == 48) = V := ⟨_, rfl⟩
  rw [hV] at cT hv hvl
  replace hvl := Nat.le_trans hvl (Nat.min_le_right _ _)
  obtain ⟨U, hU⟩ : ∃ U, val0 (s.data.toList.take Z) = U := ⟨_, rfl⟩
  rw [hU] at g1 g2 g3 hv hn2
  obtain ⟨SV, hSV⟩ : ∃ S : ByteArray, ⟨V.toArray⟩ = S := ⟨_, rfl⟩
  have hSz : SV.size = V.length := by rw [← hSV, str_size]
  have hSl : SV.data.toList = V := by rw [← hSV]
  rw [hSV] at cT
  have cB : ∀ v : ByteArray, v.data.toList = U → v.size ≤ 1000000 → ∀ W, Calls Tryz.prog 119 #[.string v] W fun e w' => e = .returned (.bool (decide (4294967295 < nval U))) ∧ W = w' := fun v hv hz W => by
    have := isTooLarge_any v hz (by rw [hv]; exact g1) (by rw [hv]; exact g2) (by rw [hv]; exact g3) W
    rw [hv] at this
    exact this
  have Z0 : (0 : Int) ≤ (Z : Int) := by omega
  have Z1 : (Z : Int) ≤ (s.size : Int) := by omega
  have hSs : SV.size ≤ 1000000 := by omega
  replace cT := Lib.hid cT
  have hb0 := Lib.hid (boxed w (.cells #[.int .i64 0, .string ⟨#[]⟩, .int .i64 0] 39))
  have hk0 := Lib.hid (Blk.new w 39 [.int .i64 0, .string ⟨#[]⟩, .int .i64 0])
  replace hn2 := Lib.hid hn2
  clear g1 g2 g3 hR hdg hZ hV hU hvl hSV
  by_cases hlt : Z < s.size
  · have dk : decide ((Z : Int) < (s.size : Int)) = true := decide_eq_true (by omega)
    have dk2 : decide (Z < s.size) = true := decide_eq_true hlt
    have k1 : (Z : Int) < (s.size : Int) := by omega
    have cL := isLetter_any s[Z]
    have t1 := tst s[Z] 95 (by decide)
    rw [show ((95 : Nat) : Int) = 95 from rfl, show UInt8.ofNat 95 = 95 from rfl] at t1
    replace hy := hy hlt
    replace hn2 := Lib.hid (fun h : isAl s[Z] = false => hn2.out (fun _ => h))
    unfold isAl at hy hn2
    obtain ⟨c, hc⟩ : ∃ c, s[Z] = c := ⟨_, rfl⟩
    rw [hc] at cL t1 hy hn2
    rcases b1 : isLa c with _ | _ <;> rw [b1] at cL hy hn2 <;> replace cL := Lib.hid cL
    · rcases b2 : (c == 95) with _ | _ <;> rw [b2] at t1 hy hn2
      · clear b1 b2
        have hal : (false || false) = false := rfl
        have hR := hn2.out hal
        clear hn2 hal
        by_cases hz : SV.size = 0
        · obtain rfl := str_empty hz
          have hVe : V = [] := List.eq_nil_of_length_eq_zero (by omega)
          rw [if_pos hVe] at hv
          subst hv
          have c2 := Lib.hid (fun W => cB ⟨#[48]⟩ rfl (by decide) W)
          by_cases hbig : 4294967295 < nval [48]
          · rw [if_pos hbig] at hR
            rw [decide_eq_true hbig] at c2
            replace hR := Lib.hid hR
            clear cB hbig hVe hy hSz hSl
            go_enter Tryz.func83, Tryz.ntmps83
            go_wp2_with fail
            refine (cP.out _).mono ?_
            rintro e w1 ⟨rfl, rfl⟩
            go_wp2_with fail
            refine (cL.out _).mono ?_
            rintro e w1 ⟨rfl, rfl⟩
            go_wp2_with fail
            refine (cT.out _).mono ?_
            rintro e w1 ⟨rfl, rfl⟩
            go_wp2_with fail
            refine (c2.out _).mono ?_
            rintro e w1 ⟨rfl, rfl⟩
            go_wp2
            exact fst_ret (fn := Tryz.f83) (by rfl) rfl rfl rfl hk0.out ⟨by rw [hR.out]; rfl, hb0.out⟩
          · rw [if_neg hbig] at hR
            rw [decide_eq_false hbig] at c2
            have hG : fV (good 1 [48] Z) = .tuple #[.agg #[.int .i64 1, .string ⟨#[48]⟩, .int .i64 0], .int .i64 (Z : Int), .int .i64 0] := rfl
            have hbf := Lib.hid (boxed w (.cells #[.int .i64 1, .string ⟨#[48]⟩, .int .i64 0] 39))
            have hkf := Lib.hid (Blk.new w 39 [.int .i64 1, .string ⟨#[48]⟩, .int .i64 0])
            replace hG := Lib.hid (hR.trans hG)
            clear hR
            clear cB hbig hVe hy hSz hSl
            go_enter Tryz.func83, Tryz.ntmps83
            go_wp2_with fail
            refine (cP.out _).mono ?_
            rintro e w1 ⟨rfl, rfl⟩
            go_wp2_with fail
            refine (cL.out _).mono ?_
            rintro e w1 ⟨rfl, rfl⟩
            go_wp2_with fail
            refine (cT.out _).mono ?_
            rintro e w1 ⟨rfl, rfl⟩
            go_wp2_with fail
            refine (c2.out _).mono ?_
            rintro e w1 ⟨rfl, rfl⟩
            go_wp2
            exact fst_ret (fn := Tryz.f83) (by rfl) rfl rfl rfl hkf.out ⟨by rw [hG.out], hbf.out⟩
        · obtain ⟨e1, e2, e3⟩ := str_ne hz
          have hVe : ¬ V = [] := fun e => hz (by rw [hSz, e]; rfl)
          rw [if_neg hVe] at hv
          subst hv
          have c2 := Lib.hid (fun W => cB SV hSl hSs W)
          by_cases hbig : 4294967295 < nval U
          · rw [if_pos hbig] at hR
            rw [decide_eq_true hbig] at c2
            replace hR := Lib.hid hR
            clear cB hbig hVe hy hSz hSl
            go_enter Tryz.func83, Tryz.ntmps83
            go_wp2_with fail
            refine (cP.out _).mono ?_
            rintro e w1 ⟨rfl, rfl⟩
            go_wp2_with fail
            refine (cL.out _).mono ?_
            rintro e w1 ⟨rfl, rfl⟩
            go_wp2_with fail
            refine (cT.out _).mono ?_
            rintro e w1 ⟨rfl, rfl⟩
            go_wp2_with fail
            refine (c2.out _).mono ?_
            rintro e w1 ⟨rfl, rfl⟩
            go_wp2
            exact fst_ret (fn := Tryz.f83) (by rfl) rfl rfl rfl hk0.out ⟨by rw [hR.out]; rfl, hb0.out⟩
          · rw [if_neg hbig] at hR
            rw [decide_eq_false hbig] at c2
            have hG : fV (good 1 U Z) = .tuple #[.agg #[.int .i64 1, .string SV, .int .i64 0], .int .i64 (Z : Int), .int .i64 0] := by unfold fV good; dsimp only; rw [strV_of hSl]; rfl
            have hbf := Lib.hid (boxed w (.cells #[.int .i64 1, .string SV, .int .i64 0] 39))
            have hkf := Lib.hid (Blk.new w 39 [.int .i64 1, .string SV, .int .i64 0])
            replace hG := Lib.hid (hR.trans hG)
            clear hR
            clear cB hbig hVe hy hSz hSl
            go_enter Tryz.func83, Tryz.ntmps83
            go_wp2_with fail
            refine (cP.out _).mono ?_
            rintro e w1 ⟨rfl, rfl⟩
            go_wp2_with fail
            refine (cL.out _).mono ?_
            rintro e w1 ⟨rfl, rfl⟩
            go_wp2_with fail
            refine (cT.out _).mono ?_
            rintro e w1 ⟨rfl, rfl⟩
            go_wp2_with fail
            refine (c2.out _).mono ?_
            rintro e w1 ⟨rfl, rfl⟩
            go_wp2
            exact fst_ret (fn := Tryz.f83) (by rfl) rfl rfl rfl hkf.out ⟨by rw [hG.out], hbf.out⟩
      · replace hy := Lib.hid (hy rfl)
        clear b1 b2 hn2 cB hv hSz hSl cT
        go_enter Tryz.func83, Tryz.ntmps83
        go_wp2_with fail
        refine (cP.out _).mono ?_
        rintro e w1 ⟨rfl, rfl⟩
        go_wp2_with fail
        refine (cL.out _).mono ?_
        rintro e w1 ⟨rfl, rfl⟩
        go_wp2
        exact fst_ret (fn := Tryz.f83) (by rfl) rfl rfl rfl hk0.out ⟨by rw [hy.out]; rfl, hb0.out⟩
    · replace hy := Lib.hid (hy rfl)
      clear b1 t1 hn2 cB hv hSz hSl cT
      go_enter Tryz.func83, Tryz.ntmps83
      go_wp2_with fail
      refine (cP.out _).mono ?_
      rintro e w1 ⟨rfl, rfl⟩
      go_wp2_with fail
      refine (cL.out _).mono ?_
      rintro e w1 ⟨rfl, rfl⟩
      go_wp2
      exact fst_ret (fn := Tryz.f83) (by rfl) rfl rfl rfl hk0.out ⟨by rw [hy.out]; rfl, hb0.out⟩
  · have dk : decide ((Z : Int) < (s.size : Int)) = false := decide_eq_false (by omega)
    have hal : ∀ h : Z < s.size, isAl s[Z] = false := fun h => absurd h hlt
    have hR := hn2.out hal
    clear hn2 hal
    by_cases hz : SV.size = 0
    · obtain rfl := str_empty hz
      have hVe : V = [] := List.eq_nil_of_length_eq_zero (by omega)
      rw [if_pos hVe] at hv
      subst hv
      have c2 := Lib.hid (fun W => cB ⟨#[48]⟩ rfl (by decide) W)
      by_cases hbig : 4294967295 < nval [48]
      · rw [if_pos hbig] at hR
        rw [decide_eq_true hbig] at c2
        replace hR := Lib.hid hR
        clear cB hbig hVe hy hSz hSl
        go_enter Tryz.func83, Tryz.ntmps83
        go_wp2_with fail
        refine (cP.out _).mono ?_
        rintro e w1 ⟨rfl, rfl⟩
        go_wp2_with fail
        refine (cT.out _).mono ?_
        rintro e w1 ⟨rfl, rfl⟩
        go_wp2_with fail
        refine (c2.out _).mono ?_
        rintro e w1 ⟨rfl, rfl⟩
        go_wp2
        exact fst_ret (fn := Tryz.f83) (by rfl) rfl rfl rfl hk0.out ⟨by rw [hR.out]; rfl, hb0.out⟩
      · rw [if_neg hbig] at hR
        rw [decide_eq_false hbig] at c2
        have hG : fV (good 1 [48] Z) = .tuple #[.agg #[.int .i64 1, .string ⟨#[48]⟩, .int .i64 0], .int .i64 (Z : Int), .int .i64 0] := rfl
        have hbf := Lib.hid (boxed w (.cells #[.int .i64 1, .string ⟨#[48]⟩, .int .i64 0] 39))
        have hkf := Lib.hid (Blk.new w 39 [.int .i64 1, .string ⟨#[48]⟩, .int .i64 0])
        replace hG := Lib.hid (hR.trans hG)
        clear hR
        clear cB hbig hVe hy hSz hSl
        go_enter Tryz.func83, Tryz.ntmps83
        go_wp2_with fail
        refine (cP.out _).mono ?_
        rintro e w1 ⟨rfl, rfl⟩
        go_wp2_with fail
        refine (cT.out _).mono ?_
        rintro e w1 ⟨rfl, rfl⟩
        go_wp2_with fail
        refine (c2.out _).mono ?_
        rintro e w1 ⟨rfl, rfl⟩
        go_wp2
        exact fst_ret (fn := Tryz.f83) (by rfl) rfl rfl rfl hkf.out ⟨by rw [hG.out], hbf.out⟩
    · obtain ⟨e1, e2, e3⟩ := str_ne hz
      have hVe : ¬ V = [] := fun e => hz (by rw [hSz, e]; rfl)
      rw [if_neg hVe] at hv
      subst hv
      have c2 := Lib.hid (fun W => cB SV hSl hSs W)
      by_cases hbig : 4294967295 < nval U
      · rw [if_pos hbig] at hR
        rw [decide_eq_true hbig] at c2
        replace hR := Lib.hid hR
        clear cB hbig hVe hy hSz hSl
        go_enter Tryz.func83, Tryz.ntmps83
        go_wp2_with fail
        refine (cP.out _).mono ?_
        rintro e w1 ⟨rfl, rfl⟩
        go_wp2_with fail
        refine (cT.out _).mono ?_
        rintro e w1 ⟨rfl, rfl⟩
        go_wp2_with fail
        refine (c2.out _).mono ?_
        rintro e w1 ⟨rfl, rfl⟩
        go_wp2
        exact fst_ret (fn := Tryz.f83) (by rfl) rfl rfl rfl hk0.out ⟨by rw [hR.out]; rfl, hb0.out⟩
      · rw [if_neg hbig] at hR
        rw [decide_eq_false hbig] at c2
        have hG : fV (good 1 U Z) = .tuple #[.agg #[.int .i64 1, .string SV, .int .i64 0], .int .i64 (Z : Int), .int .i64 0] := by unfold fV good; dsimp only; rw [strV_of hSl]; rfl
        have hbf := Lib.hid (boxed w (.cells #[.int .i64 1, .string SV, .int .i64 0] 39))
        have hkf := Lib.hid (Blk.new w 39 [.int .i64 1, .string SV, .int .i64 0])
        replace hG := Lib.hid (hR.trans hG)
        clear hR
        clear cB hbig hVe hy hSz hSl
        go_enter Tryz.func83, Tryz.ntmps83
        go_wp2_with fail
        refine (cP.out _).mono ?_
        rintro e w1 ⟨rfl, rfl⟩
        go_wp2_with fail
        refine (cT.out _).mono ?_
        rintro e w1 ⟨rfl, rfl⟩
        go_wp2_with fail
        refine (c2.out _).mono ?_
        rintro e w1 ⟨rfl, rfl⟩
        go_wp2
        exact fst_ret (fn := Tryz.f83) (by rfl) rfl rfl rfl hkf.out ⟨by rw [hG.out], hbf.out⟩
-- END number
set_option maxHeartbeats 8000000 in
theorem character_any (s : ByteArray) (hs : s.size ≤ 1000000) (h0 : 0 < s.size) (w : World) (hL : Laid w) : Calls Tryz.prog 86 #[.string s] w fun e w' => e = .returned (fV (chr s.data.toList)) ∧ Below w.heap.size w w' := by
  have hbad : (∀ x c d r, s.data.toList = x :: c :: d :: r → (isQt c && d == 39) = false) → chr s.data.toList = bad 3 := fun h => by
    unfold chr
    split
    · rename_i x c d r e
      rw [h x c d r e]
      simp
    · rfl
  have hb0 := Lib.hid (boxed w (.cells #[.int .i64 0, .string ⟨#[]⟩, .int .i64 0] 39))
  have hk0 := Lib.hid (Blk.new w 39 [.int .i64 0, .string ⟨#[]⟩, .int .i64 0])
  by_cases h3 : 3 ≤ s.size
  · have t1 : decide ((s.size : Int) < 3) = false := decide_eq_false (by omega)
    have i1 : (1 : Int) < (s.size : Int) := by omega
    have i2 : (2 : Int) < (s.size : Int) := by omega
    have n1 : 1 < s.size := by omega
    have n2 : 2 < s.size := by omega
    have d1 : decide (1 < s.size) = true := decide_eq_true n1
    have d2 : decide (2 < s.size) = true := decide_eq_true n2
    have hl : s.data.toList = s[0] :: s[1] :: s[2] :: s.data.toList.drop 3 := by
      rw [← drop_get s 2 n2, ← drop_get s 1 n1, ← drop_get s 0 h0]; rfl
    have hc : chr s.data.toList = if isQt s[1] && s[2] == 39 then good 1 (dec s[1].toNat) 3 else bad 3 := by
      conv => lhs; rw [hl]
      rfl
    rw [hc]
    have cQ := isQuotable_any s[1]
    have cI := fun (w : World) (hL : Laid w) => Tryz.strconv_Itoa (s[1].toNat : Int) (by omega) (by have := s[1].toNat_lt; omega) w hL
    rw [show Lib.itoa (s[1].toNat : Int) = Lib.decDigits s[1].toNat by unfold Lib.itoa; rw [if_neg (by omega)]; rfl] at cI
    have tq := tsn s[2] 39 (by decide)
    rw [show ((39 : Nat) : Int) = 39 from rfl, show UInt8.ofNat 39 = 39 from rfl] at tq
    have c1 := s[1].toNat_lt
    obtain ⟨x, hx⟩ : ∃ x, s[1] = x := ⟨_, rfl⟩
    obtain ⟨y, hy⟩ : ∃ y, s[2] = y := ⟨_, rfl⟩
    rw [hx] at cQ cI c1 ⊢
    rw [hy] at tq ⊢
    rcases q1 : isQt x with _ | _ <;> rw [q1] at cQ
    · replace cQ := Lib.hid cQ
      clear cI hc hl hbad q1 tq c1
      go_enter Tryz.func86, Tryz.ntmps86
      go_wp2_with fail
      refine (cQ.out _).mono ?_
      rintro e w1 ⟨rfl, rfl⟩
      go_wp2
      exact fst_ret (by rfl) rfl rfl rfl hk0.out ⟨rfl, hb0.out⟩
    rcases q2 : (y == 39) with _ | _ <;> rw [q2] at tq
    · replace cQ := Lib.hid cQ
      clear cI hc hl hbad q1 c1 q2
      go_enter Tryz.func86, Tryz.ntmps86
      go_wp2_with fail
      refine (cQ.out _).mono ?_
      rintro e w1 ⟨rfl, rfl⟩
      go_wp2
      exact fst_ret (by rfl) rfl rfl rfl hk0.out ⟨rfl, hb0.out⟩
    · have cI := Lib.hid (cI _ (hL.below hb0.out))
      replace cQ := Lib.hid cQ
      clear hL hc hl hbad q1 q2
      go_enter Tryz.func86, Tryz.ntmps86
      go_wp2_with fail
      refine (cQ.out _).mono ?_
      rintro e w1 ⟨rfl, rfl⟩
      go_wp2_with fail
      refine (cI.out).mono ?_
      rintro e w1 ⟨rfl, q, os, rfl⟩
      have hb1 := Lib.below_grow _ (w.alloc (.cells #[.int .i64 0, .string ⟨#[]⟩, .int .i64 0] 39)) (Nat.le_refl _) q os
      have hk1 := hk0.out.below hb1
      have hb2 := hb0.out.trans (hb1.mono (by have := hk0.out.lt; omega))
      obtain ⟨W1, hW1⟩ : ∃ W, Sort.grow ((w.alloc (.cells #[.int .i64 0, .string ⟨#[]⟩, .int .i64 0] 39)).drewN q) os = W := ⟨_, rfl⟩
      rw [hW1] at hb1 hk1 hb2 ⊢
      obtain ⟨SD, hSD⟩ : ∃ S : ByteArray, ⟨(Lib.decDigits x.toNat).toArray⟩ = S := ⟨_, rfl⟩
      have hfin : (fun e w' => e = Ending.returned (fV (good 1 (dec x.toNat) 3)) ∧ Below w.heap.size w w') (.returned (.tuple #[.agg #[.int .i64 1, .string SD, .int .i64 0], .int .i64 3, .int .i64 0])) (((W1.setCell ⟨w.heap.size, 0, none⟩ (.int .i64 1)).setCell ⟨w.heap.size, 1, none⟩ (.string SD)).setCell ⟨w.heap.size, 2, none⟩ (.int .i64 0)) :=
        ⟨by rw [← hSD]; rfl, ((hb2.setCell (p := ⟨w.heap.size, 0, none⟩) (Nat.le_refl _) _).setCell (p := ⟨w.heap.size, 1, none⟩) (Nat.le_refl _) _).setCell (p := ⟨w.heap.size, 2, none⟩) (Nat.le_refl _) _⟩
      have hbk := ((hk1.set 0 (.int .i64 1)).set 1 (.string SD)).set 2 (.int .i64 0)
      rw [hSD]
      have k0 := hk1.frz 0
      have k1 := hk1.frz 1
      have k2 := hk1.frz 2
      have j0 := hk1.cell 0
      have j1 := hk1.cell 1
      have j2 := hk1.cell 2
      simp only [List.getElem?_cons_zero, List.getElem?_cons_succ] at j0 j1 j2
      replace hfin := Lib.hid hfin
      replace hbk := Lib.hid hbk
      clear hb1 hk1 hb2 hW1 hb0 hk0 hSD cQ cI
      go_wp2
      exact fst_ret (fn := Tryz.f86) (by rfl) rfl rfl rfl hbk.out hfin.out
  · have t1 : decide ((s.size : Int) < 3) = true := decide_eq_true (by omega)
    rw [hbad (fun x c d r e => by have := list_len s; rw [e] at this; simp at this; omega)]
    clear hL hbad
    go_enter Tryz.func86, Tryz.ntmps86
    go_wp2
    exact fst_ret (by rfl) rfl rfl rfl hk0.out ⟨rfl, hb0.out⟩
end Go.Proofs.YtpbcncfbfbghcaaGreatDoor.L19
