/- Plain facts for layer 9 (convcode): the encoder over lists of bits, linearity, the free distance, what the functions hand back. No program is named here. -/
import Derived.Calls
namespace Go.Proofs.Ytmkmikegddafdaa.C9
set_option linter.unusedVariables false
set_option linter.unusedSimpArgs false

/-! ### bits as cells -/
def cell (b : Bool) : UInt8 := if b then 49 else 48
def cs (l : List Bool) : List UInt8 := l.map cell
def sb (l : List Bool) : ByteArray := ⟨(cs l).toArray⟩
theorem cell_inj {a b : Bool} (h : cell a = cell b) : a = b := by
  revert h
  cases a <;> cases b <;> decide
theorem cs_len (l : List Bool) : (cs l).length = l.length := by simp [cs]
theorem cs_app (l m : List Bool) : cs (l ++ m) = cs l ++ cs m := by simp [cs]
theorem cs_inj : ∀ {l m : List Bool}, cs l = cs m → l = m
  | [], [], _ => rfl
  | [], b :: m, h => by cases h
  | a :: l, [], h => by cases h
  | a :: l, b :: m, h => by
    injection h with h1 h2
    rw [cell_inj h1, cs_inj h2]
theorem sb_size (l : List Bool) : (sb l).size = l.length := by
  show (cs l).toArray.size = _
  rw [List.size_toArray, cs_len]
theorem sb_inj {l m : List Bool} (h : sb l = sb m) : l = m := by
  apply cs_inj
  have := congrArg (fun b : ByteArray => b.data.toList) h
  simpa [sb] using this
theorem sb_app (l m : List Bool) : sb l ++ sb m = sb (l ++ m) := by
  apply ByteArray.ext
  simp [sb, cs, ByteArray.data_append]
/-- Is the byte 0 or 1? -/
def bitB (c : UInt8) : Bool := c == 48 || c == 49
def toB (c : UInt8) : Bool := c == 49
theorem cell_toB {c : UInt8} (h : bitB c = true) : cell (toB c) = c := by
  unfold bitB at h
  unfold cell toB
  simp only [Bool.or_eq_true, beq_iff_eq] at h
  rcases h with rfl | rfl <;> rfl
theorem bitB_cell (b : Bool) : bitB (cell b) = true := by cases b <;> rfl
theorem toB_cell (b : Bool) : toB (cell b) = b := by cases b <;> rfl
def tb (s : ByteArray) : List Bool := s.data.toList.map toB
theorem tb_len (s : ByteArray) : (tb s).length = s.size := by
  unfold tb
  rw [List.length_map, Array.length_toList]
  rfl
theorem tb_sb (l : List Bool) : tb (sb l) = l := by
  unfold tb sb cs
  simp only [List.map_map]
  have : (toB ∘ cell) = id := by funext b; exact toB_cell b
  simp [this]
theorem sb_tb {s : ByteArray} (h : s.data.toList.all bitB = true) : sb (tb s) = s := by
  apply ByteArray.ext
  show (cs (tb s)).toArray = s.data
  have : cs (tb s) = s.data.toList := by
    unfold cs tb
    rw [List.map_map]
    rw [List.all_eq_true] at h
    have e : s.data.toList.map (cell ∘ toB) = s.data.toList.map id := List.map_congr_left fun c hc => cell_toB (h c hc)
    rw [e, List.map_id]
  rw [this]

/-! ### the encoder -/
/-- The two cells for the bit u behind s1 and s2. -/
def out2 (s1 s2 u : Bool) : List Bool := [u ^^ s1 ^^ s2, u ^^ s2]
def run : Bool → Bool → List Bool → List Bool
  | _, _, [] => []
  | s1, s2, u :: l => out2 s1 s2 u ++ run u s1 l
/-- The state behind the bits. -/
def fin : Bool → Bool → List Bool → Bool × Bool
  | s1, s2, [] => (s1, s2)
  | s1, s2, u :: l => fin u s1 l
theorem run_len : ∀ (l : List Bool) (s1 s2 : Bool), (run s1 s2 l).length = 2 * l.length
  | [], _, _ => rfl
  | u :: l, s1, s2 => by
    show (out2 s1 s2 u ++ run u s1 l).length = _
    rw [List.length_append, run_len l, List.length_cons]
    show 2 + _ = _
    omega
theorem run_app : ∀ (l m : List Bool) (s1 s2 : Bool), run s1 s2 (l ++ m) = run s1 s2 l ++ run (fin s1 s2 l).1 (fin s1 s2 l).2 m
  | [], m, s1, s2 => rfl
  | u :: l, m, s1, s2 => by
    show out2 s1 s2 u ++ run u s1 (l ++ m) = (out2 s1 s2 u ++ run u s1 l) ++ _
    rw [run_app l m u s1, List.append_assoc]
    rfl
theorem fin_app : ∀ (l m : List Bool) (s1 s2 : Bool), fin s1 s2 (l ++ m) = fin (fin s1 s2 l).1 (fin s1 s2 l).2 m
  | [], m, s1, s2 => rfl
  | u :: l, m, s1, s2 => fin_app l m u s1
theorem run_inj : ∀ (l m : List Bool) (s1 s2 : Bool), run s1 s2 l = run s1 s2 m → l = m
  | [], [], _, _, _ => rfl
  | [], u :: m, s1, s2, h => by cases h
  | u :: l, [], s1, s2, h => by cases h
  | u :: l, v :: m, s1, s2, h => by
    have h' : out2 s1 s2 u ++ run u s1 l = out2 s1 s2 v ++ run v s1 m := h
    injection h' with h1 h2
    injection h2 with h3 h4
    have e : u = v := by
      revert h3
      cases u <;> cases v <;> cases s2 <;> decide
    subst e
    rw [run_inj l m u s1 h4]
def enc (l : List Bool) : List Bool := run false false (l ++ [false, false])
theorem enc_len (l : List Bool) : (enc l).length = 2 * l.length + 4 := by
  unfold enc
  rw [run_len, List.length_append]
  show 2 * (l.length + 2) = _
  omega
theorem enc_inj {l m : List Bool} (h : enc l = enc m) : l = m := by
  have := run_inj _ _ _ _ h
  exact List.append_cancel_right this

/-! ### linearity -/
def xo : List Bool → List Bool → List Bool
  | a :: l, b :: m => (a ^^ b) :: xo l m
  | _, _ => []
theorem xo_len : ∀ l m : List Bool, l.length = m.length → (xo l m).length = l.length
  | [], [], _ => rfl
  | a :: l, b :: m, h => by
    show (xo l m).length + 1 = l.length + 1
    rw [xo_len l m (by simpa using h)]
  | [], b :: m, h => by simp at h
  | a :: l, [], h => by simp at h
theorem xo_app : ∀ l m p q : List Bool, l.length = m.length → xo (l ++ p) (m ++ q) = xo l m ++ xo p q
  | [], [], p, q, _ => rfl
  | a :: l, b :: m, p, q, h => by
    show (a ^^ b) :: xo (l ++ p) (m ++ q) = (a ^^ b) :: (xo l m ++ xo p q)
    rw [xo_app l m p q (by simpa using h)]
  | [], b :: m, _, _, h => by simp at h
  | a :: l, [], _, _, h => by simp at h
theorem run_xo : ∀ (l m : List Bool) (s1 s2 t1 t2 : Bool), l.length = m.length → run (s1 ^^ t1) (s2 ^^ t2) (xo l m) = xo (run s1 s2 l) (run t1 t2 m)
  | [], [], _, _, _, _, _ => rfl
  | a :: l, b :: m, s1, s2, t1, t2, h => by
    show out2 (s1 ^^ t1) (s2 ^^ t2) (a ^^ b) ++ run (a ^^ b) (s1 ^^ t1) (xo l m) = xo (out2 s1 s2 a ++ run a s1 l) (out2 t1 t2 b ++ run b t1 m)
    rw [run_xo l m a s1 b t1 (by simpa using h), xo_app (out2 s1 s2 a) (out2 t1 t2 b) (run a s1 l) (run b t1 m) rfl]
    congr 1
    cases a <;> cases b <;> cases s1 <;> cases s2 <;> cases t1 <;> cases t2 <;> rfl
  | [], b :: m, _, _, _, _, h => by simp at h
  | a :: l, [], _, _, _, _, h => by simp at h
theorem enc_xo {l m : List Bool} (h : l.length = m.length) : enc (xo l m) = xo (enc l) (enc m) := by
  unfold enc
  rw [← run_xo _ _ false false false false (by simp [h]), xo_app _ _ _ _ h]
  rfl

/-! ### the free distance -/
def wgt (l : List Bool) : Nat := (l.filter id).length
theorem wgt_nil : wgt [] = 0 := rfl
theorem wgt_app (l m : List Bool) : wgt (l ++ m) = wgt l + wgt m := by simp [wgt]
/-- What a state costs at least up to the end. -/
def low : Bool → Bool → Nat
  | true, _ => 3
  | false, true => 2
  | false, false => 0
theorem low_le : ∀ (l : List Bool) (s1 s2 : Bool), low s1 s2 ≤ wgt (run s1 s2 (l ++ [false, false]))
  | [], s1, s2 => by cases s1 <;> cases s2 <;> decide
  | u :: l, s1, s2 => by
    have ih := low_le l u s1
    show low s1 s2 ≤ wgt (out2 s1 s2 u ++ run u s1 (l ++ [false, false]))
    rw [wgt_app]
    have : low s1 s2 ≤ wgt (out2 s1 s2 u) + low u s1 := by cases s1 <;> cases s2 <;> cases u <;> decide
    omega
theorem free_distance : ∀ (l : List Bool), (∃ b ∈ l, b = true) → 5 ≤ wgt (enc l)
  | [], h => by
    obtain ⟨b, hb, _⟩ := h
    cases hb
  | u :: l, h => by
    show 5 ≤ wgt (out2 false false u ++ run u false (l ++ [false, false]))
    rw [wgt_app]
    cases u
    · have : 5 ≤ wgt (enc l) := free_distance l (by
        obtain ⟨b, hb, e⟩ := h
        rcases List.mem_cons.1 hb with rfl | hb
        · cases e
        · exact ⟨b, hb, e⟩)
      exact Nat.le_trans this (Nat.le_add_left _ _)
    · have := low_le l true false
      have e : wgt (out2 false false true) = 2 := rfl
      show 5 ≤ wgt (out2 false false true) + _
      rw [e]
      have : low true false = 3 := rfl
      omega
theorem xo_true : ∀ l m : List Bool, l.length = m.length → l ≠ m → ∃ b ∈ xo l m, b = true
  | [], [], _, h => absurd rfl h
  | a :: l, b :: m, hl, h => by
    by_cases e : a = b
    · subst e
      obtain ⟨c, hc, e⟩ := xo_true l m (by simpa using hl) (fun e => h (by rw [e]))
      exact ⟨c, List.mem_cons_of_mem _ hc, e⟩
    · refine ⟨a ^^ b, List.mem_cons_self, ?_⟩
      revert e
      cases a <;> cases b <;> decide
  | [], b :: m, h, _ => by simp at h
  | a :: l, [], h, _ => by simp at h
/-- Two code words of equal length differ in at least five cells. -/
theorem distance {l m : List Bool} (h : l.length = m.length) (hne : l ≠ m) : 5 ≤ wgt (xo (enc l) (enc m)) := by
  rw [← enc_xo h]
  exact free_distance _ (xo_true l m h hne)

/-! ### what the functions hand back -/
def Bits (s : ByteArray) : Prop := s.data.toList.all bitB = true
def EncQ (s S : ByteArray) (k : Int) : Prop := (65536 < s.size → S = ⟨#[]⟩ ∧ k = 6) ∧ (s.size ≤ 65536 → (¬ Bits s → S = ⟨#[]⟩ ∧ k = 3) ∧ (Bits s → S = sb (enc (tb s)) ∧ k = 0))
theorem EncQ.only {s S S' : ByteArray} {k k' : Int} (h : EncQ s S k) (h' : EncQ s S' k') : S = S' ∧ k = k' := by
  by_cases h1 : 65536 < s.size
  · obtain ⟨rfl, rfl⟩ := h.1 h1
    obtain ⟨rfl, rfl⟩ := h'.1 h1
    exact ⟨rfl, rfl⟩
  · by_cases hb : Bits s
    · obtain ⟨rfl, rfl⟩ := (h.2 (by omega)).2 hb
      obtain ⟨rfl, rfl⟩ := (h'.2 (by omega)).2 hb
      exact ⟨rfl, rfl⟩
    · obtain ⟨rfl, rfl⟩ := (h.2 (by omega)).1 hb
      obtain ⟨rfl, rfl⟩ := (h'.2 (by omega)).1 hb
      exact ⟨rfl, rfl⟩
theorem EncQ.ok {s S : ByteArray} {k : Int} (h : EncQ s S k) (hk : k = 0) : s.size ≤ 65536 ∧ Bits s ∧ S = sb (enc (tb s)) := by
  by_cases h1 : 65536 < s.size
  · have := (h.1 h1).2
    omega
  · by_cases hb : Bits s
    · exact ⟨by omega, hb, ((h.2 (by omega)).2 hb).1⟩
    · have := ((h.2 (by omega)).1 hb).2
      omega
theorem Bits.sb (l : List Bool) : Bits (sb l) := by
  unfold Bits C9.sb cs
  rw [List.all_eq_true]
  intro c hc
  simp only at hc
  obtain ⟨b, _, rfl⟩ := List.mem_map.1 hc
  exact bitB_cell b
theorem EncQ.sb {l : List Bool} {S : ByteArray} {k : Int} (h : EncQ (sb l) S k) (hl : l.length ≤ 65536) : S = C9.sb (enc l) ∧ k = 0 := by
  have := (h.2 (by rw [sb_size]; exact hl)).2 (Bits.sb l)
  rwa [tb_sb] at this
def WgtQ (s : ByteArray) (n k : Int) : Prop := (65536 < s.size → n = 0 ∧ k = 6) ∧ (s.size ≤ 65536 → (¬ Bits s → n = 0 ∧ k = 3) ∧ (Bits s → n = (wgt (enc (tb s)) : Int) ∧ k = 0))
theorem WgtQ.only {s : ByteArray} {n n' k k' : Int} (h : WgtQ s n k) (h' : WgtQ s n' k') : n = n' ∧ k = k' := by
  by_cases h1 : 65536 < s.size
  · obtain ⟨rfl, rfl⟩ := h.1 h1
    obtain ⟨rfl, rfl⟩ := h'.1 h1
    exact ⟨rfl, rfl⟩
  · by_cases hb : Bits s
    · obtain ⟨rfl, rfl⟩ := (h.2 (by omega)).2 hb
      obtain ⟨rfl, rfl⟩ := (h'.2 (by omega)).2 hb
      exact ⟨rfl, rfl⟩
    · obtain ⟨rfl, rfl⟩ := (h.2 (by omega)).1 hb
      obtain ⟨rfl, rfl⟩ := (h'.2 (by omega)).1 hb
      exact ⟨rfl, rfl⟩
theorem WgtQ.sb {l : List Bool} {n k : Int} (h : WgtQ (sb l) n k) (hl : l.length ≤ 65536) : n = (wgt (enc l) : Int) ∧ k = 0 := by
  have := (h.2 (by rw [sb_size]; exact hl)).2 (Bits.sb l)
  rwa [tb_sb] at this
def okC (c : UInt8) : Bool := c == 48 || c == 49 || c == 63
structure CodeOf (c : ByteArray) (l : List Bool) : Prop where
  len : l.length ≤ 65536
  eq : c = sb (enc l)
theorem CodeOf.only {c : ByteArray} {l m : List Bool} (h : CodeOf c l) (h' : CodeOf c m) : l = m := enc_inj (sb_inj (h.eq.symm.trans h'.eq))
def ExtQ (c S : ByteArray) (k : Int) : Prop := (c.data.toList.all okC = false → S = ⟨#[]⟩ ∧ k = 3) ∧ (c.data.toList.all okC = true → (c.size % 2 = 1 ∨ c.size < 4 → S = ⟨#[]⟩ ∧ k = 4) ∧
  (c.size % 2 = 0 ∧ 4 ≤ c.size → (∀ l, CodeOf c l → S = sb l ∧ k = 0) ∧ ((∀ l, ¬ CodeOf c l) → S = ⟨#[]⟩ ∧ k = 11)))
theorem ExtQ.only {c S S' : ByteArray} {k k' : Int} (h : ExtQ c S k) (h' : ExtQ c S' k') : S = S' ∧ k = k' := by
  cases ha : c.data.toList.all okC
  · obtain ⟨rfl, rfl⟩ := h.1 ha
    obtain ⟨rfl, rfl⟩ := h'.1 ha
    exact ⟨rfl, rfl⟩
  · by_cases h1 : c.size % 2 = 1 ∨ c.size < 4
    · obtain ⟨rfl, rfl⟩ := (h.2 ha).1 h1
      obtain ⟨rfl, rfl⟩ := (h'.2 ha).1 h1
      exact ⟨rfl, rfl⟩
    · by_cases hc : ∃ l, CodeOf c l
      · obtain ⟨l, hl⟩ := hc
        obtain ⟨rfl, rfl⟩ := ((h.2 ha).2 (by omega)).1 l hl
        obtain ⟨rfl, rfl⟩ := ((h'.2 ha).2 (by omega)).1 l hl
        exact ⟨rfl, rfl⟩
      · have hc' : ∀ l, ¬ CodeOf c l := fun l h => hc ⟨l, h⟩
        obtain ⟨rfl, rfl⟩ := ((h.2 ha).2 (by omega)).2 hc'
        obtain ⟨rfl, rfl⟩ := ((h'.2 ha).2 (by omega)).2 hc'
        exact ⟨rfl, rfl⟩
theorem okC_bit {c : UInt8} (h : bitB c = true) : okC c = true := by
  unfold okC
  unfold bitB at h
  rw [h]
  rfl
theorem okC_sb (l : List Bool) : (sb l).data.toList.all okC = true := by
  have h : Bits (sb l) := Bits.sb l
  unfold Bits at h
  rw [List.all_eq_true] at h ⊢
  exact fun c hc => okC_bit (h c hc)
/-- A code word's bits come back. -/
theorem ExtQ.code {l : List Bool} {S : ByteArray} {k : Int} (h : ExtQ (sb (enc l)) S k) (hl : l.length ≤ 65536) : S = sb l ∧ k = 0 := by
  have h1 := enc_len l
  refine ((h.2 (okC_sb _)).2 ?_).1 l ⟨hl, rfl⟩
  rw [sb_size, h1]
  omega
/-! ### states as numbers -/
def bn (b : Bool) : Nat := if b then 1 else 0
def stN (s1 s2 : Bool) : Nat := 2 * bn s1 + bn s2
/-- The state and the bit of two numbers. -/
def sOne (s : Int) : Bool := s % 4 == 2 || s % 4 == 3
def sTwo (s : Int) : Bool := s % 2 == 1
end Go.Proofs.Ytmkmikegddafdaa.C9
