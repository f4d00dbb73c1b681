/- More operations over a frame that is a letter (for the reference's Compress, Digest, Merkle). -/
import Derived.Test.YtkppepdniehoiaaDoorB4Own11
namespace Go.Proofs.YtkppepdniehoiaaDoor.B4
open Go.RowKit Mem
set_option linter.unusedVariables false
set_option linter.unusedSimpArgs false
theorem u32w (z : Int) : IntKind.u32.wrap z = z % 4294967296 := rfl
/-- A function of the program is entered. -/
def Ent (f : FuncId) : Prop := ∀ args w, (callFunc f args).run Tryd.prog w = .ok (.enter f args) w
theorem ent_Initial : Ent 17 := fun args w => by go_simp
theorem ent_permutation : Ent 25 := fun args w => by go_simp
theorem ent_columns : Ent 26 := fun args w => by go_simp
theorem ent_digit : Ent 28 := fun args w => by go_simp
theorem ent_mix : Ent 27 := fun args w => by go_simp
theorem ent_Compress : Ent 16 := fun args w => by go_simp
theorem ent_Digest : Ent 24 := fun args w => by go_simp
theorem ent_Merkle : Ent 21 := fun args w => by go_simp
section
variable {o : Oper} {a : Act}
theorem ex_call0 {f : FuncId} (hf : Ent f) {ts : Array TypeId} (ho : o.op = .call { callee := .value (.func f), args := #[], argTypes := ts }) (w : World) : (execOp a.eval o).run Tryd.prog w = .ok (.enter f #[]) w := by
  have hf := hf
  unfold Ent at hf
  unfold execOp
  simp only [ho]
  go_simp
theorem ex_call1 {f : FuncId} (hf : Ent f) {t1 : Nat} {ts : Array TypeId} {x : Value} (ho : o.op = .call { callee := .value (.func f), args := #[.tmp t1], argTypes := ts }) (h1 : At a t1 x) (w : World) : (execOp a.eval o).run Tryd.prog w = .ok (.enter f #[x]) w := by
  have e1 := h1.get
  clear h1
  have hf := hf
  unfold Ent at hf
  unfold execOp
  simp only [ho]
  go_simp
theorem ex_call4 {f : FuncId} (hf : Ent f) {t1 t2 t3 t4 : Nat} {ts : Array TypeId} {x y z u : Value} (ho : o.op = .call { callee := .value (.func f), args := #[.tmp t1, .tmp t2, .tmp t3, .tmp t4], argTypes := ts }) (h1 : At a t1 x) (h2 : At a t2 y) (h3 : At a t3 z) (h4 : At a t4 u) (w : World) :
    (execOp a.eval o).run Tryd.prog w = .ok (.enter f #[x, y, z, u]) w := by
  have e1 := h1.get
  have e2 := h2.get
  have e3 := h3.get
  have e4 := h4.get
  clear h1 h2 h3 h4
  have hf := hf
  unfold Ent at hf
  unfold execOp
  simp only [ho]
  go_simp
theorem ex_call7 {f : FuncId} (hf : Ent f) {t1 t2 t3 t4 t5 t6 t7 : Nat} {ts : Array TypeId} {x1 x2 x3 x4 x5 x6 x7 : Value} (ho : o.op = .call { callee := .value (.func f), args := #[.tmp t1, .tmp t2, .tmp t3, .tmp t4, .tmp t5, .tmp t6, .tmp t7], argTypes := ts })
    (h1 : At a t1 x1) (h2 : At a t2 x2) (h3 : At a t3 x3) (h4 : At a t4 x4) (h5 : At a t5 x5) (h6 : At a t6 x6) (h7 : At a t7 x7) (w : World) :
    (execOp a.eval o).run Tryd.prog w = .ok (.enter f #[x1, x2, x3, x4, x5, x6, x7]) w := by
  have e1 := h1.get
  have e2 := h2.get
  have e3 := h3.get
  have e4 := h4.get
  have e5 := h5.get
  have e6 := h6.get
  have e7 := h7.get
  clear h1 h2 h3 h4 h5 h6 h7
  have hf := hf
  unfold Ent at hf
  unfold execOp
  simp only [ho]
  go_simp
theorem ex_quo4 {t k : Nat} (ho : o.op = .binOp .quo 3 (.tmp t) (.const (.int .i64 4)) 3) (h : At a t (.int .i64 (k : Int))) (hk : k < 1000000) (w : World) : (execOp a.eval o).run Tryd.prog w = .ok (.value (.int .i64 ((k / 4 : Nat) : Int))) w := by
  have e := h.get
  clear h
  have h0 : (0 : Int) ≤ (k : Int) := by omega
  have h1 : (k : Int) < 1000000 := by omega
  have hc : ((k / 4 : Nat) : Int) = (k : Int) / 4 := by omega
  rw [hc]
  clear hc
  have ht : (k : Int).tdiv 4 = (k : Int) / 4 := Int.tdiv_eq_ediv_of_nonneg h0
  have hw : IntKind.i64.wrap ((k : Int) / 4) = (k : Int) / 4 := IntWalk.i64_in _ (by omega)
  unfold execOp
  simp only [ho]
  go_simp
theorem ex_rem4 {t k : Nat} (ho : o.op = .binOp .rem 3 (.tmp t) (.const (.int .i64 4)) 3) (h : At a t (.int .i64 (k : Int))) (hk : k < 1000000) (w : World) : (execOp a.eval o).run Tryd.prog w = .ok (.value (.int .i64 ((k % 4 : Nat) : Int))) w := by
  have e := h.get
  clear h
  have h0 : (0 : Int) ≤ (k : Int) := by omega
  have h1 : (k : Int) < 1000000 := by omega
  have hc : ((k % 4 : Nat) : Int) = (k : Int) % 4 := by omega
  rw [hc]
  clear hc
  have ht : (k : Int).tmod 4 = (k : Int) % 4 := Int.tmod_eq_emod_of_nonneg h0
  have hw : IntKind.i64.wrap ((k : Int) % 4) = (k : Int) % 4 := IntWalk.i64_in _ (by omega)
  unfold execOp
  simp only [ho]
  go_simp
theorem ex_mulc {t k c : Nat} (ho : o.op = .binOp .mul 3 (.const (.int .i64 (c : Int))) (.tmp t) 3) (h : At a t (.int .i64 (k : Int))) (hk : k < 1000000) (hc8 : c ≤ 8) (w : World) : (execOp a.eval o).run Tryd.prog w = .ok (.value (.int .i64 ((c * k : Nat) : Int))) w := by
  have e := h.get
  clear h
  have hc : ((c * k : Nat) : Int) = (c : Int) * (k : Int) := by simp
  have hb : c * k ≤ 8 * 1000000 := Nat.mul_le_mul hc8 (by omega)
  rw [hc]
  have hw : IntKind.i64.wrap ((c : Int) * (k : Int)) = (c : Int) * (k : Int) := by rw [← hc]; exact IntWalk.i64_in _ (by omega)
  clear hc hb
  unfold execOp
  simp only [ho]
  go_simp
theorem ex_cvtUint {t k : Nat} (ho : o.op = .convert 3 39 (.tmp t)) (h : At a t (.int .i64 (k : Int))) (hk : k < 1000000000) (w : World) : (execOp a.eval o).run Tryd.prog w = .ok (.value (.int .u64 (k : Int))) w := by
  have e := h.get
  clear h
  have hw : IntKind.u64.wrap (k : Int) = (k : Int) := IntWalk.u64_in _ (by omega)
  unfold execOp
  simp only [ho]
  go_simp
theorem ex_idxS {t u k : Nat} {s : ByteArray} (ho : o.op = .index 9 (.tmp t) (.tmp u)) (h : At a t (.string s)) (h' : At a u (.int .i64 (k : Int))) (hk : k < s.size) (w : World) : (execOp a.eval o).run Tryd.prog w = .ok (.value (.int .u8 ((s[k]).toNat : Int))) w := by
  have e := h.get
  have e' := h'.get
  have h0 : (0 : Int) ≤ (k : Int) := by omega
  have h1 : (k : Int) < (s.size : Int) := by omega
  clear h h'
  unfold execOp
  simp only [ho]
  go_simp
theorem ex_cvt8 {t : Nat} {c : UInt8} (ho : o.op = .convert 5 31 (.tmp t)) (h : At a t (.int .u8 (c.toNat : Int))) (w : World) : (execOp a.eval o).run Tryd.prog w = .ok (.value (wv (BitVec.ofNat 32 c.toNat))) w := by
  have e := h.get
  clear h
  have hc := c.toNat_lt
  obtain ⟨n, hn⟩ : ∃ n, c.toNat = n := ⟨_, rfl⟩
  rw [hn] at e hc ⊢
  have hw : IntKind.u32.wrap (n : Int) = (n : Int) := IntWalk.u32_in _ (by omega)
  have hv : wv (BitVec.ofNat 32 n) = .int .u32 (n : Int) := by unfold wv; rw [BitVec.toNat_ofNat, Nat.mod_eq_of_lt (by omega)]
  rw [hv]
  unfold execOp
  simp only [ho]
  go_simp
theorem ex_shl {s t r : Nat} {x : R} (ho : o.op = .binOp .shl 31 (.tmp s) (.tmp t) 39) (h : At a s (wv x)) (h' : At a t (.int .u64 (r : Int))) (hr : r = 0 ∨ r = 8 ∨ r = 16 ∨ r = 24) (w : World) :
    (execOp a.eval o).run Tryd.prog w = .ok (.value (wv (x <<< r))) w := by
  have e : a.tmps[s]?.getD undef = .int .u32 (x.toNat : Int) := h.get
  have e' := h'.get
  clear h h'
  have hx := x.isLt
  have hs := shl_nat x r
  rw [← u32w] at hs
  obtain ⟨y, hy⟩ : ∃ y, x <<< r = y := ⟨_, rfl⟩
  rw [hy] at hs ⊢
  clear hy
  unfold wv
  rcases hr with rfl | rfl | rfl | rfl
  all_goals
    unfold execOp
    simp only [ho]
    simp only [Nat.reducePow, Int.reducePow, Int.mul_one] at hs
    have hs' := hs.symm
    clear hs
    go_simp
theorem ex_or {s t : Nat} {x y : R} (ho : o.op = .binOp .or 31 (.tmp s) (.tmp t) 31) (hs : At a s (wv x)) (ht : At a t (wv y)) (w : World) : (execOp a.eval o).run Tryd.prog w = .ok (.value (wv (x ||| y))) w := by
  have e1 : a.tmps[s]?.getD undef = .int .u32 (x.toNat : Int) := hs.get
  have e2 : a.tmps[t]?.getD undef = .int .u32 (y.toNat : Int) := ht.get
  clear hs ht
  have hb := bor x y
  obtain ⟨z, hz⟩ : ∃ z, x ||| y = z := ⟨_, rfl⟩
  rw [hz] at hb ⊢
  clear hz
  unfold execOp wv
  simp only [ho]
  go_simp
theorem ex_cvt64 {t n : Nat} (ho : o.op = .convert 33 31 (.tmp t)) (h : At a t (.int .u64 (n : Int))) (w : World) : (execOp a.eval o).run Tryd.prog w = .ok (.value (wv (BitVec.ofNat 32 n))) w := by
  have e := h.get
  clear h
  have hv : IntKind.u32.wrap (n : Int) = ((BitVec.ofNat 32 n).toNat : Int) := by rw [BitVec.toNat_ofNat, u32w]; simp
  obtain ⟨x, hx⟩ : ∃ x, BitVec.ofNat 32 n = x := ⟨_, rfl⟩
  rw [hx] at hv ⊢
  unfold execOp wv
  simp only [ho]
  go_simp
theorem ex_shr32 {t n : Nat} (ho : o.op = .binOp .shr 33 (.tmp t) (.const (.int .u64 32)) 39) (h : At a t (.int .u64 (n : Int))) (hn : n < 18446744073709551616) (w : World) : (execOp a.eval o).run Tryd.prog w = .ok (.value (.int .u64 ((n / 4294967296 : Nat) : Int))) w := by
  have e := h.get
  clear h
  have hc : ((n / 4294967296 : Nat) : Int) = (n : Int) / 4294967296 := by omega
  rw [hc]
  unfold execOp
  simp only [ho]
  go_simp
theorem ex_not {t : Nat} {x : R} (ho : o.op = .unOp .xor 31 (.tmp t)) (h : At a t (wv x)) (w : World) : (execOp a.eval o).run Tryd.prog w = .ok (.value (wv (~~~ x))) w := by
  have e : a.tmps[t]?.getD undef = .int .u32 (x.toNat : Int) := h.get
  clear h
  have gn : bits .xor .u32 (if IntKind.u32.signed = true then -1 else IntKind.u32.max) (x.toNat : Int) = ((~~~ x).toNat : Int) := by
    have := bxr 4294967295#32 x
    rw [show ~~~ x = 4294967295#32 ^^^ x from BitVec.allOnes_xor.symm]
    exact this
  obtain ⟨y, hy⟩ : ∃ y, ~~~ x = y := ⟨_, rfl⟩
  rw [hy] at gn ⊢
  clear hy
  unfold execOp wv
  simp only [ho]
  go_simp
theorem ex_alloc8 (ho : o.op = .alloc 32) (w : World) : (execOp a.eval o).run Tryd.prog w = .ok (.value (.pointer (some ⟨w.heap.size, 0, none⟩))) (w.alloc (.cells (wvs zeros8).toArray 32)) := by
  unfold execOp
  simp only [ho]
  go_simp
  rfl
theorem ex_alloc4 (ho : o.op = .alloc 50) (w : World) : (execOp a.eval o).run Tryd.prog w = .ok (.value (.pointer (some ⟨w.heap.size, 0, none⟩))) (w.alloc (.cells (nats [0, 0, 0, 0]).toArray 50)) := by
  unfold execOp
  simp only [ho]
  go_simp
  rfl
theorem ex_idx4 {x ix : Operand} {g n : Nat} {k : IntKind} (ho : o.op = .indexAddr 50 x ix) (hx : a.eval x = .pointer (some ⟨g, 0, none⟩)) (hi : a.eval ix = .int k (n : Int)) (hn : n < 4) (w : World) :
    (execOp a.eval o).run Tryd.prog w = .ok (.value (.pointer (some ⟨g, n, none⟩))) w := by
  have h1 : (n : Int) < 4 := by omega
  have h0 : (0 : Int) ≤ (n : Int) := by omega
  unfold execOp
  simp only [ho, hx, hi]
  go_simp
theorem ex_loadI {x : Operand} {p : Addr} {v : Value} {w : World} (ho : o.op = .load 3 x) (hx : a.eval x = .pointer (some p)) (hc : w.cell? p = some v) : (execOp a.eval o).run Tryd.prog w = .ok (.value v) w := by
  unfold execOp
  simp only [ho, hx]
  go_simp
end
/-- What the reference's loop over the bytes of a block has made of the words. -/
def mloop (b : List UInt8) : Nat → List R
  | 0 => zeros16
  | i + 1 => (mloop b i).set (i / 4) (g (mloop b i) (i / 4) ||| (BitVec.ofNat 32 (b.getD i 0).toNat <<< (8 * (i % 4))))
theorem mloop_len (b : List UInt8) : ∀ i, (mloop b i).length = 16
  | 0 => rfl
  | i + 1 => by
    show ((mloop b i).set _ _).length = 16
    rw [List.length_set, mloop_len b i]
theorem tn_shift (c : UInt8) (s : Nat) (hs : s = 0 ∨ s = 8 ∨ s = 16 ∨ s = 24) : (BitVec.ofNat 32 c.toNat <<< s : R).toNat = c.toNat * 2 ^ s := by
  have hc := c.toNat_lt
  rw [BitVec.toNat_shiftLeft, BitVec.toNat_ofNat, Nat.shiftLeft_eq]
  rcases hs with rfl | rfl | rfl | rfl <;> simp only [Nat.reducePow] <;> omega
theorem word_or (a b c d : UInt8) : ((((0 : R) ||| BitVec.ofNat 32 a.toNat <<< (8 * 0)) ||| BitVec.ofNat 32 b.toNat <<< (8 * 1)) ||| BitVec.ofNat 32 c.toNat <<< (8 * 2)) ||| BitVec.ofNat 32 d.toNat <<< (8 * 3) = BitVec.ofNat 32 (a.toNat + 256 * b.toNat + 65536 * c.toNat + 16777216 * d.toNat) := by
  have t0 := a.toNat_lt
  have t1 := b.toNat_lt
  have t2 := c.toNat_lt
  have t3 := d.toNat_lt
  apply BitVec.eq_of_toNat_eq
  rw [BitVec.toNat_or, BitVec.toNat_or, BitVec.toNat_or, BitVec.toNat_or, tn_shift a _ (by omega), tn_shift b _ (by omega), tn_shift c _ (by omega), tn_shift d _ (by omega), show (0 : R).toNat = 0 from rfl, Nat.zero_or, Nat.mul_zero, Nat.pow_zero, Nat.mul_one]
  rw [show (2 : Nat) ^ (8 * 1) = 256 from rfl, show (2 : Nat) ^ (8 * 2) = 65536 from rfl, show (2 : Nat) ^ (8 * 3) = 16777216 from rfl, or_word _ _ _ _ t0 t1 t2 t3, BitVec.toNat_ofNat]
  omega
theorem mloop_words (b : List UInt8) : ∀ q, q ≤ 16 → (∀ j, j < q → g (mloop b (4 * q)) j = word b j) ∧ (∀ j, q ≤ j → g (mloop b (4 * q)) j = 0)
  | 0, _ => ⟨fun j h => by omega, fun j _ => by
    show g zeros16 j = 0
    by_cases hj : j < 16
    · have : ∀ j, j < 16 → g zeros16 j = 0 := by decide
      exact this j hj
    · exact g_big _ _ (by simp [zeros16]; omega)⟩
  | q + 1, hq => by
    obtain ⟨h1, h2⟩ := mloop_words b q (by omega)
    have hl := mloop_len b (4 * q)
    have e : mloop b (4 * (q + 1)) = (mloop b (4 * q)).set q (word b q) := by
      have hz := h2 q (Nat.le_refl q)
      show mloop b (4 * q + 1 + 1 + 1 + 1) = _
      simp only [mloop]
      rw [show (4 * q) / 4 = q by omega, show (4 * q + 1) / 4 = q by omega, show (4 * q + 1 + 1) / 4 = q by omega, show (4 * q + 1 + 1 + 1) / 4 = q by omega,
        show (4 * q) % 4 = 0 by omega, show (4 * q + 1) % 4 = 1 by omega, show (4 * q + 1 + 1) % 4 = 2 by omega, show (4 * q + 1 + 1 + 1) % 4 = 3 by omega]
      simp only [List.set_set, g_set, List.length_set, hl, show q < 16 by omega, if_true, hz]
      congr 1
      rw [word_or]
      rfl
    rw [e]
    refine ⟨fun j hj => ?_, fun j hj => ?_⟩
    · rw [g_set _ _ _ _ (by omega)]
      by_cases hjq : q = j
      · subst hjq; rw [if_pos rfl]
      · rw [if_neg hjq, h1 j (by omega)]
    · rw [g_set _ _ _ _ (by omega), if_neg (by omega), h2 j (by omega)]
theorem mloop_all (b : List UInt8) : mloop b 64 = wordsL b := words_of (mloop_len b 64) (mloop_words b 16 (Nat.le_refl _)).1
end Go.Proofs.YtkppepdniehoiaaDoor.B4
