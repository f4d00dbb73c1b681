/- Plain facts for layer 4 (blake2s): the compression function, the digest, hexadecimal, the tree, as functions on lists. No program is named here. -/
import Derived.Calls
namespace Go.Proofs.YtkppepdniehoiaaDoor.B4
set_option linter.unusedVariables false

abbrev R := BitVec 32
def g (v : List R) (i : Nat) : R := v.getD i 0
def ror (x : R) (r : Nat) : R := (x >>> r) ||| (x <<< (32 - r))
/-- Four elements mixed with two words. -/
def mixL (v : List R) (a b c d : Nat) (x y : R) : List R :=
  let v := v.set a (g v a + g v b + x)
  let v := v.set d (ror (g v d ^^^ g v a) 16)
  let v := v.set c (g v c + g v d)
  let v := v.set b (ror (g v b ^^^ g v c) 12)
  let v := v.set a (g v a + g v b + y)
  let v := v.set d (ror (g v d ^^^ g v a) 8)
  let v := v.set c (g v c + g v d)
  v.set b (ror (g v b ^^^ g v c) 7)
theorem mixL_len (v : List R) (a b c d : Nat) (x y : R) : (mixL v a b c d x y).length = v.length := by simp [mixL]
def ivL : List R := [0x6a09e667#32, 0xbb67ae85#32, 0x3c6ef372#32, 0xa54ff53a#32, 0x510e527f#32, 0x9b05688c#32, 0x1f83d9ab#32, 0x5be0cd19#32]
/-- The permutations, as the digits of the reference. -/
def permS : Nat → List UInt8
  | 0 => [48, 49, 50, 51, 52, 53, 54, 55, 56, 57, 97, 98, 99, 100, 101, 102]
  | 1 => [101, 97, 52, 56, 57, 102, 100, 54, 49, 99, 48, 50, 98, 55, 53, 51]
  | 2 => [98, 56, 99, 48, 53, 50, 102, 100, 97, 101, 51, 54, 55, 49, 57, 52]
  | 3 => [55, 57, 51, 49, 100, 99, 98, 101, 50, 54, 53, 97, 52, 48, 102, 56]
  | 4 => [57, 48, 53, 55, 50, 52, 97, 102, 101, 49, 98, 99, 54, 56, 51, 100]
  | 5 => [50, 99, 54, 97, 48, 98, 56, 51, 52, 100, 55, 53, 102, 101, 49, 57]
  | 6 => [99, 53, 49, 102, 101, 100, 52, 97, 48, 55, 54, 51, 57, 50, 56, 98]
  | 7 => [100, 98, 55, 101, 99, 49, 51, 57, 53, 48, 102, 52, 56, 54, 50, 97]
  | 8 => [54, 102, 101, 57, 98, 51, 48, 56, 99, 50, 100, 55, 49, 52, 97, 53]
  | _ => [97, 50, 56, 52, 55, 54, 49, 53, 102, 98, 57, 101, 51, 99, 100, 48]
def dgt (c : UInt8) : Nat := if 97 ≤ c.toNat then c.toNat - 87 else c.toNat - 48
def pm (r k : Nat) : Nat := dgt ((permS r).getD k 0)
def colL (k : Nat) : List Nat := if k < 4 then [k, k + 4, k + 8, k + 12] else [k - 4, 4 + (k - 4 + 1) % 4, 8 + (k - 4 + 2) % 4, 12 + (k - 4 + 3) % 4]
def stepL (m : List R) (r : Nat) (v : List R) (k : Nat) : List R :=
  mixL v ((colL k).getD 0 0) ((colL k).getD 1 0) ((colL k).getD 2 0) ((colL k).getD 3 0) (g m (pm r (2 * k))) (g m (pm r (2 * k + 1)))
def roundK (m : List R) (r : Nat) : Nat → List R → List R
  | 0, v => v
  | k + 1, v => stepL m r (roundK m r k v) k
def roundsL (m : List R) : Nat → List R → List R
  | 0, v => v
  | r + 1, v => roundK m r 8 (roundsL m r v)
theorem stepL_len (m v : List R) (r k : Nat) : (stepL m r v k).length = v.length := mixL_len _ _ _ _ _ _ _
theorem roundK_len (m v : List R) (r : Nat) : ∀ k, (roundK m r k v).length = v.length
  | 0 => rfl
  | k + 1 => by
    show (stepL m r (roundK m r k v) k).length = _
    rw [stepL_len, roundK_len m v r k]
theorem roundsL_len (m v : List R) : ∀ r, (roundsL m r v).length = v.length
  | 0 => rfl
  | r + 1 => by
    show (roundK m r 8 (roundsL m r v)).length = _
    rw [roundK_len, roundsL_len m v r]
/-- Four bytes, the least significant one first. -/
def word (l : List UInt8) (i : Nat) : R := BitVec.ofNat 32 ((l.getD (4 * i) 0).toNat + 256 * (l.getD (4 * i + 1) 0).toNat + 65536 * (l.getD (4 * i + 2) 0).toNat + 16777216 * (l.getD (4 * i + 3) 0).toNat)
def wordsL (l : List UInt8) : List R := (List.range 16).map (word l)
/-- The vector at the start. -/
def startL (h : List R) (count : Nat) (last : Bool) : List R :=
  let v := (List.range 8).map (g h) ++ ivL
  let v := v.set 12 (g v 12 ^^^ BitVec.ofNat 32 count)
  let v := v.set 13 (g v 13 ^^^ BitVec.ofNat 32 (count / 4294967296))
  if last then v.set 14 (~~~ (g v 14)) else v
def cmpL (h : List R) (block : List UInt8) (count : Nat) (last : Bool) : List R :=
  let v := roundsL (wordsL block) 10 (startL h count last)
  (List.range 8).map fun i => g h i ^^^ g v i ^^^ g v (i + 8)
theorem cmpL_len (h : List R) (block : List UInt8) (count : Nat) (last : Bool) : (cmpL h block count last).length = 8 := by simp [cmpL]

/-! ### the digest -/
def pad (l : List UInt8) : List UInt8 := l ++ List.replicate (64 - l.length) 0
/-- The blocks from index k on, with fuel. -/
def digF (l : List UInt8) : Nat → Nat → List R → List R
  | 0, _, h => h
  | f + 1, k, h => if l.length ≤ k + 64 then cmpL h (pad (l.drop k)) l.length true else digF l f (k + 64) (cmpL h ((l.drop k).take 64) (k + 64) false)
def h0L : List R := ivL.set 0 (g ivL 0 ^^^ 0x01010020#32)
def outB (h : List R) (i : Nat) : UInt8 := UInt8.ofNat ((g h (i / 4)).toNat / 2 ^ (8 * (i % 4)))
def outL (h : List R) : List UInt8 := (List.range 32).map (outB h)
def digL (l : List UInt8) : List UInt8 := outL (digF l (l.length + 1) 0 h0L)
theorem digL_len (l : List UInt8) : (digL l).length = 32 := by simp [digL, outL]

/-! ### hexadecimal -/
def hexD (n : Nat) : UInt8 := if n < 10 then UInt8.ofNat (48 + n) else UInt8.ofNat (87 + n)
def hexL (l : List UInt8) : List UInt8 := l.flatMap fun c => [hexD (c.toNat / 16), hexD (c.toNat % 16)]
theorem hexL_append (a b : List UInt8) : hexL (a ++ b) = hexL a ++ hexL b := by simp [hexL]
theorem hexL_len (a : List UInt8) : (hexL a).length = 2 * a.length := by
  induction a with
  | nil => rfl
  | cons c a ih =>
    show (hexD _ :: hexD _ :: hexL a).length = _
    simp [ih]
    omega
theorem hexD_inj {m n : Nat} (hm : m < 16) (hn : n < 16) (h : hexD m = hexD n) : m = n := by
  have : ∀ m, m < 16 → ∀ n, n < 16 → hexD m = hexD n → m = n := by decide
  exact this m hm n hn h
theorem hexL_inj : ∀ {a b : List UInt8}, hexL a = hexL b → a = b
  | [], [], _ => rfl
  | [], c :: b, h => by simp [hexL] at h
  | c :: a, [], h => by simp [hexL] at h
  | c :: a, d :: b, h => by
    have h' : hexD (c.toNat / 16) :: hexD (c.toNat % 16) :: hexL a = hexD (d.toNat / 16) :: hexD (d.toNat % 16) :: hexL b := h
    injection h' with h1 h'
    injection h' with h2 h3
    have hc := c.toNat_lt
    have hd := d.toNat_lt
    have e1 := hexD_inj (by omega) (by omega) h1
    have e2 := hexD_inj (by omega) (by omega) h2
    have e3 : c = d := UInt8.toNat_inj.1 (by omega)
    rw [e3, hexL_inj h3]
theorem hexD_digit {n : Nat} (h : n < 16) : (48 ≤ (hexD n).toNat ∧ (hexD n).toNat ≤ 57) ∨ (97 ≤ (hexD n).toNat ∧ (hexD n).toNat ≤ 102) := by
  have : ∀ n, n < 16 → (48 ≤ (hexD n).toNat ∧ (hexD n).toNat ≤ 57) ∨ (97 ≤ (hexD n).toNat ∧ (hexD n).toNat ≤ 102) := by decide
  exact this n h
theorem hexL_digit {a : List UInt8} {c : UInt8} (h : c ∈ hexL a) : (48 ≤ c.toNat ∧ c.toNat ≤ 57) ∨ (97 ≤ c.toNat ∧ c.toNat ≤ 102) := by
  unfold hexL at h
  rw [List.mem_flatMap] at h
  obtain ⟨x, _, hx⟩ := h
  have := x.toNat_lt
  simp at hx
  rcases hx with rfl | rfl
  · exact hexD_digit (by omega)
  · exact hexD_digit (by omega)

/-! ### the tree -/
/-- The greatest power of two below n (n at least 2). -/
def half (n : Nat) : Nat → Nat → Nat
  | 0, k => k
  | f + 1, k => if 2 * k < n then half n f (2 * k) else k
def kOf (n : Nat) : Nat := half n n 1
def merF : Nat → List (List UInt8) → List UInt8
  | 0, _ => []
  | f + 1, l => match l with
    | [] => digL [101, 109, 112, 116, 121]
    | [x] => digL ([108, 101, 97, 102] ++ x)
    | _ => digL ([110, 111, 100, 101] ++ merF f (l.take (kOf l.length)) ++ merF f (l.drop (kOf l.length)))
def merL (l : List (List UInt8)) : List UInt8 := merF (l.length + 1) l

theorem abc_hex : hexL (digL [97, 98, 99]) = [53, 48, 56, 99, 53, 101, 56, 99, 51, 50, 55, 99, 49, 52, 101, 50, 101, 49, 97, 55, 50, 98, 97, 51, 52, 101, 101, 98, 52, 53, 50, 102, 51, 55, 52, 53, 56, 98, 50, 48, 57, 101, 100, 54, 51, 97, 50, 57, 52, 100, 57, 57, 57, 98, 52, 99, 56, 54, 54, 55, 53, 57, 56, 50] := by decide +kernel
theorem none_hex : hexL (digL []) = [54, 57, 50, 49, 55, 97, 51, 48, 55, 57, 57, 48, 56, 48, 57, 52, 101, 49, 49, 49, 50, 49, 100, 48, 52, 50, 51, 53, 52, 97, 55, 99, 49, 102, 53, 53, 98, 54, 52, 56, 50, 99, 97, 49, 97, 53, 49, 101, 49, 98, 50, 53, 48, 100, 102, 100, 49, 101, 100, 48, 101, 101, 102, 57] := by decide +kernel
end Go.Proofs.YtkppepdniehoiaaDoor.B4
