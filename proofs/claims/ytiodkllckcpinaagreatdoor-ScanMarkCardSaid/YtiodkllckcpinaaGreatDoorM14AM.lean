/- Facts and contracts that the walks of this layer use, merged: F13Far, F13Int, F13Math, F13Con, F13Mem, F13Num. -/
import Derived.Test.YtiodkllckcpinaaGreatDoorM14AD
import Derived.Test.YtiodkllckcpinaaGreatDoorM14AE
import Derived.Test.YtiodkllckcpinaaGreatDoorM14AA
import Derived.Test.YtiodkllckcpinaaGreatDoorM14AF
import Derived.Test.YtiodkllckcpinaaGreatDoorM14AC
import Derived.Test.YtiodkllckcpinaaGreatDoorM14AG
import Derived.Test.YtiodkllckcpinaaGreatDoorM14AJ
import Derived.Test.YtiodkllckcpinaaGreatDoorM14AL
import Derived.Test.YtiodkllckcpinaaGreatDoorRows
import Derived.Lib.Hide
import Derived.Laws.MakeOwn
import Derived.RangeFuncRecord
import Derived.WalkKit
import Derived.BigQuiet
import Derived.Deep.QuietTactic
import Derived.WalkSpells
import Derived.WalkLawsBesides
import Derived.Lib.TrimByte
set_option linter.unusedVariables false
set_option linter.unusedSimpArgs false
set_option maxRecDepth 100000
namespace Go.Proofs.YtiodkllckcpinaaGreatDoor
namespace F13
open C9 V10

def spaced : Nat → List Bool → Bool
 | _, [] => true
 | c, e :: E => if e then c == 0 && spaced 7 E else spaced (c - 1) E
def gain (d e : Bool) : Int := if d then (if e then -1 else 1) else 0
def gn : List Bool → List Bool → Int
 | d :: D, e :: E => gain d e + gn D E
 | _, _ => 0
def pot (s1 s2 : Bool) (c : Nat) : Int :=
 match s1, s2 with
 | false, false => 0
 | false, true => if c < 2 then 0 else if c < 6 then 1 else 2
 | true, _ => if c < 4 then 1 else 2
theorem pot_step : ∀ (s1 s2 u e1 e2 : Bool) (c : Fin 8), (e1 = true → c.1 = 0) → (e2 = true → (if e1 then 7 else c.1 - 1) = 0) →
  pot s1 s2 c.1 ≤ gain (u ^^ s1 ^^ s2) e1 + gain (u ^^ s2) e2 + pot u s1 (if e2 then 7 else (if e1 then 7 else c.1 - 1) - 1) := by decide
theorem pot_out : ∀ (e1 e2 : Bool) (c : Fin 8), (e1 = true → c.1 = 0) → (e2 = true → (if e1 then 7 else c.1 - 1) = 0) →
  1 ≤ gain true e1 + gain true e2 + pot true false (if e2 then 7 else (if e1 then 7 else c.1 - 1) - 1) := by decide
theorem pot_end : ∀ (s1 s2 : Bool) (c : Nat), s1 = false → s2 = false → pot s1 s2 c = 0 := by
 rintro _ _ c rfl rfl
 rfl
theorem sp_cons {c : Nat} {e : Bool} {E : List Bool} (h : spaced c (e :: E) = true) : (e = true → c = 0) ∧ spaced (if e then 7 else c - 1) E = true := by
 cases e
 ·exact ⟨fun h => (by cases h), h⟩
 ·have h' : (c == 0 && spaced 7 E) = true := h
  rw [Bool.and_eq_true, beq_iff_eq] at h'
  exact ⟨fun _ => h'.1, h'.2⟩
theorem cool_lt {c : Nat} (h : c < 8) (e : Bool) : (if e then 7 else c - 1) < 8 := by cases e <;> simp <;> omega
theorem pot_le : ∀ (l : List Bool) (s1 s2 : Bool) (c : Nat) (E : List Bool), c < 8 → E.length = 2 * l.length → fin s1 s2 l = (false, false) → spaced c E = true → pot s1 s2 c ≤ gn (run s1 s2 l) E
 | [], s1, s2, c, E, _, _, h, _ => by
  have h1 : s1 = false := congrArg Prod.fst h
  have h2 : s2 = false := congrArg Prod.snd h
  rw [pot_end s1 s2 c h1 h2]
  exact Int.le_refl _
 | u :: l, s1, s2, c, [], _, h, _, _ => by simp at h
 | u :: l, s1, s2, c, [e], _, h, _, _ => by simp at h; omega
 | u :: l, s1, s2, c, e1 :: e2 :: E, hc, h, hf, hs => by
  obtain ⟨h1, hs1⟩ := sp_cons hs
  obtain ⟨h2, hs2⟩ := sp_cons hs1
  have hc1 := cool_lt hc e1
  have hc2 := cool_lt hc1 e2
  have ih := pot_le l u s1 _ E hc2 (by simp at h; omega) hf hs2
  have st := pot_step s1 s2 u e1 e2 ⟨c, hc⟩ h1 h2
  show pot s1 s2 c ≤ gain (u ^^ s1 ^^ s2) e1 + (gain (u ^^ s2) e2 + gn (run u s1 l) E)
  have st' : pot s1 s2 c ≤ gain (u ^^ s1 ^^ s2) e1 + gain (u ^^ s2) e2 + pot u s1 (if e2 then 7 else (if e1 then 7 else c - 1) - 1) := st
  omega
theorem out_le : ∀ (l : List Bool) (c : Nat) (E : List Bool), c < 8 → E.length = 2 * l.length → fin false false l = (false, false) → (∃ b ∈ l, b = true) → spaced c E = true → 1 ≤ gn (run false false l) E
 | [], c, E, _, _, _, h, _ => by
  obtain ⟨b, hb, _⟩ := h
  cases hb
 | u :: l, c, [], _, h, _, _, _ => by simp at h
 | u :: l, c, [e], _, h, _, _, _ => by simp at h; omega
 | u :: l, c, e1 :: e2 :: E, hc, h, hf, hb, hs => by
  obtain ⟨h1, hs1⟩ := sp_cons hs
  obtain ⟨h2, hs2⟩ := sp_cons hs1
  have hc1 := cool_lt hc e1
  have hc2 := cool_lt hc1 e2
  have hE : E.length = 2 * l.length := by simp at h; omega
  cases u
  ·have := out_le l _ E hc2 hE hf (by
    obtain ⟨b, hb, e⟩ := hb
    rcases List.mem_cons.1 hb with rfl | hb
    ·cases e
    ·exact ⟨b, hb, e⟩) hs2
   show 1 ≤ gain false e1 + (gain false e2 + gn (run false false l) E)
   have z : ∀ e, gain false e = 0 := by decide
   rw [z, z]
   omega
  ·have ih := pot_le l true false _ E hc2 hE hf hs2
   have st := pot_out e1 e2 ⟨c, hc⟩ h1 h2
   have st' : 1 ≤ gain true e1 + gain true e2 + pot true false (if e2 then 7 else (if e1 then 7 else c - 1) - 1) := st
   show 1 ≤ gain true e1 + (gain true e2 + gn (run true false l) E)
   omega
def chL : List UInt8 → List Bool → List Bool
 | x :: X, a :: A => (x != cell a) :: chL X A
 | _, _ => []
theorem chL_len : ∀ (X : List UInt8) (A : List Bool), X.length = A.length → (chL X A).length = A.length
 | [], [], _ => rfl
 | x :: X, a :: A, h => by
  show (chL X A).length + 1 = A.length + 1
  rw [chL_len X A (by simpa using h)]
 | [], a :: A, h => by simp at h
 | x :: X, [], h => by simp at h
theorem chL_get : ∀ (X : List UInt8) (A : List Bool) (i : Nat) (h1 : i < X.length) (h2 : i < A.length) (h3 : i < (chL X A).length), (chL X A)[i] = (X[i] != cell A[i])
 | x :: X, a :: A, 0, _, _, _ => rfl
 | x :: X, a :: A, i + 1, h1, h2, h3 => chL_get X A i (by simpa using h1) (by simpa using h2) (by
  have : i + 1 < (chL X A).length + 1 := h3
  omega)
 | [], A, i, h1, _, _ => by simp at h1
 | x :: X, [], i, _, h2, _ => by simp at h2
theorem gain_mis (x : UInt8) (a b : Bool) : (mis x a : Int) + gain (a ^^ b) (x != cell a) ≤ (mis x b : Int) := by
 by_cases h : x = cell a
 ·have e : (x != cell a) = false := by rw [h]; exact bne_self_eq_false _
  rw [e, h, mis_cell, mis_cell]
  cases a <;> cases b <;> decide
 ·have e : (x != cell a) = true := bne_iff_ne.2 h
  have h1 := mis_le x a
  rw [e]
  by_cases hab : a = b
  ·subst hab
   rw [Bool.xor_self]
   show (mis x a : Int) + 0 ≤ _
   omega
  ·have : (a ^^ b) = true := by revert hab; cases a <;> cases b <;> decide
   rw [this]
   show (mis x a : Int) + (-1) ≤ _
   omega
theorem gn_mis : ∀ (X : List UInt8) (A B : List Bool), X.length = A.length → X.length = B.length → (misL X A : Int) + gn (xo A B) (chL X A) ≤ (misL X B : Int)
 | [], [], [], _, _ => Int.le_refl _
 | x :: X, a :: A, b :: B, h1, h2 => by
  have ih := gn_mis X A B (by simpa using h1) (by simpa using h2)
  have g := gain_mis x a b
  show ((mis x a + misL X A : Nat) : Int) + (gain (a ^^ b) (x != cell a) + gn (xo A B) (chL X A)) ≤ ((mis x b + misL X B : Nat) : Int)
  omega
 | [], a :: A, _, h, _ => by simp at h
 | [], [], b :: B, _, h => by simp at h
 | x :: X, [], _, h, _ => by simp at h
 | x :: X, a :: A, [], _, h => by simp at h
theorem far {X : List UInt8} {b l : List Bool} (hX : X.length = (enc b).length) (hl : l.length = b.length) (hne : l ≠ b) (hs : spaced 0 (chL X (enc b)) = true) : misL X (enc b) < misL X (enc l) := by
 have hlen : (enc b).length = (enc l).length := by rw [enc_len, enc_len, hl]
 have h1 := gn_mis X (enc b) (enc l) hX (by omega)
 have hx : b.length = l.length := hl.symm
 rw [← enc_xo hx] at h1
 have h2 := out_le (xo b l ++ [false, false]) 0 (chL X (enc b)) (by decide) (by rw [chL_len _ _ hX, enc_len, List.length_append, xo_len _ _ hx]; show _ = 2 * (_ + 2); omega) (by rw [fin_app]; rfl)
  (by
   obtain ⟨c, hc, e⟩ := xo_true b l hx (fun e => hne e.symm)
   exact ⟨c, List.mem_append_left _ hc, e⟩) hs
 have h2' : 1 ≤ gn (enc (xo b l)) (chL X (enc b)) := h2
 omega
theorem near {c : ByteArray} {n : Nat} {l b : List Bool} (h : V10.Good c n l) (hn : c.size = 2 * n + 4) (hb : b.length = n) (hs : spaced 0 (chL c.data.toList (enc b)) = true) : l = b ∧ dN c = (misL c.data.toList (enc b) : Int) ∧ dB c = true := by
 have far : ∀ l', l'.length = n → l' ≠ b → misL c.data.toList (enc b) < misL c.data.toList (enc l') := fun l' h' hne =>
  far (by rw [size_list, enc_len]; omega) (by omega) hne hs
 have e : l = b := by
  by_cases e : l = b
  ·exact e
  ·have h1 := far l h.len e
   have h2 := h.min b hb
   omega
 subst e
 refine ⟨rfl, h.dist, h.one.2 fun l' h' he => ?_⟩
 by_cases e : l' = l
 ·exact e
 ·have := far l' h' e
  omega
theorem sp_of : ∀ (E : List Bool) (c : Nat), (∀ i, i < c → E[i]? ≠ some true) → (∀ i j, i < j → j < i + 8 → E[i]? = some true → E[j]? ≠ some true) → spaced c E = true
 | [], _, _, _ => rfl
 | e :: E, c, h1, h2 => by
  have tail : ∀ i j, i < j → j < i + 8 → E[i]? = some true → E[j]? ≠ some true := fun i j a b => h2 (i + 1) (j + 1) (by omega) (by omega)
  cases e
  ·exact sp_of E (c - 1) (fun i hi => h1 (i + 1) (by omega)) tail
  ·have hc : c = 0 := by
    by_cases hc : c = 0
    ·exact hc
    ·exact absurd rfl (h1 0 (by omega))
   have := sp_of E 7 (fun i hi => h2 0 (i + 1) (by omega) (by omega) rfl) tail
   show (c == 0 && spaced 7 E) = true
   rw [hc, this]
   rfl
end F13
namespace F13
open C9 V10 I11

def Apart (X : List UInt8) (A : List Bool) : Prop := ∀ i j, i < j → j < i + 8 → X.getD i 0 ≠ (cs A).getD i 0 → X.getD j 0 = (cs A).getD j 0
theorem ch_true {X : List UInt8} {A : List Bool} (hl : X.length = A.length) {i : Nat} (h : (chL X A)[i]? = some true) : X.getD i 0 ≠ (cs A).getD i 0 ∧ i < A.length := by
 have hi : i < (chL X A).length := by
  by_cases hi : i < (chL X A).length
  ·exact hi
  ·rw [List.getElem?_eq_none (by omega)] at h
   cases h
 have hA : i < A.length := by rw [chL_len X A hl] at hi; exact hi
 rw [List.getElem?_eq_getElem hi, chL_get X A i (by omega) hA hi] at h
 have hne := bne_iff_ne.1 (Option.some.inj h)
 refine ⟨fun e => hne ?_, hA⟩
 rw [getD_of (by omega), getD_of (by rw [cs_len]; exact hA)] at e
 rw [e]
 unfold cs
 rw [List.getElem_map]
theorem Apart.sp {X : List UInt8} {A : List Bool} (h : Apart X A) (hl : X.length = A.length) : spaced 0 (chL X A) = true :=
 sp_of _ 0 (fun i hi => by omega) fun i j hij hj h1 h2 => (ch_true hl h2).1 (h i j hij hj (ch_true hl h1).1)
theorem burst {A : List Bool} {c : List UInt8} (hA : A.length = 836) (hc : c.length = 836) (a : Nat) (h : ∀ p, p < 836 → c.getD p 0 ≠ (il 8 (cs A)).getD p 0 → a ≤ p ∧ p < a + 90) : Apart (dl 8 c) A := by
 have hcs : (cs A).length = 836 := by rw [cs_len, hA]
 have key : ∀ i, i < 836 → (dl 8 c).getD i 0 ≠ (cs A).getD i 0 → a ≤ pos 836 8 i ∧ pos 836 8 i < a + 90 := fun i hi hne => by
  refine h _ (pos_lt (by decide) hi) fun e => hne ?_
  rw [dl_at 8 c (by omega), hc, e]
  have := il_at (r := 8) (by decide) (cs A) (i := i) (by omega)
  rw [hcs] at this
  exact this
 have out : ∀ i, ¬ i < 836 → (dl 8 c).getD i 0 = (cs A).getD i 0 := fun i hi => by
  rw [List.getD_eq_getElem?_getD, List.getD_eq_getElem?_getD, List.getElem?_eq_none (by rw [dl_len, hc]; omega), List.getElem?_eq_none (by rw [hcs]; omega)]
 intro i j hij hj hi
 by_cases hj2 : j < 836
 ·by_cases hi2 : i < 836
  ·by_cases e : (dl 8 c).getD j 0 = (cs A).getD j 0
   ·exact e
   ·have k1 := key i hi2 hi
    have k2 := key j hj2 e
    have := spread (n := 836) (r := 8) (by decide) hi2 hj2 (by omega) (by show _ < _ + 103; omega) (by show _ < _ + 103; omega)
    omega
  ·exact absurd (out i hi2) hi
 ·exact out j hj2
theorem Apart.same (A : List Bool) : Apart (cs A) A := fun i j _ _ h => absurd rfl h
end F13
namespace F13
open Go.RowKit Mem

structure Fr where
 kind : Int
 reel : Int
 sess : Int
 idx : Int
 len : Int
 data : Int
 spare : Int
 arch : K3.R
 pay : ByteArray
def zeroF : Fr := ⟨0, 0, 0, 0, 0, 0, 0, 0#32, ⟨#[]⟩⟩
def Fr.cells (f : Fr) : Array Value := #[.int .i64 f.kind, .int .i64 f.reel, .int .i64 f.sess, .int .i64 f.idx, .int .i64 f.len, .int .i64 f.data, .int .i64 f.spare, .int .u32 (f.arch.toNat : Int), .string f.pay]
def Fr.val (f : Fr) : Value := .agg f.cells
def kdB (f : Fr) : Bool := (f.kind != 66) && (f.kind != 68)
def rgB (f : Fr) : Bool := decide (f.data < 1) || decide (8 < f.data) || decide (f.spare < 0) || decide (7 < f.spare) || decide (f.reel < 0) || decide (f.data + f.spare ≤ f.reel) || decide (f.sess < 1) || decide (255 < f.sess) || decide (f.idx < 0) || decide (65535 < f.idx) || decide (f.len < 0) || decide (28 < f.len)
def zerosB (l : List UInt8) : Bool := l.all (· == 0)
def pyB (f : Fr) : Bool := (f.pay.size != 28) || !(zerosB (f.pay.data.toList.drop f.len.toNat))
def ckE (f : Fr) : Int := if kdB f then 10 else if rgB f then 2 else if pyB f then 1 else 0
structure Valid (f : Fr) : Prop where
 kind : f.kind = 66 ∨ f.kind = 68
 data : 1 ≤ f.data ∧ f.data ≤ 8
 spare : 0 ≤ f.spare ∧ f.spare ≤ 7
 reel : 0 ≤ f.reel ∧ f.reel < f.data + f.spare
 sess : 1 ≤ f.sess ∧ f.sess ≤ 255
 idx : 0 ≤ f.idx ∧ f.idx ≤ 65535
 len : 0 ≤ f.len ∧ f.len ≤ 28
 size : f.pay.size = 28
 rest : zerosB (f.pay.data.toList.drop f.len.toNat) = true
theorem valid_iff (f : Fr) : ckE f = 0 ↔ Valid f := by
 unfold ckE
 constructor
 ·intro h
  by_cases h1 : kdB f = true
  ·rw [if_pos h1] at h
   cases h
  ·rw [if_neg h1] at h
   by_cases h2 : rgB f = true
   ·rw [if_pos h2] at h
    cases h
   ·rw [if_neg h2] at h
    by_cases h3 : pyB f = true
    ·rw [if_pos h3] at h
     cases h
    ·unfold kdB at h1
     unfold rgB at h2
     unfold pyB at h3
     simp only [Bool.or_eq_true, Bool.and_eq_true, Bool.not_eq_true', decide_eq_true_eq, bne_iff_ne, not_or, Bool.not_eq_false] at h1 h2 h3
     exact ⟨by omega, by omega, by omega, by omega, by omega, by omega, by omega, Decidable.not_not.1 h3.1, h3.2⟩
 ·intro h
  have h1 : ¬ kdB f = true := by
   unfold kdB
   simp only [Bool.and_eq_true, bne_iff_ne]
   have := h.kind
   omega
  have h2 : ¬ rgB f = true := by
   unfold rgB
   simp only [Bool.or_eq_true, decide_eq_true_eq]
   have := h.data
   have := h.spare
   have := h.reel
   have := h.sess
   have := h.idx
   have := h.len
   omega
  have h3 : ¬ pyB f = true := by
   unfold pyB
   rw [h.rest, h.size]
   decide
  rw [if_neg h1, if_neg h2, if_neg h3]
/-! ### messages -/
def u8 (n : Int) : UInt8 := UInt8.ofNat n.toNat
theorem u8_val {n : Int} (h1 : 0 ≤ n) (h2 : n < 256) : ((u8 n).toNat : Int) = n := by
 unfold u8
 rw [UInt8.toNat_ofNat']
 omega
def hdL (f : Fr) : List UInt8 := [u8 f.kind, u8 f.reel, u8 (f.sess / 256), u8 (f.sess % 256), u8 (f.idx / 256), u8 (f.idx % 256), u8 f.len, u8 (16 * f.data + f.spare)] ++ K3.byL f.arch
def bodyL (f : Fr) : List UInt8 := hdL f ++ f.pay.data.toList
def msgL (f : Fr) : List UInt8 := bodyL f ++ K3.byL (K3.sumL (bodyL f))
theorem hdL_len (f : Fr) : (hdL f).length = 12 := rfl
theorem bodyL_len {f : Fr} (h : Valid f) : (bodyL f).length = 40 := by
 unfold bodyL
 rw [List.length_append, hdL_len]
 have := h.size
 have : f.pay.data.toList.length = f.pay.size := by simp
 omega
theorem msgL_len {f : Fr} (h : Valid f) : (msgL f).length = 44 := by
 unfold msgL
 rw [List.length_append, bodyL_len h]
 rfl
def bt (b : List UInt8) (i : Nat) : Int := ((b.getD i 0).toNat : Int)
def frOf (b : List UInt8) : Fr :=
 ⟨bt b 0, bt b 1, 256 * bt b 2 + bt b 3, 256 * bt b 4 + bt b 5, bt b 6, bt b 7 / 16, bt b 7 % 16, BitVec.ofInt 32 (((bt b 8 * 256 + bt b 9) * 256 + bt b 10) * 256 + bt b 11), ⟨((b.drop 12).take 28).toArray⟩⟩
def unE (b : List UInt8) : Int := if b.length ≠ 44 then 4 else if K3.byL (K3.sumL (b.take 40)) ≠ b.drop 40 then 5 else ckE (frOf b)
def unF (b : List UInt8) : Fr := if unE b = 0 then frOf b else zeroF
theorem bt_app {l m : List UInt8} {i : Nat} (h : i < l.length) : bt (l ++ m) i = bt l i := by
 unfold bt
 rw [List.getD_eq_getElem?_getD, List.getD_eq_getElem?_getD, List.getElem?_append_left h]
theorem drop_bodyL (f : Fr) : (bodyL f).drop 12 = f.pay.data.toList := by
 unfold bodyL
 rw [List.drop_left' (hdL_len f)]
theorem arch_back (x : K3.R) : BitVec.ofInt 32 (((((K3.nb x 24).toNat : Int) * 256 + ((K3.nb x 16).toNat : Int)) * 256 + ((K3.nb x 8).toNat : Int)) * 256 + ((K3.nb x 0).toNat : Int)) = x := by
 have hx := x.isLt
 have e : ((((K3.nb x 24).toNat : Int) * 256 + ((K3.nb x 16).toNat : Int)) * 256 + ((K3.nb x 8).toNat : Int)) * 256 + ((K3.nb x 0).toNat : Int) = (x.toNat : Int) := by
  rw [K3.nb_toNat, K3.nb_toNat, K3.nb_toNat, K3.nb_toNat]
  omega
 rw [e]
 apply BitVec.eq_of_toNat_eq
 rw [BitVec.toNat_ofInt]
 omega
theorem frOf_msg {f : Fr} (h : Valid f) : frOf (msgL f) = f := by
 have hl := bodyL_len h
 have hg : ∀ i, i < 12 → bt (msgL f) i = bt (hdL f) i := fun i hi => by
  unfold msgL
  rw [bt_app (by omega)]
  unfold bodyL
  rw [bt_app (by rw [hdL_len]; exact hi)]
 have h1 := h.kind
 have h2 := h.data
 have h3 := h.spare
 have h4 := h.reel
 have h5 := h.sess
 have h6 := h.idx
 have h7 := h.len
 have g0 : bt (hdL f) 0 = f.kind := u8_val (by omega) (by omega)
 have g1 : bt (hdL f) 1 = f.reel := u8_val (by omega) (by omega)
 have g2 : bt (hdL f) 2 = f.sess / 256 := u8_val (by omega) (by omega)
 have g3 : bt (hdL f) 3 = f.sess % 256 := u8_val (by omega) (by omega)
 have g4 : bt (hdL f) 4 = f.idx / 256 := u8_val (by omega) (by omega)
 have g5 : bt (hdL f) 5 = f.idx % 256 := u8_val (by omega) (by omega)
 have g6 : bt (hdL f) 6 = f.len := u8_val (by omega) (by omega)
 have g7 : bt (hdL f) 7 = 16 * f.data + f.spare := u8_val (by omega) (by omega)
 have ga : BitVec.ofInt 32 (((bt (hdL f) 8 * 256 + bt (hdL f) 9) * 256 + bt (hdL f) 10) * 256 + bt (hdL f) 11) = f.arch := arch_back f.arch
 have gp : ((msgL f).drop 12).take 28 = f.pay.data.toList := by
  unfold msgL
  rw [List.drop_append_of_le_length (by omega), drop_bodyL]
  have hs : f.pay.data.toList.length = 28 := by have := h.size; simpa using this
  rw [List.take_append_of_le_length (by omega), List.take_of_length_le (by omega)]
 unfold frOf
 rw [hg 0 (by decide), hg 1 (by decide), hg 2 (by decide), hg 3 (by decide), hg 4 (by decide), hg 5 (by decide), hg 6 (by decide), hg 7 (by decide), hg 8 (by decide), hg 9 (by decide), hg 10 (by decide), hg 11 (by decide), g0, g1, g2, g3, g4, g5, g6, g7, ga, gp]
 have e1 : 256 * (f.sess / 256) + f.sess % 256 = f.sess := by omega
 have e2 : 256 * (f.idx / 256) + f.idx % 256 = f.idx := by omega
 have e3 : (16 * f.data + f.spare) / 16 = f.data := by omega
 have e4 : (16 * f.data + f.spare) % 16 = f.spare := by omega
 rw [e1, e2, e3, e4]
theorem unE_msg {f : Fr} (h : Valid f) : unE (msgL f) = 0 := by
 have hl := bodyL_len h
 unfold unE
 rw [if_neg (by rw [msgL_len h]; decide), if_neg, frOf_msg h]
 ·exact (valid_iff f).2 h
 ·unfold msgL
  rw [List.take_left' hl, List.drop_left' hl]
  exact fun h => h rfl
theorem unF_msg {f : Fr} (h : Valid f) : unF (msgL f) = f := by
 unfold unF
 rw [if_pos (unE_msg h), frOf_msg h]
end F13
namespace F13
open Go.RowKit Mem

/-! ### coded frames -/
/-- The bits of a word's cells. -/
def bitsOf (W : ByteArray) : List Bool := (C1.fromB W.data.toList).map C9.toB
theorem bits8_bit (c : UInt8) : (C1.bits8 c).all C9.bitB = true := C1.byte_cases (fun c => (C1.bits8 c).all C9.bitB) (by decide) c
theorem fromB_bit (l : List UInt8) : (C1.fromB l).all C9.bitB = true := by
 unfold C1.fromB
 rw [List.all_flatMap]
 rw [List.all_eq_true]
 exact fun c _ => bits8_bit c
theorem cs_bits : ∀ l : List UInt8, l.all C9.bitB = true → C9.cs (l.map C9.toB) = l
 | [], _ => rfl
 | c :: l, h => by
  rw [List.all_cons, Bool.and_eq_true] at h
  show C9.cell (C9.toB c) :: C9.cs (l.map C9.toB) = c :: l
  rw [C9.cell_toB h.1, cs_bits l h.2]
theorem cs_bitsOf (W : ByteArray) : C9.cs (bitsOf W) = C1.fromB W.data.toList := cs_bits _ (fromB_bit _)
theorem sb_bitsOf (W : ByteArray) : C9.sb (bitsOf W) = ⟨(C1.fromB W.data.toList).toArray⟩ := by
 unfold C9.sb
 rw [cs_bitsOf]
theorem bitsOf_len (W : ByteArray) : (bitsOf W).length = 8 * W.size := by
 unfold bitsOf
 rw [List.length_map, C1.fromB_len]
 simp
def Word (f : Fr) (W : ByteArray) : Prop := ∃ t, G7.IsEnc 8 (G7.el ⟨(msgL f).toArray⟩) t ∧ W = G7.str (G7.el ⟨(msgL f).toArray⟩ ++ t)
theorem msg_el {f : Fr} (h : Valid f) : (G7.el ⟨(msgL f).toArray⟩).length = 44 := by
 rw [G7.el_len]
 exact msgL_len h
theorem Word.only {f : Fr} {W W' : ByteArray} (hv : Valid f) (h : Word f W) (h' : Word f W') : W = W' := by
 obtain ⟨t, h1, rfl⟩ := h
 obtain ⟨t', h2, rfl⟩ := h'
 rw [h1.only h2 (by rw [msg_el hv]; decide)]
theorem Word.size {f : Fr} {W : ByteArray} (hv : Valid f) (h : Word f W) : W.size = 52 := by
 obtain ⟨t, h1, rfl⟩ := h
 rw [G7.size_str, List.length_append, msg_el hv, h1.1]
theorem Word.cw {f : Fr} {W : ByteArray} (h : Word f W) : G7.Cw 8 (G7.el W) := by
 obtain ⟨t, h1, rfl⟩ := h
 rw [G7.el_str]
 exact h1.2
theorem Word.take {f : Fr} {W : ByteArray} (hv : Valid f) (h : Word f W) : W.data.toList.take 44 = msgL f := by
 obtain ⟨t, h1, rfl⟩ := h
 rw [← G7.str_app, G7.str_el]
 rw [ByteArray.data_append, Array.toList_append]
 exact List.take_left' (msgL_len hv)
def bodyC (W : ByteArray) : ByteArray := ⟨(I11.il 8 (C9.cs (C9.enc (bitsOf W)))).toArray⟩
theorem encL (W : ByteArray) (h : W.size = 52) : (C9.enc (bitsOf W)).length = 836 := by
 rw [C9.enc_len, bitsOf_len, h]
theorem bodyC_list (W : ByteArray) : (bodyC W).data.toList = I11.il 8 (C9.cs (C9.enc (bitsOf W))) := rfl
theorem bodyC_size {W : ByteArray} (h : W.size = 52) : (bodyC W).size = 836 := by
 show (I11.il 8 (C9.cs (C9.enc (bitsOf W)))).length = 836
 rw [I11.il_len, C9.cs_len, encL W h]
def EncQ (f : Fr) (S : ByteArray) : Prop := (ckE f = 0 → ∃ W, Word f W ∧ S = M12.mkB ++ bodyC W) ∧ (ckE f ≠ 0 → S = ⟨#[]⟩)
def EncP (f : Fr) (w : World) (e : Ending) (w' : World) : Prop := ∃ S, EncQ f S ∧ e = .returned (.tuple #[.string S, .int .i64 (ckE f)]) ∧ Below w.heap.size w w'

/-! ### decoding -/
def padL (c : List UInt8) : List UInt8 := c ++ List.replicate (836 - c.length) 63
theorem padL_len {c : List UInt8} (h : c.length ≤ 836) : (padL c).length = 836 := by
 unfold padL
 rw [List.length_append, List.length_replicate]
 omega
theorem padL_full {c : List UInt8} (h : c.length = 836) : padL c = c := by
 unfold padL
 rw [h, Nat.sub_self]
 simp
def xB (c : ByteArray) : ByteArray := ⟨(I11.dl 8 (padL c.data.toList)).toArray⟩
def byB (X : ByteArray) : ByteArray := ⟨(C1.tbS (V10.dS X).data.toList).toArray⟩
def qV (d u n : Int) : Value := .agg #[.int .i64 d, .int .i64 u, .int .i64 n]
structure No (F : Fr) (d u n : Int) : Prop where
 f : F = zeroF
 d : d = 0
 u : u = 0
 n : n = 0
def InQ (X : ByteArray) (F : Fr) (d u n k : Int) : Prop := ∃ (S : ByteArray) (m j : Int), G8.DecQ (G7.el (byB X)) 8 [] S m j ∧
 (j ≠ 0 → No F d u n ∧ k = j) ∧ (j = 0 → (unE (S.data.toList.take 44) ≠ 0 → No F d u n ∧ k = unE (S.data.toList.take 44)) ∧
  (unE (S.data.toList.take 44) = 0 → F = unF (S.data.toList.take 44) ∧ d = V10.dN X ∧ u = (C1.unr X.data.toList : Int) ∧ n = m ∧ k = 0))
def DcQ (c : ByteArray) (F : Fr) (d u n k : Int) : Prop :=
 (C1.chk c.data.toList ≠ 0 → No F d u n ∧ k = 3) ∧ (C1.chk c.data.toList = 0 → (836 < c.size → No F d u n ∧ k = 6) ∧ (c.size ≤ 836 → InQ (xB c) F d u n k))
theorem No.only {F F' : Fr} {d u n d' u' n' : Int} (h : No F d u n) (h' : No F' d' u' n') : F = F' ∧ d = d' ∧ u = u' ∧ n = n' :=
 ⟨h.f.trans h'.f.symm, h.d.trans h'.d.symm, h.u.trans h'.u.symm, h.n.trans h'.n.symm⟩
theorem InQ.only {X : ByteArray} {F F' : Fr} {d u n k d' u' n' k' : Int} (h : InQ X F d u n k) (h' : InQ X F' d' u' n' k') : F = F' ∧ d = d' ∧ u = u' ∧ n = n' ∧ k = k' := by
 obtain ⟨S, m, j, h1, h2, h3⟩ := h
 obtain ⟨S', m', j', h1', h2', h3'⟩ := h'
 obtain ⟨rfl, rfl, rfl⟩ := h1.only h1'
 by_cases hj : j = 0
 ·by_cases hu : unE (S.data.toList.take 44) = 0
  ·obtain ⟨rfl, rfl, rfl, rfl, rfl⟩ := (h3 hj).2 hu
   obtain ⟨rfl, rfl, rfl, rfl, rfl⟩ := (h3' hj).2 hu
   exact ⟨rfl, rfl, rfl, rfl, rfl⟩
  ·obtain ⟨a, rfl⟩ := (h3 hj).1 hu
   obtain ⟨b, rfl⟩ := (h3' hj).1 hu
   obtain ⟨e1, e2, e3, e4⟩ := a.only b
   exact ⟨e1, e2, e3, e4, rfl⟩
 ·obtain ⟨a, rfl⟩ := h2 hj
  obtain ⟨b, rfl⟩ := h2' hj
  obtain ⟨e1, e2, e3, e4⟩ := a.only b
  exact ⟨e1, e2, e3, e4, rfl⟩
theorem DcQ.only {c : ByteArray} {F F' : Fr} {d u n k d' u' n' k' : Int} (h : DcQ c F d u n k) (h' : DcQ c F' d' u' n' k') : F = F' ∧ d = d' ∧ u = u' ∧ n = n' ∧ k = k' := by
 by_cases hc : C1.chk c.data.toList = 0
 ·by_cases hs : 836 < c.size
  ·obtain ⟨a, rfl⟩ := (h.2 hc).1 hs
   obtain ⟨b, rfl⟩ := (h'.2 hc).1 hs
   obtain ⟨e1, e2, e3, e4⟩ := a.only b
   exact ⟨e1, e2, e3, e4, rfl⟩
  ·exact ((h.2 hc).2 (by omega)).only ((h'.2 hc).2 (by omega))
 ·obtain ⟨a, rfl⟩ := h.1 hc
  obtain ⟨b, rfl⟩ := h'.1 hc
  obtain ⟨e1, e2, e3, e4⟩ := a.only b
  exact ⟨e1, e2, e3, e4, rfl⟩
def DcP (c : ByteArray) (w : World) (e : Ending) (w' : World) : Prop := ∃ (F : Fr) (d u n k : Int), DcQ c F d u n k ∧ e = .returned (.tuple #[F.val, qV d u n, .int .i64 k]) ∧ Below w.heap.size w w'

/-! ### the inner code: Extract or the Viterbi decoder -/
theorem chk_okC {l : List UInt8} : C1.chk l = 0 ↔ l.all C9.okC = true := by
 unfold C1.chk
 split
 ·next h => exact ⟨fun _ => h, fun _ => rfl⟩
 ·next h => exact ⟨fun e => absurd e (by decide), fun e => absurd e h⟩
theorem xB_list (c : ByteArray) : (xB c).data.toList = I11.dl 8 (padL c.data.toList) := rfl
theorem xB_size {c : ByteArray} (h : c.size ≤ 836) : (xB c).size = 836 := by
 show (I11.dl 8 (padL c.data.toList)).length = 836
 rw [I11.dl_len, padL_len (by simpa using h)]
theorem dl_all {r : Nat} (hr : 0 < r) {l : List UInt8} {P : UInt8 → Bool} (h : l.all P = true) : (I11.dl r l).all P = true := by
 rw [List.all_eq_true] at *
 intro x hx
 have := (I11.perm_il hr (I11.dl r l)).mem_iff.2 hx
 rw [I11.il_dl hr] at this
 exact h x this
theorem xB_ok {c : ByteArray} (h : C1.chk c.data.toList = 0) : (xB c).data.toList.all C9.okC = true := by
 rw [xB_list]
 refine dl_all (by decide) ?_
 unfold padL
 rw [List.all_append, chk_okC.1 h, Bool.true_and, List.all_eq_true]
 intro x hx
 rw [(List.mem_replicate.1 hx).2]
 rfl
theorem xB_eB {c : ByteArray} (h : C1.chk c.data.toList = 0) (hs : c.size ≤ 836) : V10.eB (xB c) = 0 := V10.eB_ok (xB_ok h) (n := 416) (xB_size hs)
theorem ext_dec {X S : ByteArray} {k : Int} (hs : X.size = 836) (ho : X.data.toList.all C9.okC = true) (h : C9.ExtQ X S k) (hk : k = 0) : V10.dS X = S ∧ V10.dN X = 0 := by
 have h2 := ((h.2 ho).2 ⟨by omega, by omega⟩)
 by_cases hc : ∃ l, C9.CodeOf X l
 ·obtain ⟨l, hl⟩ := hc
  obtain ⟨rfl, _⟩ := h2.1 l hl
  obtain ⟨g, hg⟩ := V10.good (V10.eB_ok ho (n := 416) hs) (n := 416) hs
  have hX : X.data.toList = C9.cs (C9.enc l) := by rw [hl.eq]; rfl
  have hll : l.length = 416 := by
   have : X.data.toList.length = 836 := by simpa using hs
   rw [hX, C9.cs_len, C9.enc_len] at this
   omega
  have hz : V10.misL X.data.toList (C9.enc l) = 0 := by rw [hX]; exact V10.misL_self _
  have hu : V10.unrL X.data.toList = 0 := by rw [hX]; exact V10.unrL_cs _
  obtain ⟨e1, e2, _⟩ := hg.near (b := l) hs hll (by omega)
  subst e1
  exact ⟨hg.str, by rw [e2, hz]; rfl⟩
 ·obtain ⟨_, e⟩ := h2.2 (fun l hl => hc ⟨l, hl⟩)
  omega
theorem inner {f : Fr} {W X : ByteArray} (hv : Valid f) (hW : Word f W) (hs : X.size = 836) (ho : X.data.toList.all C9.okC = true) (ha : Apart X.data.toList (C9.enc (bitsOf W))) {F : Fr} {d u n k : Int} (h : InQ X F d u n k) :
  F = f ∧ d = (V10.misL X.data.toList (C9.enc (bitsOf W)) : Int) ∧ u = (C1.unr X.data.toList : Int) ∧ n = 0 ∧ k = 0 := by
 have hw := hW.size hv
 have he := encL W hw
 have hl : X.data.toList.length = (C9.enc (bitsOf W)).length := by rw [he]; simpa using hs
 obtain ⟨g, hg⟩ := V10.good (V10.eB_ok ho (n := 416) hs) (n := 416) hs
 obtain ⟨e1, e2, _⟩ := near hg hs (b := bitsOf W) (by rw [bitsOf_len, hw]) (ha.sp hl)
 subst e1
 have hby : byB X = W := by
  unfold byB
  rw [hg.str, sb_bitsOf]
  show (⟨(C1.tbS (C1.fromB W.data.toList)).toArray⟩ : ByteArray) = W
  rw [C1.tbS_fromB]
 obtain ⟨S, m, j, h1, h2, h3⟩ := h
 rw [hby] at h1
 have hel : (G7.el W).length = 52 := by rw [G7.el_len, hw]
 have hnb : ¬ G8.Bad (G7.el W).length 8 [] := by
  rw [hel]
  rintro (h | h | h | h | ⟨z, hz, _⟩)
  ·omega
  ·omega
  ·omega
  ·omega
  ·cases hz
 have hself : G8.Within (8 : Int).toNat (G7.el W) (G8.Lof []) (G7.el W) := G8.Within.self hW.cw (by decide)
 obtain ⟨rfl, e3, rfl⟩ := (h1.2 hnb).1 _ hself
 have hd0 : G8.dif (G7.el W) (G7.el W) = 0 := by
  unfold G8.dif G8.cnt
  have : (List.range (G7.el W).length).filter (G8.differ (G7.el W) (G7.el W)) = [] := by
   rw [List.filter_eq_nil_iff]
   intro i _
   unfold G8.differ
   simp
  rw [this]
  rfl
 rw [G7.str_el, hW.take hv] at h3
 obtain ⟨rfl, rfl, rfl, rfl, rfl⟩ := (h3 rfl).2 (unE_msg hv)
 exact ⟨unF_msg hv, e2, rfl, by rw [e3, hd0]; rfl, rfl⟩
end F13
namespace F13
open Go.RowKit Mem

theorem two_made (w : World) (a b : Obj) : Below w.heap.size w ((w.alloc a).alloc b) := ((Below.refl w.heap.size w).alloc (Nat.le_refl _) _).alloc (by simp) _
theorem box_cell (w : World) (cs : Array Value) (T : TypeId) (b : Obj) (i : Nat) (v : Value) (h : cs[i]? = some v) : ((w.alloc (.cells cs T)).alloc b).cell? ⟨w.heap.size, i, none⟩ = some v := by
 refine (((Below.refl (w.alloc (.cells cs T)).heap.size (w.alloc (.cells cs T))).alloc (Nat.le_refl _) b).cell (p := ⟨w.heap.size, i, none⟩) (by simp)).trans ?_
 rw [World.cell?_alloc_new]
 exact h
/-! ### a checksum of one string -/
theorem rd_one (w : World) (e : TypeId) (s : ByteArray) : Rd (w.alloc (.cells #[.string s] e)) (some ⟨w.heap.size, 0, none⟩) (strVs [s.data.toList]) := fun j hj => by
 have h0 : j = 0 := by
  have : (strVs [s.data.toList]).length = 1 := rfl
  omega
 subst h0
 refine ⟨w.heap.size, 0, rfl, by simp, ?_⟩
 rw [World.cell?_alloc_new]
 rfl
def mS (f : Fr) : ByteArray := if ckE f = 0 then ⟨(msgL f).toArray⟩ else ⟨#[]⟩
theorem mS_ok {f : Fr} (h : ckE f = 0) : mS f = ⟨(msgL f).toArray⟩ := by unfold mS; rw [if_pos h]
theorem mS_no {f : Fr} (h : ckE f ≠ 0) : mS f = ⟨#[]⟩ := by unfold mS; rw [if_neg h]
theorem app_list (a b : ByteArray) : (a ++ b).data.toList = a.data.toList ++ b.data.toList := by
 rw [ByteArray.data_append, Array.toList_append]
theorem str_eq {a b : ByteArray} (h : a.data.toList = b.data.toList) : a = b := ByteArray.ext (Array.toList_inj.1 h)
theorem vat_of_block {W : World} {g : Nat} {l : List Value} {T : TypeId} (h : W.heap[g]? = some (.cells l.toArray T (0, 0))) : VAt W g l := fun j hj => by
 refine ⟨?_, ?_⟩
 ·simp [World.cell?, h, hj]
 ·simp [World.frozen?, h]
theorem vat_alloc (w : World) (T : TypeId) (l : List Value) : VAt (w.alloc (.cells l.toArray T)) w.heap.size l := vat_of_block (World.alloc_heap_new w (.cells l.toArray T))
theorem unE_len {l : List UInt8} (h : l.length ≠ 44) : unE l = 4 ∧ unF l = zeroF := by
 have e : unE l = 4 := by unfold unE; rw [if_pos h]
 exact ⟨e, by unfold unF; rw [e]; rfl⟩
theorem unE_sum {l : List UInt8} (h : l.length = 44) (h' : K3.byL (K3.sumL (l.take 40)) ≠ l.drop 40) : unE l = 5 ∧ unF l = zeroF := by
 have e : unE l = 5 := by unfold unE; rw [if_neg (fun x => x h), if_pos h']
 exact ⟨e, by unfold unF; rw [e]; rfl⟩
theorem unE_ok {l : List UInt8} (h : l.length = 44) (h' : K3.byL (K3.sumL (l.take 40)) = l.drop 40) : unE l = ckE (frOf l) ∧ unF l = (if ckE (frOf l) = 0 then frOf l else zeroF) := by
 have e : unE l = ckE (frOf l) := by unfold unE; rw [if_neg (fun x => x h), if_neg (fun x => x h')]
 exact ⟨e, by unfold unF; rw [e]⟩
theorem ext_list (a : ByteArray) (m n : Nat) : (a.extract m n).data.toList = (a.data.toList.take n).drop m := by
 rw [ByteArray.data_extract, Array.toList_extract]
 simp [List.extract, List.drop_take]
theorem str_beq (a b : ByteArray) : (a.toList == b.toList) = decide (a.data.toList = b.data.toList) := by
 rw [ByteArray.toList_eq, ByteArray.toList_eq, Bool.eq_iff_iff, beq_iff_eq, decide_eq_true_iff]
def putN (B : Nat) : World → Nat → List Value → World
 | W, _, [] => W
 | W, k, v :: l => putN B (W.setCell ⟨B, k, none⟩ v) (k + 1) l
theorem putN_at {B : Nat} : ∀ (l : List Value) (k : Nat) (W : World) (L : List Value), VAt W B L → k + l.length ≤ L.length → VAt (putN B W k l) B (L.take k ++ l ++ L.drop (k + l.length))
 | [], k, W, L, h, _ => by
  rw [List.append_nil, List.length_nil, Nat.add_zero, List.take_append_drop]
  exact h
 | v :: l, k, W, L, h, hk => by
  have hkL : k < L.length := by rw [List.length_cons] at hk; omega
  have ih := putN_at l (k + 1) _ _ (h.set (k := k) hkL v) (by rw [List.length_set]; rw [List.length_cons] at hk; omega)
  have e1 : (L.set k v).take (k + 1) = L.take k ++ [v] := by
   rw [List.take_succ_eq_append_getElem (by rw [List.length_set]; exact hkL), List.take_set_of_le (Nat.le_refl k), List.getElem_set_self]
  have e2 : (L.set k v).drop (k + 1 + l.length) = L.drop (k + (v :: l).length) := by
   rw [List.drop_set_of_lt (by omega), List.length_cons]
   congr 1
   omega
  rw [e1, e2, List.append_assoc (L.take k)] at ih
  exact ih
theorem putN_all {B : Nat} {l : List Value} {W : World} {L : List Value} (h : VAt W B L) (hl : l.length = L.length) : VAt (putN B W 0 l) B l := by
 have := putN_at l 0 W L h (by omega)
 rwa [List.take_zero, List.nil_append, List.drop_of_length_le (by omega), List.append_nil] at this
theorem putN_below {X B : Nat} {w : World} (hB : X ≤ B) : ∀ (l : List Value) (k : Nat) (W : World), Below X w W → Below X w (putN B W k l)
 | [], _, _, h => h
 | v :: l, k, W, h => putN_below hB l (k + 1) _ (h.setCell (p := ⟨B, k, none⟩) hB v)
structure Nine (W : World) (B : Nat) (f : Fr) : Prop where
 c0 : W.cell? ⟨B, 0, none⟩ = some (.int .i64 f.kind)
 c1 : W.cell? ⟨B, 1, none⟩ = some (.int .i64 f.reel)
 c2 : W.cell? ⟨B, 2, none⟩ = some (.int .i64 f.sess)
 c3 : W.cell? ⟨B, 3, none⟩ = some (.int .i64 f.idx)
 c4 : W.cell? ⟨B, 4, none⟩ = some (.int .i64 f.len)
 c5 : W.cell? ⟨B, 5, none⟩ = some (.int .i64 f.data)
 c6 : W.cell? ⟨B, 6, none⟩ = some (.int .i64 f.spare)
 c7 : W.cell? ⟨B, 7, none⟩ = some (.int .u32 (f.arch.toNat : Int))
 c8 : W.cell? ⟨B, 8, none⟩ = some (.string f.pay)
structure Nine0 (W : World) (B : Nat) : Prop where
 z0 : W.frozen? ⟨B, 0, none⟩ = false
 z1 : W.frozen? ⟨B, 1, none⟩ = false
 z2 : W.frozen? ⟨B, 2, none⟩ = false
 z3 : W.frozen? ⟨B, 3, none⟩ = false
 z4 : W.frozen? ⟨B, 4, none⟩ = false
 z5 : W.frozen? ⟨B, 5, none⟩ = false
 z6 : W.frozen? ⟨B, 6, none⟩ = false
 z7 : W.frozen? ⟨B, 7, none⟩ = false
 z8 : W.frozen? ⟨B, 8, none⟩ = false
theorem nine_of {W : World} {B : Nat} {f : Fr} (h : VAt W B f.cells.toList) : Nine W B f ∧ Nine0 W B :=
 ⟨⟨(h 0 (show 0 < 9 by decide)).1, (h 1 (show 1 < 9 by decide)).1, (h 2 (show 2 < 9 by decide)).1, (h 3 (show 3 < 9 by decide)).1, (h 4 (show 4 < 9 by decide)).1, (h 5 (show 5 < 9 by decide)).1, (h 6 (show 6 < 9 by decide)).1, (h 7 (show 7 < 9 by decide)).1, (h 8 (show 8 < 9 by decide)).1⟩,
  ⟨(h 0 (show 0 < 9 by decide)).2, (h 1 (show 1 < 9 by decide)).2, (h 2 (show 2 < 9 by decide)).2, (h 3 (show 3 < 9 by decide)).2, (h 4 (show 4 < 9 by decide)).2, (h 5 (show 5 < 9 by decide)).2, (h 6 (show 6 < 9 by decide)).2, (h 7 (show 7 < 9 by decide)).2, (h 8 (show 8 < 9 by decide)).2⟩⟩
structure Cells9 (W : World) (B : Nat) (v0 v1 v2 v3 v4 v5 v6 v7 v8 : Value) : Prop where
 c0 : W.cell? ⟨B, 0, none⟩ = some v0
 c1 : W.cell? ⟨B, 1, none⟩ = some v1
 c2 : W.cell? ⟨B, 2, none⟩ = some v2
 c3 : W.cell? ⟨B, 3, none⟩ = some v3
 c4 : W.cell? ⟨B, 4, none⟩ = some v4
 c5 : W.cell? ⟨B, 5, none⟩ = some v5
 c6 : W.cell? ⟨B, 6, none⟩ = some v6
 c7 : W.cell? ⟨B, 7, none⟩ = some v7
 c8 : W.cell? ⟨B, 8, none⟩ = some v8
 z0 : W.frozen? ⟨B, 0, none⟩ = false
 z1 : W.frozen? ⟨B, 1, none⟩ = false
 z2 : W.frozen? ⟨B, 2, none⟩ = false
 z3 : W.frozen? ⟨B, 3, none⟩ = false
 z4 : W.frozen? ⟨B, 4, none⟩ = false
 z5 : W.frozen? ⟨B, 5, none⟩ = false
 z6 : W.frozen? ⟨B, 6, none⟩ = false
 z7 : W.frozen? ⟨B, 7, none⟩ = false
 z8 : W.frozen? ⟨B, 8, none⟩ = false
theorem cells9 {W : World} {B : Nat} {v0 v1 v2 v3 v4 v5 v6 v7 v8 : Value} (h : VAt W B [v0, v1, v2, v3, v4, v5, v6, v7, v8]) : Cells9 W B v0 v1 v2 v3 v4 v5 v6 v7 v8 :=
 ⟨(h 0 (show 0 < 9 by decide)).1, (h 1 (show 1 < 9 by decide)).1, (h 2 (show 2 < 9 by decide)).1, (h 3 (show 3 < 9 by decide)).1, (h 4 (show 4 < 9 by decide)).1, (h 5 (show 5 < 9 by decide)).1, (h 6 (show 6 < 9 by decide)).1, (h 7 (show 7 < 9 by decide)).1, (h 8 (show 8 < 9 by decide)).1,
  (h 0 (show 0 < 9 by decide)).2, (h 1 (show 1 < 9 by decide)).2, (h 2 (show 2 < 9 by decide)).2, (h 3 (show 3 < 9 by decide)).2, (h 4 (show 4 < 9 by decide)).2, (h 5 (show 5 < 9 by decide)).2, (h 6 (show 6 < 9 by decide)).2, (h 7 (show 7 < 9 by decide)).2, (h 8 (show 8 < 9 by decide)).2⟩
structure Cells3 (W : World) (B : Nat) (v0 v1 v2 : Value) : Prop where
 c0 : W.cell? ⟨B, 0, none⟩ = some v0
 c1 : W.cell? ⟨B, 1, none⟩ = some v1
 c2 : W.cell? ⟨B, 2, none⟩ = some v2
 z0 : W.frozen? ⟨B, 0, none⟩ = false
 z1 : W.frozen? ⟨B, 1, none⟩ = false
 z2 : W.frozen? ⟨B, 2, none⟩ = false
theorem cells3 {W : World} {B : Nat} {v0 v1 v2 : Value} (h : VAt W B [v0, v1, v2]) : Cells3 W B v0 v1 v2 :=
 ⟨(h 0 (show 0 < 3 by decide)).1, (h 1 (show 1 < 3 by decide)).1, (h 2 (show 2 < 3 by decide)).1, (h 0 (show 0 < 3 by decide)).2, (h 1 (show 1 < 3 by decide)).2, (h 2 (show 2 < 3 by decide)).2⟩
theorem putN_far {B C : Nat} (hne : C ≠ B) {L : List Value} : ∀ (l : List Value) (k : Nat) (W : World), VAt W B L → VAt (putN C W k l) B L
 | [], _, _, h => h
 | v :: l, k, W, h => putN_far hne l (k + 1) _ (h.far hne v)
theorem wrote {W w : World} {B C X : Nat} {L9 L3 l9 l3 : List Value} (h9 : VAt W B L9) (h3 : VAt W C L3) (e9 : l9.length = L9.length) (e3 : l3.length = L3.length) (hne : B ≠ C) (hb : Below X w W) (hX : X ≤ B) (hX' : X ≤ C) :
  VAt (putN C (putN B W 0 l9) 0 l3) B l9 ∧ VAt (putN C (putN B W 0 l9) 0 l3) C l3 ∧ Below X w (putN C (putN B W 0 l9) 0 l3) :=
 ⟨putN_far (Ne.symm hne) l3 0 _ (putN_all h9 e9), putN_all (putN_far hne l9 0 _ h3) e3, putN_below hX' l3 0 _ (putN_below hX l9 0 _ hb)⟩
theorem bt_fit (l : List UInt8) (i : Nat) : 0 ≤ bt l i ∧ bt l i ≤ 255 := by
 unfold bt
 have := (l.getD i 0).toNat_lt
 omega
structure Bd (l : List UInt8) (n0 n1 n2 n3 n4 n5 n6 n7 n8 n9 na nb d1 d2 : Int) : Prop where
 e0 : bt l 0 = n0
 e1 : bt l 1 = n1
 e2 : bt l 2 = n2
 e3 : bt l 3 = n3
 e4 : bt l 4 = n4
 e5 : bt l 5 = n5
 e6 : bt l 6 = n6
 e7 : bt l 7 = n7
 e8 : bt l 8 = n8
 e9 : bt l 9 = n9
 ea : bt l 10 = na
 eb : bt l 11 = nb
 q1 : n7.tdiv 16 = d1
 q1' : n7 / 16 = d1
 q2 : n7.tmod 16 = d2
 q2' : n7 % 16 = d2
 b2 : 0 ≤ n2 ∧ n2 ≤ 255
 b3 : 0 ≤ n3 ∧ n3 ≤ 255
 b4 : 0 ≤ n4 ∧ n4 ≤ 255
 b5 : 0 ≤ n5 ∧ n5 ≤ 255
 b7 : 0 ≤ n7 ∧ n7 ≤ 255
 b8 : 0 ≤ n8 ∧ n8 ≤ 255
 b9 : 0 ≤ n9 ∧ n9 ≤ 255
 ba : 0 ≤ na ∧ na ≤ 255
 bb : 0 ≤ nb ∧ nb ≤ 255
 fr : (frOf l).cells = #[.int .i64 n0, .int .i64 n1, .int .i64 (256 * n2 + n3), .int .i64 (256 * n4 + n5), .int .i64 n6, .int .i64 d1, .int .i64 d2, .int .u32 (((n8 * 256 + n9) * 256 + na) * 256 + nb), .string ⟨((l.drop 12).take 28).toArray⟩]
theorem bd_of (l : List UInt8) : ∃ n0 n1 n2 n3 n4 n5 n6 n7 n8 n9 na nb d1 d2, Bd l n0 n1 n2 n3 n4 n5 n6 n7 n8 n9 na nb d1 d2 := by
 have h7 := bt_fit l 7
 have h8 := bt_fit l 8
 have h9 := bt_fit l 9
 have ha := bt_fit l 10
 have hb := bt_fit l 11
 refine ⟨_, _, _, _, _, _, _, _, _, _, _, _, bt l 7 / 16, bt l 7 % 16, rfl, rfl, rfl, rfl, rfl, rfl, rfl, rfl, rfl, rfl, rfl, rfl, Int.tdiv_eq_ediv_of_nonneg h7.1, rfl, Int.tmod_eq_emod_of_nonneg h7.1, rfl, bt_fit l 2, bt_fit l 3, bt_fit l 4, bt_fit l 5, h7, h8, h9, ha, hb, ?_⟩
 have e : ((BitVec.ofInt 32 (((bt l 8 * 256 + bt l 9) * 256 + bt l 10) * 256 + bt l 11)).toNat : Int) = ((bt l 8 * 256 + bt l 9) * 256 + bt l 10) * 256 + bt l 11 := by
  rw [BitVec.toNat_ofInt]
  omega
 unfold Fr.cells frOf
 dsimp only
 rw [e]
end F13
namespace F13
open Go.RowKit Mem

structure Fit (f : Fr) : Prop where
 kind : -9223372036854775808 ≤ f.kind ∧ f.kind ≤ 9223372036854775807
 reel : -9223372036854775808 ≤ f.reel ∧ f.reel ≤ 9223372036854775807
 sess : -9223372036854775808 ≤ f.sess ∧ f.sess ≤ 9223372036854775807
 idx : -9223372036854775808 ≤ f.idx ∧ f.idx ≤ 9223372036854775807
 len : -9223372036854775808 ≤ f.len ∧ f.len ≤ 9223372036854775807
 data : -9223372036854775808 ≤ f.data ∧ f.data ≤ 9223372036854775807
 spare : -9223372036854775808 ≤ f.spare ∧ f.spare ≤ 9223372036854775807
 size : f.pay.size ≤ 9223372036854775807
def nbl (n m k : Nat) : List UInt8 := (List.range m).map fun j => if m ≤ j + k then UInt8.ofNat (n / 256 ^ (m - 1 - j)) else 0
theorem nbl_len (n m k : Nat) : (nbl n m k).length = m := by simp [nbl]
theorem nbl_zero (n m : Nat) : nbl n m 0 = List.replicate m 0 := by
 apply List.ext_getElem
 ·simp [nbl]
 ·intro j h1 h2
  have hj : j < m := by simpa [nbl] using h1
  simp [nbl]
  omega
theorem nbl_step (n m k q : Nat) (h : k < m) (hq : m - 1 - k = q) : (nbl n m k).set q (UInt8.ofNat (n / 256 ^ k)) = nbl n m (k + 1) := by
 subst hq
 apply List.ext_getElem
 ·simp [nbl]
 ·intro j h1 h2
  have hj : j < m := by simpa [nbl] using h2
  rw [List.getElem_set]
  simp only [nbl, List.getElem_map, List.getElem_range]
  by_cases e : m - 1 - k = j
  ·rw [if_pos e, if_pos (by omega), show m - 1 - j = k by omega]
  ·rw [if_neg e]
   by_cases e2 : m ≤ j + k
   ·rw [if_pos e2, if_pos (by omega)]
   ·rw [if_neg e2, if_neg (by omega)]
def nbS (n m : Nat) : ByteArray := ⟨(nbl n m m).toArray⟩
theorem ofNat_eq {a b : Nat} (h : a % 256 = b % 256) : UInt8.ofNat a = UInt8.ofNat b := by
 rw [← UInt8.toNat_inj, UInt8.toNat_ofNat', UInt8.toNat_ofNat']
 exact h
theorem nb_one {n : Int} (h : 0 ≤ n) : nbl n.toNat 1 1 = [u8 n] := by
 show [UInt8.ofNat (n.toNat / 256 ^ 0)] = [UInt8.ofNat n.toNat]
 rw [Nat.pow_zero, Nat.div_one]
theorem nb_two {n : Int} (h : 0 ≤ n) : nbl n.toNat 2 2 = [u8 (n / 256), u8 (n % 256)] := by
 show [UInt8.ofNat (n.toNat / 256 ^ 1), UInt8.ofNat (n.toNat / 256 ^ 0)] = [UInt8.ofNat (n / 256).toNat, UInt8.ofNat (n % 256).toNat]
 rw [ofNat_eq (show n.toNat / 256 ^ 1 % 256 = (n / 256).toNat % 256 by omega), ofNat_eq (show n.toNat / 256 ^ 0 % 256 = (n % 256).toNat % 256 by omega)]
theorem nb_four (x : K3.R) : nbl x.toNat 4 4 = K3.byL x := by
 show [UInt8.ofNat (x.toNat / 256 ^ 3), UInt8.ofNat (x.toNat / 256 ^ 2), UInt8.ofNat (x.toNat / 256 ^ 1), UInt8.ofNat (x.toNat / 256 ^ 0)] = [K3.nb x 24, K3.nb x 16, K3.nb x 8, K3.nb x 0]
 have e : ∀ a k : Nat, a % 256 = x.toNat / 2 ^ k % 256 → UInt8.ofNat a = K3.nb x k := fun a k h => by
  rw [← UInt8.toNat_inj, UInt8.toNat_ofNat', K3.nb_toNat]
  exact h
 rw [e (x.toNat / 256 ^ 3) 24 (by omega), e (x.toNat / 256 ^ 2) 16 (by omega), e (x.toNat / 256 ^ 1) 8 (by omega), e (x.toNat / 256 ^ 0) 0 (by omega)]
theorem hd_parts {f : Fr} (h : Valid f) : nbl f.kind.toNat 1 1 ++ nbl f.reel.toNat 1 1 ++ nbl f.sess.toNat 2 2 ++ nbl f.idx.toNat 2 2 ++ nbl f.len.toNat 1 1 ++ nbl (16 * f.data + f.spare).toNat 1 1 ++ nbl f.arch.toNat 4 4 = hdL f := by
 have h1 := h.kind
 have h2 := h.data
 have h3 := h.spare
 have h4 := h.reel
 have h5 := h.sess
 have h6 := h.idx
 have h7 := h.len
 rw [nb_one (by omega), nb_one (by omega), nb_two (by omega), nb_two (by omega), nb_one (by omega), nb_one (by omega), nb_four]
 rfl
def vlN (l : List UInt8) : Nat := l.foldl (fun n b => n * 256 + b.toNat) 0
theorem vlN_snoc (l : List UInt8) (b : UInt8) : vlN (l ++ [b]) = vlN l * 256 + b.toNat := by simp [vlN]
theorem vl_lt_from : ∀ (l : List UInt8) (a m : Nat), a < 256 ^ m → l.foldl (fun n b => n * 256 + b.toNat) a < 256 ^ (m + l.length)
 | [], a, m, h => h
 | b :: l, a, m, h => by
  have hb := b.toNat_lt
  have := vl_lt_from l (a * 256 + b.toNat) (m + 1) (by rw [Nat.pow_succ]; omega)
  rw [List.foldl_cons, List.length_cons, show m + (l.length + 1) = m + 1 + l.length by omega]
  exact this
theorem vlN_lt (l : List UInt8) : vlN l < 256 ^ l.length := by
 have := vl_lt_from l 0 0 (by decide)
 rwa [Nat.zero_add] at this
theorem or_byte (v : Nat) (b : UInt8) : v * 256 ||| b.toNat = v * 256 + b.toNat := by
 have h := Nat.shiftLeft_add_eq_or_of_lt (show b.toNat < 2 ^ 8 from b.toNat_lt) v
 rw [Nat.shiftLeft_eq] at h
 exact h.symm
theorem vl_one {l : List UInt8} {i : Nat} (h : i < l.length) : (vlN ((l.take (i + 1)).drop i) : Int) = bt l i := by
 have e : (l.take (i + 1)).drop i = [l[i]] := by
  rw [← List.take_append_getElem (show i < l.length from h), List.drop_left' (by rw [List.length_take]; omega)]
 rw [e]
 show ((0 * 256 + l[i].toNat : Nat) : Int) = ((l.getD i 0).toNat : Int)
 rw [List.getD_eq_getElem?_getD, List.getElem?_eq_getElem h]
 show ((0 * 256 + l[i].toNat : Nat) : Int) = (l[i].toNat : Int)
 omega
theorem cut_succ {l : List UInt8} {i j : Nat} (hij : i ≤ j) (h : j < l.length) : (l.take (j + 1)).drop i = (l.take j).drop i ++ [l[j]] := by
 rw [← List.take_append_getElem (show j < l.length from h), List.drop_append_of_le_length (by rw [List.length_take]; omega)]
theorem vl_succ {l : List UInt8} {i j : Nat} (hij : i ≤ j) (h : j < l.length) : (vlN ((l.take (j + 1)).drop i) : Int) = (vlN ((l.take j).drop i) : Int) * 256 + bt l j := by
 rw [cut_succ hij h, vlN_snoc]
 unfold bt
 rw [List.getD_eq_getElem?_getD, List.getElem?_eq_getElem h]
 show ((vlN ((l.take j).drop i) * 256 + l[j].toNat : Nat) : Int) = (vlN ((l.take j).drop i) : Int) * 256 + (l[j].toNat : Int)
 omega
theorem dw_nil : ∀ (l : List UInt8), l.dropWhile (· == 0) = [] ↔ zerosB l = true
 | [] => ⟨fun _ => rfl, fun _ => rfl⟩
 | c :: l => by
  unfold zerosB
  rw [List.all_cons, List.dropWhile_cons]
  by_cases h : (c == 0) = true
  ·rw [if_pos h, h, Bool.true_and]
   exact dw_nil l
  ·rw [if_neg h]
   constructor
   ·intro e; cases e
   ·intro e
    rw [Bool.and_eq_true] at e
    exact absurd e.1 h
theorem trim_nil (l : List UInt8) : Lib.trimB l 0 = [] ↔ zerosB l = true := by
 unfold Lib.trimB Lib.trimLeftB Lib.trimRightB
 rw [dw_nil]
 have hr : ∀ l : List UInt8, zerosB l.reverse = zerosB l := fun l => by
  unfold zerosB
  rw [List.all_reverse]
 rw [hr]
 constructor
 ·intro h
  rw [← hr, ← dw_nil]
  by_cases e : l.reverse.dropWhile (· == 0) = []
  ·exact e
  ·exfalso
   have hh := List.head_dropWhile_not (· == 0) (l := l.reverse) e
   have := List.all_eq_true.1 h _ (List.head_mem e)
   rw [this] at hh
   cases hh
 ·intro h
  rw [← hr, ← dw_nil] at h
  rw [h]
  rfl
end F13
end Go.Proofs.YtiodkllckcpinaaGreatDoor
