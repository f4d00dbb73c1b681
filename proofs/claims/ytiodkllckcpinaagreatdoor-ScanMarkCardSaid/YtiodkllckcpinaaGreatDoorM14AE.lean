/- Facts and contracts that the walks of this layer use, merged: I11Math, I11Con, I11Mk, I11Own1, I11Own2, I11RefOrd, I11Ref2. -/
import Derived.Calls
import Derived.Test.YtiodkllckcpinaaGreatDoorM14AA
import Derived.Test.YtiodkllckcpinaaGreatDoorRows
import Derived.Lib.Hide
import Derived.WalkKit
import Derived.Laws.MakeOwn
import Derived.RangeFuncRecord
import Derived.BigQuiet
import Derived.Deep.QuietTactic
import Derived.Deep.RegionHeld3
import Derived.WalkSpells
import Derived.WalkLawsBesides
import Derived.Laws.AppendOwn
set_option linter.unusedVariables false
set_option linter.unusedSimpArgs false
set_option maxRecDepth 100000
namespace Go.Proofs.YtiodkllckcpinaaGreatDoor
namespace I11
def pos (n r i : Nat) : Nat := (i % r) * (n / r) + min (i % r) (n % r) + i / r
def st (n r p : Nat) : Nat := p * (n / r) + min p (n % r)
def ln (n r p : Nat) : Nat := n / r + if p < n % r then 1 else 0
theorem pos_eq (n r i : Nat) : pos n r i = st n r (i % r) + i / r := rfl
theorem pos_at (n r p q : Nat) (h : p < r) : pos n r (q * r + p) = st n r p + q := by
 have e1 : (q * r + p) % r = p := by rw [Nat.mul_comm, Nat.mul_add_mod]; exact Nat.mod_eq_of_lt h
 have e2 : (q * r + p) / r = q := by rw [Nat.mul_comm, Nat.mul_add_div (by omega), Nat.div_eq_of_lt h, Nat.add_zero]
 rw [pos_eq, e1, e2]
theorem st_zero (n r : Nat) : st n r 0 = 0 := by simp [st]
theorem st_all (n r : Nat) (h : 0 < r) : st n r r = n := by
 have := Nat.mod_lt n h
 have := Nat.div_add_mod n r
 unfold st
 rw [Nat.min_eq_right (by omega)]
 exact this
theorem st_succ (n r p : Nat) : st n r (p + 1) = st n r p + ln n r p := by
 unfold st ln
 rw [Nat.add_mul, Nat.one_mul]
 split <;> omega
theorem st_le (n r : Nat) {p s : Nat} (h : p ≤ s) : st n r p ≤ st n r s := by
 unfold st
 have := Nat.mul_le_mul_right (n / r) h
 omega
theorem in_row (n r p q : Nat) (h : p < r) : q * r + p < n ↔ q < ln n r p := by
 have hm := Nat.mod_lt n (show 0 < r by omega)
 have hd := Nat.div_add_mod n r
 rw [Nat.mul_comm] at hd
 unfold ln
 obtain ⟨N, hN⟩ : ∃ N, n / r = N := ⟨_, rfl⟩
 obtain ⟨M, hM⟩ : ∃ M, n % r = M := ⟨_, rfl⟩
 rw [hN, hM] at hd ⊢
 rw [hM] at hm
 by_cases h1 : q < N
 ·have := Nat.mul_le_mul_right r (show q + 1 ≤ N from h1)
  rw [Nat.add_mul, Nat.one_mul] at this
  constructor <;> intro _ <;> omega
 ·by_cases h2 : q = N
  ·subst h2
   constructor
   ·intro _
    rw [if_pos (by omega)]
    omega
   ·intro h3
    split at h3 <;> omega
  ·have := Nat.mul_le_mul_right r (show N + 1 ≤ q by omega)
   rw [Nat.add_mul, Nat.one_mul] at this
   constructor
   ·intro _; omega
   ·intro h3
    split at h3 <;> omega
theorem split_at (r i : Nat) (h : 0 < r) : ∃ p q, p < r ∧ i = q * r + p := ⟨i % r, i / r, Nat.mod_lt _ h, by rw [Nat.mul_comm]; exact (Nat.div_add_mod i r).symm⟩
theorem pos_lt {n r i : Nat} (hr : 0 < r) (h : i < n) : pos n r i < n := by
 obtain ⟨p, q, hp, rfl⟩ := split_at r i hr
 rw [pos_at n r p q hp]
 have h1 := (in_row n r p q hp).1 h
 have h2 := st_succ n r p
 have h3 := st_le n r (show p + 1 ≤ r from hp)
 rw [st_all n r hr] at h3
 omega
theorem pos_inj {n r i j : Nat} (hr : 0 < r) (hi : i < n) (hj : j < n) (h : pos n r i = pos n r j) : i = j := by
 obtain ⟨p, q, hp, rfl⟩ := split_at r i hr
 obtain ⟨p', q', hp', rfl⟩ := split_at r j hr
 rw [pos_at n r p q hp, pos_at n r p' q' hp'] at h
 have h1 := (in_row n r p q hp).1 hi
 have h1' := (in_row n r p' q' hp').1 hj
 have h2 := st_succ n r p
 have h2' := st_succ n r p'
 have : p = p' := by
  rcases Nat.lt_trichotomy p p' with h3 | h3 | h3
  ·have := st_le n r (show p + 1 ≤ p' from h3); omega
  ·exact h3
  ·have := st_le n r (show p' + 1 ≤ p from h3); omega
 subst this
 have : q = q' := by omega
 rw [this]
theorem row_of (n r k : Nat) : ∀ m, k < st n r m → ∃ p, p < m ∧ st n r p ≤ k ∧ k < st n r (p + 1)
 | 0, h => by rw [st_zero] at h; omega
 | m + 1, h => by
  by_cases h1 : k < st n r m
  ·obtain ⟨p, hp, h2⟩ := row_of n r k m h1
   exact ⟨p, by omega, h2⟩
  ·exact ⟨m, by omega, by omega, h⟩
theorem pos_sur {n r k : Nat} (hr : 0 < r) (h : k < n) : ∃ i, i < n ∧ pos n r i = k := by
 obtain ⟨p, hp, h1, h2⟩ := row_of n r k r (by rw [st_all n r hr]; exact h)
 rw [st_succ] at h2
 refine ⟨(k - st n r p) * r + p, (in_row n r p _ hp).2 (by omega), ?_⟩
 rw [pos_at n r p _ hp]
 omega
theorem st_end {n r p : Nat} (hr : 0 < r) (h1 : p ≤ r) (h2 : p ≤ n) (h : ¬ (p < r ∧ p < n)) : st n r p = n := by
 by_cases e : p = r
 ·subst e; exact st_all n p hr
 ·obtain rfl : p = n := by omega
  unfold st
  rw [Nat.div_eq_of_lt (by omega), Nat.mod_eq_of_lt (show p < r by omega), Nat.mul_zero, Nat.min_self, Nat.zero_add]
theorem spread {n r i j : Nat} (hr : 0 < r) (hi : i < n) (hj : j < n) (hne : i ≠ j) (h : pos n r i < pos n r j + (n / r - 1)) (h' : pos n r j < pos n r i + (n / r - 1)) : i + r ≤ j ∨ j + r ≤ i := by
 obtain ⟨p, q, hp, rfl⟩ := split_at r i hr
 obtain ⟨p', q', hp', rfl⟩ := split_at r j hr
 rw [pos_at n r p q hp, pos_at n r p' q' hp'] at h h'
 have key : ∀ p q p' q', p < r → p' < r → p < p' → st n r p' + q' < st n r p + q + (n / r - 1) → q * r + p + r ≤ q' * r + p' ∨ q' * r + p' + r ≤ q * r + p := by
  intro p q p' q' hp hp' hlt h
  have h1 := st_le n r (show p + 1 ≤ p' from hlt)
  have h2 := st_succ n r p
  have h3 : n / r ≤ ln n r p := by unfold ln; omega
  have h4 : q' + 2 ≤ q := by omega
  have h5 := Nat.mul_le_mul_right r h4
  rw [Nat.add_mul] at h5
  omega
 rcases Nat.lt_trichotomy p p' with h3 | h3 | h3
 ·exact key p q p' q' hp hp' h3 h'
 ·subst h3
  rcases Nat.lt_trichotomy q q' with h4 | h4 | h4
  ·have := Nat.mul_le_mul_right r (show q + 1 ≤ q' from h4)
   rw [Nat.add_mul] at this
   omega
  ·subst h4; exact absurd rfl hne
  ·have := Nat.mul_le_mul_right r (show q' + 1 ≤ q from h4)
   rw [Nat.add_mul] at this
   omega
 ·exact (key p' q' p q hp' hp h3 h).symm
def mv (f g : Nat → Nat) (l : List UInt8) (n : Nat) : Nat → List UInt8
 | 0 => List.replicate n 0
 | k + 1 => (mv f g l n k).set (g k) (l.getD (f k) 0)
theorem mv_len (f g : Nat → Nat) (l : List UInt8) (n : Nat) : ∀ k, (mv f g l n k).length = n
 | 0 => by simp [mv]
 | k + 1 => by rw [mv, List.length_set]; exact mv_len f g l n k
theorem getD_of {l : List UInt8} {i : Nat} (h : i < l.length) : l.getD i 0 = l[i] := by
 rw [List.getD_eq_getElem?_getD, List.getElem?_eq_getElem h]; rfl
theorem mv_get (f g : Nat → Nat) (l : List UInt8) (n : Nat) (hg : ∀ i, i < n → g i < n) (hi : ∀ i j, i < n → j < n → g i = g j → i = j) : ∀ k, k ≤ n → ∀ i, i < k → (mv f g l n k).getD (g i) 0 = l.getD (f i) 0
 | 0, _, i, h => by omega
 | k + 1, hk, i, h => by
  have hl := mv_len f g l n (k + 1)
  rw [getD_of (by rw [hl]; exact hg i (by omega))]
  simp only [mv]
  rw [List.getElem_set]
  by_cases e : g k = g i
  ·rw [if_pos e]
   have := hi k i (by omega) (by omega) e
   rw [this]
  ·rw [if_neg e, ← getD_of (by rw [mv_len]; exact hg i (by omega))]
   refine mv_get f g l n hg hi k (by omega) i ?_
   have : i ≠ k := fun x => e (by rw [x])
   omega
def il (r : Nat) (l : List UInt8) : List UInt8 := mv id (pos l.length r) l l.length l.length
def dl (r : Nat) (l : List UInt8) : List UInt8 := mv (pos l.length r) id l l.length l.length
theorem il_len (r : Nat) (l : List UInt8) : (il r l).length = l.length := mv_len _ _ _ _ _
theorem dl_len (r : Nat) (l : List UInt8) : (dl r l).length = l.length := mv_len _ _ _ _ _
theorem il_at {r : Nat} (hr : 0 < r) (l : List UInt8) {i : Nat} (h : i < l.length) : (il r l).getD (pos l.length r i) 0 = l.getD i 0 :=
 mv_get id (pos l.length r) l l.length (fun _ h => pos_lt hr h) (fun _ _ h1 h2 h3 => pos_inj hr h1 h2 h3) l.length (Nat.le_refl _) i h
theorem dl_at (r : Nat) (l : List UInt8) {i : Nat} (h : i < l.length) : (dl r l).getD i 0 = l.getD (pos l.length r i) 0 :=
 mv_get (pos l.length r) id l l.length (fun _ h => h) (fun _ _ _ _ h => h) l.length (Nat.le_refl _) i h
theorem eq_getD {a b : List UInt8} (hl : a.length = b.length) (h : ∀ i, i < a.length → a.getD i 0 = b.getD i 0) : a = b := by
 refine List.ext_getElem hl fun i h1 h2 => ?_
 have := h i h1
 rwa [getD_of h1, getD_of h2] at this
theorem il_only {r : Nat} (hr : 0 < r) (l m : List UInt8) (hl : m.length = l.length) (h : ∀ i, i < l.length → m.getD (pos l.length r i) 0 = l.getD i 0) : m = il r l := by
 refine eq_getD (by rw [hl, il_len]) fun k hk => ?_
 obtain ⟨i, hi, rfl⟩ := pos_sur hr (n := l.length) (k := k) (by omega)
 rw [h i hi, il_at hr l hi]
theorem dl_only (r : Nat) (l m : List UInt8) (hl : m.length = l.length) (h : ∀ i, i < l.length → m.getD i 0 = l.getD (pos l.length r i) 0) : m = dl r l := by
 refine eq_getD (by rw [hl, dl_len]) fun k hk => ?_
 rw [h k (by omega), dl_at r l (by omega)]
theorem dl_il {r : Nat} (hr : 0 < r) (l : List UInt8) : dl r (il r l) = l := by
 refine (dl_only r _ _ (by rw [il_len]) fun i hi => ?_).symm
 rw [il_len] at hi ⊢
 exact (il_at hr l hi).symm
theorem il_dl {r : Nat} (hr : 0 < r) (l : List UInt8) : il r (dl r l) = l := by
 refine (il_only hr _ _ (by rw [dl_len]) fun i hi => ?_).symm
 rw [dl_len] at hi ⊢
 exact (dl_at r l hi).symm
theorem places {n r : Nat} (hr : 0 < r) : ((List.range n).map (pos n r)).Perm (List.range n) := by
 rw [List.perm_iff_count]
 intro k
 have hnd : ((List.range n).map (pos n r)).Nodup := by
  refine List.Pairwise.map _ ?_ (List.Pairwise.and_mem.1 (List.nodup_range (n := n)))
  intro a b ⟨ha, hb, hab⟩ e
  exact hab (pos_inj hr (List.mem_range.1 ha) (List.mem_range.1 hb) e)
 rw [hnd.count, List.nodup_range.count]
 refine ite_congr (propext ⟨fun h => ?_, fun h => ?_⟩) (fun _ => rfl) (fun _ => rfl)
 ·obtain ⟨i, hi, rfl⟩ := List.mem_map.1 h
  exact List.mem_range.2 (pos_lt hr (List.mem_range.1 hi))
 ·obtain ⟨i, hi, rfl⟩ := pos_sur hr (List.mem_range.1 h)
  exact List.mem_map.2 ⟨i, List.mem_range.2 hi, rfl⟩
theorem by_range {α : Type} (l : List α) (f : Nat → α) (h : ∀ i (hi : i < l.length), l[i] = f i) : l = (List.range l.length).map f := by
 refine List.ext_getElem (by simp) fun i h1 h2 => ?_
 simp [h i h1]
theorem zip_il {r : Nat} (hr : 0 < r) (a b : List UInt8) (h : a.length = b.length) : ((il r a).zip (il r b)).Perm (a.zip b) := by
 have e1 : (il r a).zip (il r b) = (List.range a.length).map fun k => ((il r a).getD k 0, (il r b).getD k 0) := by
  have := by_range ((il r a).zip (il r b)) (fun k => ((il r a).getD k 0, (il r b).getD k 0)) fun i hi => by
   rw [List.length_zip] at hi
   rw [List.getElem_zip, getD_of (show i < (il r a).length by omega), getD_of (show i < (il r b).length by omega)]
  rwa [List.length_zip, il_len, il_len, ← h, Nat.min_self] at this
 have e2 : a.zip b = ((List.range a.length).map (pos a.length r)).map fun k => ((il r a).getD k 0, (il r b).getD k 0) := by
  have := by_range (a.zip b) (fun i => ((il r a).getD (pos a.length r i) 0, (il r b).getD (pos a.length r i) 0)) fun i hi => by
   rw [List.length_zip] at hi
   have h2 := il_at hr b (i := i) (by omega)
   rw [← h] at h2
   rw [List.getElem_zip, il_at hr a (by omega), h2, getD_of, getD_of]
  rw [List.length_zip, ← h, Nat.min_self] at this
  rw [this, List.map_map]
  rfl
 rw [e1, e2]
 exact (places hr).symm.map _
theorem perm_il {r : Nat} (hr : 0 < r) (a : List UInt8) : (il r a).Perm a := by
 have h := (zip_il hr a a rfl).map Prod.fst
 rwa [List.map_fst_zip (Nat.le_refl _), List.map_fst_zip (Nat.le_refl _)] at h

structure Ord (n r : Nat) (l : List Nat) (k : Nat) : Prop where
 len : l.length = k
 get : ∀ j, j < k → l.getD j 0 < n ∧ pos n r (l.getD j 0) = j
theorem Ord.nil (n r : Nat) : Ord n r [] 0 := ⟨rfl, fun j h => by omega⟩
theorem Ord.snoc {n r : Nat} {l : List Nat} {k i : Nat} (h : Ord n r l k) (hi : i < n) (hp : pos n r i = k) : Ord n r (l ++ [i]) (k + 1) := by
 refine ⟨by simp [h.len], fun j hj => ?_⟩
 rw [List.getD_eq_getElem?_getD, List.getElem?_append]
 have hl := h.len
 by_cases e : j < k
 ·rw [if_pos (by omega), ← List.getD_eq_getElem?_getD]
  exact h.get j e
 ·rw [if_neg (by omega), hl, show j - k = 0 by omega]
  exact ⟨hi, by rw [show j = k by omega]; exact hp⟩
theorem Ord.back {n r : Nat} {l : List Nat} (hr : 0 < r) (h : Ord n r l n) {i : Nat} (hi : i < n) : l.getD (pos n r i) 0 = i :=
 have := h.get _ (pos_lt hr hi)
 pos_inj hr this.1 hi this.2
theorem pick {r : Nat} (hr : 0 < r) (s : List UInt8) (l : List Nat) (h : Ord s.length r l s.length) : l.map (fun i => s.getD i 0) = il r s := by
 refine il_only hr s _ (by rw [List.length_map, h.len]) fun i hi => ?_
 have hp : pos s.length r i < l.length := by rw [h.len]; exact pos_lt hr hi
 rw [getD_of (by rw [List.length_map]; exact hp), List.getElem_map]
 have := h.back hr hi
 rw [List.getD_eq_getElem?_getD, List.getElem?_eq_getElem hp] at this
 rw [show l[pos s.length r i] = i from this]
theorem lay {r : Nat} (hr : 0 < r) (s : List UInt8) (l : List Nat) (h : Ord s.length r l s.length) : mv id (fun k => l.getD k 0) s s.length s.length = dl r s := by
 refine dl_only r s _ (mv_len _ _ _ _ _) fun i hi => ?_
 have := mv_get id (fun k => l.getD k 0) s s.length (fun k hk => (h.get k hk).1) (fun a b ha hb e => by
  have h1 := (h.get a ha).2
  have h2 := (h.get b hb).2
  rw [← h1, ← h2]
  exact congrArg _ e) s.length (Nat.le_refl _) (pos s.length r i) (pos_lt hr hi)
 rwa [h.back hr hi] at this
end I11
namespace I11
open Go.RowKit Mem

def pE (r : Int) : Int := if r < 1 then 1 else 0
def iS (c : ByteArray) (r : Int) : ByteArray := if r < 1 then ⟨#[]⟩ else ⟨(il r.toNat c.data.toList).toArray⟩
def dS (c : ByteArray) (r : Int) : ByteArray := if r < 1 then ⟨#[]⟩ else ⟨(dl r.toNat c.data.toList).toArray⟩
theorem iS_at {c : ByteArray} {r : Nat} (h : 1 ≤ r) : iS c (r : Int) = ⟨(il r c.data.toList).toArray⟩ := by unfold iS; rw [if_neg (by omega)]; rfl
theorem dS_at {c : ByteArray} {r : Nat} (h : 1 ≤ r) : dS c (r : Int) = ⟨(dl r c.data.toList).toArray⟩ := by unfold dS; rw [if_neg (by omega)]; rfl
theorem p_ok {r : Nat} (h : 1 ≤ r) : pE (r : Int) = 0 := by unfold pE; rw [if_neg (by omega)]
theorem p_arg {c : ByteArray} {r : Int} (h : r < 1) : pE r = 1 ∧ iS c r = ⟨#[]⟩ ∧ dS c r = ⟨#[]⟩ := by
 unfold pE iS dS
 rw [if_pos h, if_pos h, if_pos h]
 exact ⟨rfl, rfl, rfl⟩
def Iled (c : ByteArray) (r : Int) (w : World) (e : Ending) (w' : World) : Prop := e = .returned (.tuple #[.string (iS c r), .int .i64 (pE r)]) ∧ Below w.heap.size w w'
def Dled (c : ByteArray) (r : Int) (w : World) (e : Ending) (w' : World) : Prop := e = .returned (.tuple #[.string (dS c r), .int .i64 (pE r)]) ∧ Below w.heap.size w w'
structure Parts (n r i p q N M X : Nat) : Prop where
 rem : (i : Int) % (r : Int) = (p : Int)
 rem' : (i : Int).tmod (r : Int) = (p : Int)
 quo : (i : Int) / (r : Int) = (q : Int)
 quo' : (i : Int).tdiv (r : Int) = (q : Int)
 nquo : (n : Int) / (r : Int) = (N : Int)
 nquo' : (n : Int).tdiv (r : Int) = (N : Int)
 nrem : (n : Int) % (r : Int) = (M : Int)
 nrem' : (n : Int).tmod (r : Int) = (M : Int)
 mul : (p : Int) * (N : Int) = (X : Int)
 all : X + min p M + q = pos n r i
 lt : X + min p M + q < n
 pl : p ≤ i
 ql : q ≤ i
 Nl : N ≤ n
 Ml : M ≤ n
theorem parts {n r i : Nat} (hr : 1 ≤ r) (h : i < n) : ∃ p q N M X, Parts n r i p q N M X := by
 refine ⟨i % r, i / r, n / r, n % r, (i % r) * (n / r), ?_⟩
 refine ⟨rfl, ?_, rfl, ?_, rfl, ?_, rfl, ?_, (Int.natCast_mul _ _).symm, rfl, pos_lt (by omega) h, Nat.mod_le _ _, Nat.div_le_self _ _, Nat.div_le_self _ _, Nat.mod_le _ _⟩
 ·exact Int.tmod_eq_emod_of_nonneg (by omega)
 ·exact Int.tdiv_eq_ediv_of_nonneg (by omega)
 ·exact Int.tdiv_eq_ediv_of_nonneg (by omega)
 ·exact Int.tmod_eq_emod_of_nonneg (by omega)
end I11
namespace I11
open Go.RowKit Mem

theorem info_byteI : (Tryz.prog.info? 5).map (fun i => (i.zero, i.size, i.bytes)) = some (some (.int .u8 0), 1, 1) := by kernel_rfl
theorem make_bytesI (w : World) (n : Nat) (h : n ≤ 1000000) : ∃ l : List Value, l = bys (List.replicate n 0) ∧ (Instr.makeSlice 53 (.int .i64 (n : Int)) (.int .i64 (n : Int))).run Tryz.prog w = .ok (.slice (some ⟨w.heap.size, 0, none⟩) n n) (w.alloc (.cells l.toArray 5)) := by
 obtain ⟨i0, hi, hz0, hz1, hz2⟩ := info_parts info_byteI
 have hr := run_make (P := Tryz.prog) w 53 5 i0 _ Tryz.underlying53 hi hz0 .i64 .i64 (n : Int) (n : Int) (by omega) (Int.le_refl _) (by rw [hz2]; omega) (by omega)
 simp only [Int.toNat_natCast] at hr
 rw [hz1] at hr
 refine ⟨_, rfl, ?_⟩
 rw [Nat.mul_one] at hr
 have e : (madeCells (Value.int .u8 0).cells n) = (bys (List.replicate n 0)).toArray := by
  apply Array.toList_inj.1
  apply List.ext_getElem
  ·simp [size_madeCells, bys]
  ·intro i h1 h2
   simp [madeCells, Value.cells, bys]
   rw [Nat.mod_one]
   rfl
 rw [e] at hr
 exact hr
theorem blk_bat {W : World} {g : Nat} {l : List UInt8} {T : TypeId} (h : W.heap[g]? = some (.cells (bys l).toArray T (0, 0))) : BAt W g l := fun j hj => by
 have q := bys_get l j hj
 refine ⟨?_, ?_⟩
 ·simp [World.cell?, h, q]
 ·simp [World.frozen?, h]
theorem made_at (w : World) (T : TypeId) (l : List UInt8) : BAt (w.alloc (.cells (bys l).toArray T)) w.heap.size l := blk_bat (World.alloc_heap_new w (.cells (bys l).toArray T))
end I11
namespace I11
open Go.RowKit Mem

theorem ret_two {x y x' y' : Int} (h : x = x') (h' : y = y') : Ending.returned (.tuple #[.int .i64 x, .int .i64 y]) = .returned (.tuple #[.int .i64 x', .int .i64 y']) := by rw [h, h']
set_option maxHeartbeats 2000000 in
theorem index_core (i n r : Nat) (w : World) (hr : 1 ≤ r) (hi : i < n) (hn : n ≤ 9223372036854775807) (hr2 : r ≤ 9223372036854775807) :
  Calls Tryz.prog 123 #[.int .i64 (i : Int), .int .i64 (n : Int), .int .i64 (r : Int)] w fun e w' => e = .returned (.tuple #[.int .i64 (pos n r i : Int), .int .i64 0]) ∧ ∃ k, w' = w.drewN k := by
 obtain ⟨p, q, N, M, X, hP⟩ := parts hr hi
 have e1 := hP.rem
 have e1' := hP.rem'
 have e2 := hP.quo
 have e2' := hP.quo'
 have e3 := hP.nquo
 have e3' := hP.nquo'
 have e4 := hP.nrem
 have e4' := hP.nrem'
 have e5 := hP.mul
 have pl := hP.pl
 have ql := hP.ql
 have Nl := hP.Nl
 have Ml := hP.Ml
 have hlt := hP.lt
 have hall := Lib.hid hP.all
 obtain ⟨K, hK⟩ : ∃ K, min p M = K := ⟨_, rfl⟩
 have r0 : (1 : Int) ≤ (r : Int) := by omega
 have r1 : (r : Int) ≠ 0 := by omega
 have i0 : (0 : Int) ≤ (i : Int) := by omega
 have n0 : (0 : Int) ≤ (n : Int) := by omega
 have d1 : decide ((r : Int) < 1) = false := decide_eq_false (by omega)
 have d2 : decide ((n : Int) < 0) = false := decide_eq_false (by omega)
 have d3 : decide ((i : Int) < 0) = false := decide_eq_false (by omega)
 have d4 : decide ((n : Int) ≤ (i : Int)) = false := decide_eq_false (by omega)
 rw [hK] at hlt hall
 have b1 : (X : Int) ≤ 9223372036854775807 := by omega
 have b2 : (X : Int) + (K : Int) ≤ 9223372036854775807 := by omega
 have b3 : (X : Int) + (K : Int) + (q : Int) ≤ 9223372036854775807 := by omega
 have b4 : (i : Int) ≤ 9223372036854775807 := by omega
 have b5 : (N : Int) ≤ 9223372036854775807 := by omega
 have b6 : (M : Int) ≤ 9223372036854775807 := by omega
 clear hP pl ql Nl Ml hlt
 rcases hmp : decide ((M : Int) < (p : Int)) with _ | _
 ·obtain rfl : p = K := by have := of_decide_eq_false hmp; omega
  have hmp' : ¬ M < p := by have := of_decide_eq_false hmp; omega
  go_enter Tryz.func123, Tryz.ntmps123
  go_wp2_with fail
  go_quiet (fail)
  go_wp2_with fail
  go_region
  go_wp2
  go_ret2
  exact ⟨ret_two (by rw [← hall.out]; omega) rfl, _, rfl⟩
 ·obtain rfl : M = K := by have := of_decide_eq_true hmp; omega
  have hmp' : M < p := by have := of_decide_eq_true hmp; omega
  go_enter Tryz.func123, Tryz.ntmps123
  go_wp2_with fail
  go_quiet (fail)
  go_wp2_with fail
  go_region
  go_wp2
  go_ret2
  exact ⟨ret_two (by rw [← hall.out]; omega) rfl, _, rfl⟩
end I11
namespace I11
open Go.RowKit Mem

theorem dirI (a b : Int) (w : World) : Calls Tryz.prog 75 #[.int .i64 a, .int .i64 b] w fun e w' => e = .returned (.tuple #[.int .i64 a, .int .i64 b]) ∧ w = w' := by
 go_enter Tryz.func75, Tryz.ntmps75
 go_wp2
 go_ret2
 exact ⟨rfl, rfl⟩
theorem dirD (a b : Int) (w : World) : Calls Tryz.prog 126 #[.int .i64 a, .int .i64 b] w fun e w' => e = .returned (.tuple #[.int .i64 b, .int .i64 a]) ∧ w = w' := by
 go_enter Tryz.func126, Tryz.ntmps126
 go_wp2
 go_ret2
 exact ⟨rfl, rfl⟩
set_option maxHeartbeats 4000000 in
theorem permI (c : ByteArray) (r : Nat) (w : World) (hr : 1 ≤ r) (hr2 : r ≤ 9223372036854775807) (hc : c.size ≤ 1000000) :
  Calls Tryz.prog 74 #[.string c, .int .i64 (r : Int), .func (.func 75) #[] #[]] w fun e w' => e = .returned (.tuple #[.string ⟨(il r c.data.toList).toArray⟩, .int .i64 0]) ∧ Below w.heap.size w w' := by
 obtain ⟨n, hn⟩ : ∃ n, c.size = n := ⟨_, rfl⟩
 have hln : c.data.toList.length = n := by rw [← hn]; simp
 obtain ⟨l0, hl0, hmk⟩ := make_bytesI w n (by omega)
 have hstep : ∀ k, k < n → ∃ P, pos n r k = P ∧ P < n ∧ Hid (∀ (hf : k < c.size) W G, BAt W G (mv id (pos n r) c.data.toList n k) → BAt (W.setCell ⟨G, P, none⟩ (.int .u8 ((c[k]).toNat : Int))) G (mv id (pos n r) c.data.toList n (k + 1))) ∧ Hid (∀ W G, BAt W G (mv id (pos n r) c.data.toList n k) → ∃ b : UInt8, W.cell? ⟨G, P, none⟩ = some (.int .u8 (b.toNat : Int)) ∧ W.frozen? ⟨G, P, none⟩ = false) := by
  intro k hk
  have hlt := pos_lt (n := n) (r := r) (i := k) hr hk
  refine ⟨_, rfl, hlt, Lib.hid ?_, Lib.hid ?_⟩
  ·intro hf W G h
   have h2 := BAt.set h (k := pos n r k) (by rw [mv_len]; first | exact hlt | exact hk) (c[k])
   have e : mv id (pos n r) c.data.toList n (k + 1) = (mv id (pos n r) c.data.toList n k).set (pos n r k) (c[k]) := by
    simp only [mv]
    rw [show c.data.toList.getD (id k) 0 = c[k] from getD_of (by rw [hln]; first | exact hlt | exact hk)]
   rw [e]
   exact h2
  ·intro W G h
   have hx : pos n r k < (mv id (pos n r) c.data.toList n k).length := by rw [mv_len]; first | exact hlt | exact hk
   exact ⟨_, h _ hx⟩
 have hB0 : BAt (w.alloc (.cells l0.toArray 5)) w.heap.size (mv id (pos n r) c.data.toList n 0) := by
  rw [hl0]
  exact made_at w _ _
 have hb0 : Below w.heap.size w (w.alloc (.cells l0.toArray 5)) := (Below.refl _ w).alloc (Nat.le_refl _) _
 have hs0 : w.heap.size < (w.alloc (.cells l0.toArray 5)).heap.size := by simp
 obtain ⟨W0, hW0⟩ : ∃ W0, w.alloc (.cells l0.toArray 5) = W0 := ⟨_, rfl⟩
 obtain ⟨G, hG⟩ : ∃ G, w.heap.size = G := ⟨_, rfl⟩
 rw [hW0, hG] at hmk hB0 hb0 hs0
 have hall : mv id (pos n r) c.data.toList n n = il r c.data.toList := by rw [il, hln]
 have cX := fun (k P : Nat) W (h : pos n r k = P) (hk : k < n) => h ▸ index_core k n r W hr hk (by omega) hr2
 have hlen := mv_len id (pos n r) c.data.toList n n
 obtain ⟨M, hM⟩ : ∃ M : Nat → List UInt8, mv id (pos n r) c.data.toList n = M := ⟨_, rfl⟩
 rw [hM] at hstep hB0 hall hlen
 have d1 : decide ((r : Int) < 1) = false := decide_eq_false (by omega)
 have hn6 : n ≤ 1000000 := by omega
 replace hB0 := Lib.hid hB0
 replace hs0 := Lib.hid hs0
 replace hG := Lib.hid hG
 replace hall := Lib.hid hall
 replace hlen := Lib.hid hlen
 replace hstep := Lib.hid hstep
 replace cX := Lib.hid cX
 have hnh := Lib.hid hn
 clear hl0 hW0 hM hln
 go_enter Tryz.func74, Tryz.ntmps74
 go_wp2
 go_loopw [21] (fun iv wr => ∃ k : Nat, k ≤ n ∧ iv = .int .i64 (k : Int) ∧ Hid (BAt wr G (M k)) ∧ Hid (G < wr.heap.size) ∧ Below G w wr) (fun iv _ => n - (intOf iv).toNat)
 case atStart => exact ⟨0, Nat.zero_le _, rfl, hB0, hs0, hb0⟩
 case round =>
  clear hB0 hs0 hb0 hmk
  obtain ⟨k, hk, rfl, hg, hsz, hb⟩ := hrel
  by_cases hlt : k < n
  ·obtain ⟨P, hP, hPn, hset, hget⟩ := hstep.out k hlt
   have dk : decide ((k : Int) < (n : Int)) = true := decide_eq_true (by omega)
   have cI := Lib.hid (cX.out k P wr hP hlt)
   have k0 : (0 : Int) ≤ (k : Int) := by omega
   have k1 : (k : Int) < (n : Int) := by omega
   have P0 : (0 : Int) ≤ (P : Int) := by omega
   have P1 : (P : Int) < (n : Int) := by omega
   have hkc : k < c.size := by omega
   have hPc : P < c.size := by omega
   clear hP
   go_wp2_with fail
   refine cI.out.mono ?_
   rintro e w1 ⟨rfl, q, rfl⟩
   obtain ⟨b0, hn1, hf1⟩ := hget.out (wr.drewN q) G (hg.out.drewN q)
   have hg2 := Lib.hid (hset.out (by assumption) (wr.drewN q) G (hg.out.drewN q))
   have hb2 : Below G w (wr.drewN q) := ⟨hb.os, hb.tape, hb.output, hb.size, hb.block⟩
   have hs2 : Hid (G < (wr.drewN q).heap.size) := Lib.hid hsz.out
   obtain ⟨W, hW⟩ : ∃ W, wr.drewN q = W := ⟨_, rfl⟩
   rw [hW] at hn1 hf1 hg2 hb2 hs2 ⊢
   clear hW hg hset hget hsz hb cI
   have hb3 := hb2.setCell (p := ⟨G, P, none⟩) (Nat.le_refl G) (.int .u8 ((c[k]).toNat : Int))
   have hs3 : Hid (G < (W.setCell ⟨G, P, none⟩ (.int .u8 ((c[k]).toNat : Int))).heap.size) := Lib.hid (by simpa using hs2.out)
   clear hb2 hs2
   go_wp2_with fail
   refine (dirI _ _ _).mono ?_
   rintro e w2 ⟨rfl, rfl⟩
   go_wp2
   go_roundw
   case rel => exact ⟨k + 1, by omega, by go_num, hg2, hs3, hb3⟩
   case measure => simp [intOf]; omega
  ·obtain rfl : k = n := by omega
   have dk : decide ((k : Int) < (k : Int)) = false := decide_eq_false (by omega)
   have hg2 := hg.out
   rw [hall.out] at hg2
   have hcv := hg2.conv (P := Tryz.prog) (cap := k) (n := k) (by rw [← hall.out]; exact hlen.out) Tryz.underlying53 Tryz.underlying5 Tryz.underlying9
   obtain ⟨O, hO⟩ : ∃ O : ByteArray, ⟨(il r c.data.toList).toArray⟩ = O := ⟨_, rfl⟩
   replace hcv : (convert 53 9 (.slice (some ⟨G, 0, none⟩) k k)).run Tryz.prog wr = .ok (.string O) wr := by rw [← hO]; exact hcv
   replace hO := Lib.hid hO
   clear hg2
   go_wp2
   go_ret2
   exact ⟨by rw [hO.out]; rfl, by rw [hG.out]; exact hb⟩
set_option maxHeartbeats 4000000 in
theorem permD (c : ByteArray) (r : Nat) (w : World) (hr : 1 ≤ r) (hr2 : r ≤ 9223372036854775807) (hc : c.size ≤ 1000000) :
  Calls Tryz.prog 74 #[.string c, .int .i64 (r : Int), .func (.func 126) #[] #[]] w fun e w' => e = .returned (.tuple #[.string ⟨(dl r c.data.toList).toArray⟩, .int .i64 0]) ∧ Below w.heap.size w w' := by
 obtain ⟨n, hn⟩ : ∃ n, c.size = n := ⟨_, rfl⟩
 have hln : c.data.toList.length = n := by rw [← hn]; simp
 obtain ⟨l0, hl0, hmk⟩ := make_bytesI w n (by omega)
 have hstep : ∀ k, k < n → ∃ P, pos n r k = P ∧ P < n ∧ Hid (∀ (hf : P < c.size) W G, BAt W G (mv (pos n r) id c.data.toList n k) → BAt (W.setCell ⟨G, k, none⟩ (.int .u8 ((c[P]).toNat : Int))) G (mv (pos n r) id c.data.toList n (k + 1))) ∧ Hid (∀ W G, BAt W G (mv (pos n r) id c.data.toList n k) → ∃ b : UInt8, W.cell? ⟨G, k, none⟩ = some (.int .u8 (b.toNat : Int)) ∧ W.frozen? ⟨G, k, none⟩ = false) := by
  intro k hk
  have hlt := pos_lt (n := n) (r := r) (i := k) hr hk
  refine ⟨_, rfl, hlt, Lib.hid ?_, Lib.hid ?_⟩
  ·intro hf W G h
   have h2 := BAt.set h (k := k) (by rw [mv_len]; exact hk) (c[pos n r k])
   have e : mv (pos n r) id c.data.toList n (k + 1) = (mv (pos n r) id c.data.toList n k).set k (c[pos n r k]) := by
    simp only [mv]
    rw [show c.data.toList.getD ((pos n r) k) 0 = c[pos n r k] from getD_of (by rw [hln]; exact hlt)]
    rfl
   rw [e]
   exact h2
  ·intro W G h
   have hx : k < (mv (pos n r) id c.data.toList n k).length := by rw [mv_len]; first | exact hlt | exact hk
   exact ⟨_, h _ hx⟩
 have hB0 : BAt (w.alloc (.cells l0.toArray 5)) w.heap.size (mv (pos n r) id c.data.toList n 0) := by
  rw [hl0]
  exact made_at w _ _
 have hb0 : Below w.heap.size w (w.alloc (.cells l0.toArray 5)) := (Below.refl _ w).alloc (Nat.le_refl _) _
 have hs0 : w.heap.size < (w.alloc (.cells l0.toArray 5)).heap.size := by simp
 obtain ⟨W0, hW0⟩ : ∃ W0, w.alloc (.cells l0.toArray 5) = W0 := ⟨_, rfl⟩
 obtain ⟨G, hG⟩ : ∃ G, w.heap.size = G := ⟨_, rfl⟩
 rw [hW0, hG] at hmk hB0 hb0 hs0
 have hall : mv (pos n r) id c.data.toList n n = dl r c.data.toList := by rw [dl, hln]
 have cX := fun (k P : Nat) W (h : pos n r k = P) (hk : k < n) => h ▸ index_core k n r W hr hk (by omega) hr2
 have hlen := mv_len (pos n r) id c.data.toList n n
 obtain ⟨M, hM⟩ : ∃ M : Nat → List UInt8, mv (pos n r) id c.data.toList n = M := ⟨_, rfl⟩
 rw [hM] at hstep hB0 hall hlen
 have d1 : decide ((r : Int) < 1) = false := decide_eq_false (by omega)
 have hn6 : n ≤ 1000000 := by omega
 replace hB0 := Lib.hid hB0
 replace hs0 := Lib.hid hs0
 replace hG := Lib.hid hG
 replace hall := Lib.hid hall
 replace hlen := Lib.hid hlen
 replace hstep := Lib.hid hstep
 replace cX := Lib.hid cX
 have hnh := Lib.hid hn
 clear hl0 hW0 hM hln
 go_enter Tryz.func74, Tryz.ntmps74
 go_wp2
 go_loopw [21] (fun iv wr => ∃ k : Nat, k ≤ n ∧ iv = .int .i64 (k : Int) ∧ Hid (BAt wr G (M k)) ∧ Hid (G < wr.heap.size) ∧ Below G w wr) (fun iv _ => n - (intOf iv).toNat)
 case atStart => exact ⟨0, Nat.zero_le _, rfl, hB0, hs0, hb0⟩
 case round =>
  clear hB0 hs0 hb0 hmk
  obtain ⟨k, hk, rfl, hg, hsz, hb⟩ := hrel
  by_cases hlt : k < n
  ·obtain ⟨P, hP, hPn, hset, hget⟩ := hstep.out k hlt
   have dk : decide ((k : Int) < (n : Int)) = true := decide_eq_true (by omega)
   have cI := Lib.hid (cX.out k P wr hP hlt)
   have k0 : (0 : Int) ≤ (k : Int) := by omega
   have k1 : (k : Int) < (n : Int) := by omega
   have P0 : (0 : Int) ≤ (P : Int) := by omega
   have P1 : (P : Int) < (n : Int) := by omega
   have hkc : k < c.size := by omega
   have hPc : P < c.size := by omega
   clear hP
   go_wp2_with fail
   refine cI.out.mono ?_
   rintro e w1 ⟨rfl, q, rfl⟩
   obtain ⟨b0, hn1, hf1⟩ := hget.out (wr.drewN q) G (hg.out.drewN q)
   have hg2 := Lib.hid (hset.out (by assumption) (wr.drewN q) G (hg.out.drewN q))
   have hb2 : Below G w (wr.drewN q) := ⟨hb.os, hb.tape, hb.output, hb.size, hb.block⟩
   have hs2 : Hid (G < (wr.drewN q).heap.size) := Lib.hid hsz.out
   obtain ⟨W, hW⟩ : ∃ W, wr.drewN q = W := ⟨_, rfl⟩
   rw [hW] at hn1 hf1 hg2 hb2 hs2 ⊢
   clear hW hg hset hget hsz hb cI
   have hb3 := hb2.setCell (p := ⟨G, k, none⟩) (Nat.le_refl G) (.int .u8 ((c[P]).toNat : Int))
   have hs3 : Hid (G < (W.setCell ⟨G, k, none⟩ (.int .u8 ((c[P]).toNat : Int))).heap.size) := Lib.hid (by simpa using hs2.out)
   clear hb2 hs2
   go_wp2_with fail
   refine (dirD _ _ _).mono ?_
   rintro e w2 ⟨rfl, rfl⟩
   go_wp2
   go_roundw
   case rel => exact ⟨k + 1, by omega, by go_num, hg2, hs3, hb3⟩
   case measure => simp [intOf]; omega
  ·obtain rfl : k = n := by omega
   have dk : decide ((k : Int) < (k : Int)) = false := decide_eq_false (by omega)
   have hg2 := hg.out
   rw [hall.out] at hg2
   have hcv := hg2.conv (P := Tryz.prog) (cap := k) (n := k) (by rw [← hall.out]; exact hlen.out) Tryz.underlying53 Tryz.underlying5 Tryz.underlying9
   obtain ⟨O, hO⟩ : ∃ O : ByteArray, ⟨(dl r c.data.toList).toArray⟩ = O := ⟨_, rfl⟩
   replace hcv : (convert 53 9 (.slice (some ⟨G, 0, none⟩) k k)).run Tryz.prog wr = .ok (.string O) wr := by rw [← hO]; exact hcv
   replace hO := Lib.hid hO
   clear hg2
   go_wp2
   go_ret2
   exact ⟨by rw [hO.out]; rfl, by rw [hG.out]; exact hb⟩
theorem perm_arg (c : ByteArray) (r : Int) (F : Value) (w : World) (h : r < 1) : Calls Tryz.prog 74 #[.string c, .int .i64 r, F] w fun e w' => e = .returned (.tuple #[.string ⟨#[]⟩, .int .i64 1]) ∧ w = w' := by
 have d1 : decide (r < 1) = true := decide_eq_true h
 go_enter Tryz.func74, Tryz.ntmps74
 go_wp2
 go_ret2
 exact ⟨rfl, rfl⟩
theorem il_own (c : ByteArray) (r : Int) (w : World) (hc : c.size ≤ 1000000) (r1 : -9223372036854775808 ≤ r) (r2 : r ≤ 9223372036854775807) : Calls Tryz.prog 41 #[.string c, .int .i64 r] w (Iled c r w) := by
 unfold Iled
 by_cases h : r < 1
 ·obtain ⟨g1, g2, _⟩ := p_arg (c := c) h
  rw [g1, g2]
  have cP := Lib.hid (perm_arg c r (.func (.func 75) #[] #[]) w h)
  clear g1 g2
  go_enter Tryz.func41, Tryz.ntmps41
  go_wp2_with fail
  refine cP.out.mono ?_
  rintro e w1 ⟨rfl, rfl⟩
  go_wp2
  go_ret2
  exact ⟨rfl, Below.refl _ _⟩
 ·obtain ⟨R, rfl⟩ : ∃ I : Nat, r = I := ⟨r.toNat, by omega⟩
  rw [p_ok (by omega), iS_at (by omega)]
  have cP := permI c R w (by omega) (by omega) hc
  obtain ⟨O, hO⟩ : ∃ O : ByteArray, ⟨(il R c.data.toList).toArray⟩ = O := ⟨_, rfl⟩
  rw [hO] at cP ⊢
  replace cP := Lib.hid cP
  clear hO
  go_enter Tryz.func41, Tryz.ntmps41
  go_wp2_with fail
  refine cP.out.mono ?_
  rintro e w1 ⟨rfl, hb⟩
  go_wp2
  go_ret2
  exact ⟨rfl, hb⟩
theorem dl_own (c : ByteArray) (r : Int) (w : World) (hc : c.size ≤ 1000000) (r1 : -9223372036854775808 ≤ r) (r2 : r ≤ 9223372036854775807) : Calls Tryz.prog 79 #[.string c, .int .i64 r] w (Dled c r w) := by
 unfold Dled
 by_cases h : r < 1
 ·obtain ⟨g1, _, g2⟩ := p_arg (c := c) h
  rw [g1, g2]
  have cP := Lib.hid (perm_arg c r (.func (.func 126) #[] #[]) w h)
  clear g1 g2
  go_enter Tryz.func79, Tryz.ntmps79
  go_wp2_with fail
  refine cP.out.mono ?_
  rintro e w1 ⟨rfl, rfl⟩
  go_wp2
  go_ret2
  exact ⟨rfl, Below.refl _ _⟩
 ·obtain ⟨R, rfl⟩ : ∃ I : Nat, r = I := ⟨r.toNat, by omega⟩
  rw [p_ok (by omega), dS_at (by omega)]
  have cP := permD c R w (by omega) (by omega) hc
  obtain ⟨O, hO⟩ : ∃ O : ByteArray, ⟨(dl R c.data.toList).toArray⟩ = O := ⟨_, rfl⟩
  rw [hO] at cP ⊢
  replace cP := Lib.hid cP
  clear hO
  go_enter Tryz.func79, Tryz.ntmps79
  go_wp2_with fail
  refine cP.out.mono ?_
  rintro e w1 ⟨rfl, hb⟩
  go_wp2
  go_ret2
  exact ⟨rfl, hb⟩
end I11
namespace I11
open Go.RowKit Mem

theorem info_intR : (Tryz.prog.info? 3).map (fun i => (i.zero, i.size, i.bytes)) = some (some (.int .i64 0), 1, 8) := by kernel_rfl
def Ordd (n r : Nat) (w : World) (e : Ending) (w' : World) : Prop := ∃ (v : Value) (l : List Nat), e = .returned v ∧ Hid (Ord n r l n) ∧ w'.ownsRow w.heap.size 3 1 v n (nats l) ∧ Below w.heap.size w w'
set_option maxHeartbeats 4000000 in
theorem rorder_any (n r : Nat) (w : World) (hr : 1 ≤ r) (hn : n ≤ 1000) (hr2 : r ≤ 9223372036854775807) :
  Calls Tryz.prog 94 #[.int .i64 (n : Int), .int .i64 (r : Int)] w (Ordd n r w) := by
 obtain ⟨j0, hj, hy0, hy1, hy2⟩ := info_parts info_intR
 go_enter Tryz.func94, Tryz.ntmps94
 go_wp2
 go_loopw [5, 6] (fun v x wr => ∃ (p K : Nat) (l : List Nat), p ≤ r ∧ p ≤ n ∧ K ≤ n ∧ x = .int .i64 (p : Int) ∧ Hid (K = st n r p) ∧ Hid (Ord n r l K) ∧ wr.ownsRow w.heap.size 3 1 v K (nats l) ∧ Below w.heap.size w wr) (fun _ x _ => r - (intOf x).toNat)
 case atStart => exact ⟨0, 0, [], Nat.zero_le _, Nat.zero_le _, Nat.zero_le _, rfl, Lib.hid (st_zero n r).symm, Lib.hid (Ord.nil n r), empty_at rfl (Nat.le_refl _), (Below.refl _ _).alloc (Nat.le_refl _) _⟩
 case round =>
  obtain ⟨p, K, l, hpr, hpn, hKn, rfl, hK, ho, hown, hb⟩ := hrel
  by_cases hlt : p < r ∧ p < n
  ·have d1 : decide ((p : Int) < (r : Int)) = true := decide_eq_true (by omega)
   have d2 : decide ((p : Int) < (n : Int)) = true := decide_eq_true (by omega)
   have hKp := hK.out
   have q1 := hlt.1
   have q2 := hlt.2
   have hin := Lib.hid (fun q => in_row n r p q q1)
   have hsu := Lib.hid (st_succ n r p)
   have hle := Lib.hid (st_le n r (show p + 1 ≤ r from q1))
   have hal := Lib.hid (st_all n r hr)
   have hps := Lib.hid (fun q => pos_at n r p q q1)
   replace hKp := Lib.hid hKp
   clear hK hlt
   go_wp2
   go_loopw [5, 7] (fun v x wr => ∃ (q I J : Nat) (l : List Nat), I ≤ n ∧ J ≤ n ∧ x = .int .i64 (I : Int) ∧ Hid (I = q * r + p) ∧ Hid (J = st n r p + q) ∧ Hid (q ≤ ln n r p) ∧ Hid (Ord n r l J) ∧ wr.ownsRow w.heap.size 3 1 v J (nats l) ∧ Below w.heap.size w wr) (fun _ x _ => n - (intOf x).toNat)
   case atStart => exact ⟨0, p, K, l, hpn, hKn, rfl, Lib.hid (by omega), Lib.hid (by have := hKp.out; omega), Lib.hid (Nat.zero_le _), ho, hown, hb⟩
   case round =>
    clear ho hown hb hKp hKn
    obtain ⟨q, I, J, l, hI, hJ, rfl, hIq, hJq, hql, ho, hown, hb⟩ := hrel
    by_cases hlt : I < n
    ·have d3 : decide ((I : Int) < (n : Int)) = true := decide_eq_true (by omega)
     have hq : q < ln n r p := (hin.out q).1 (by rw [← hIq.out]; exact hlt)
     have hpos : pos n r I = J := by rw [hIq.out, hps.out q, hJq.out]
     have ho2 := Lib.hid (ho.out.snoc hlt hpos)
     have hsn := Lib.hid (nats_snoc l I)
     have J1 : J + 1 ≤ n := by have := hsu.out; have := hle.out; have := hal.out; have := hJq.out; omega
     have hmul : (q + 1) * r + p = I + r := by rw [Nat.add_mul, Nat.one_mul, hIq.out]; omega
     have hJ2 : Hid (J + 1 = st n r p + (q + 1)) := Lib.hid (by have := hJq.out; omega)
     rcases hbr : decide ((n : Int) - (r : Int) < (I : Int)) with _ | _
     ·have hIr : I + r ≤ n := by have := of_decide_eq_false hbr; omega
      have hI2 : Hid (I + r = (q + 1) * r + p) := Lib.hid hmul.symm
      have hq2 : Hid (q + 1 ≤ ln n r p) := Lib.hid hq
      clear hq hpos hmul hIq hJq hql ho
      go_wp2_with (at_builtin; refine wpList_append_own _ rfl _ _ 95 rfl w.heap.size 3 j0 (.int .i64 0) 1 8 Tryz.underlying95 hj hy0 hy1 hy2 rfl (by decide) _ _ _ rfl (hown.alloc _) ⟨wr.heap.size, 0, none⟩ 1 1 [.int .i64 (I : Int)] rfl rfl (one_new _ _ _) (one_cell _ _) ?d3 ?d4 ?d5 ?_)
      case d3 => unfold maxLen; omega
      case d4 => omega
      case d5 => have := hb.size; simp; omega
      intro v' w2 hown2 hgr _
      rw [← hsn.out] at hown2
      have hb2 := (hb.alloc hb.size _).grown hgr (by have := hb.size; simp; omega) (fun j hj => (hown.lt j hj).1)
      clear hown hgr hb
      go_wp2
      go_roundw
      case rel => exact ⟨q + 1, I + r, J + 1, l ++ [I], hIr, J1, by go_num, hI2, hJ2, hq2, ho2, by simpa using hown2, hb2⟩
      case measure => simp [intOf]; omega
     ·have hend : ln n r p = q + 1 := by
       have h1 : ¬ (q + 1) * r + p < n := by have := of_decide_eq_true hbr; omega
       have h2 := Nat.not_lt.1 (fun h => h1 ((hin.out (q + 1)).2 h))
       omega
      have hK2 : Hid (J + 1 = st n r (p + 1)) := Lib.hid (by rw [hsu.out, hend]; exact hJ2.out)
      clear hq hpos hmul hIq hJq hql ho hend hJ2
      go_wp2_with (at_builtin; refine wpList_append_own _ rfl _ _ 95 rfl w.heap.size 3 j0 (.int .i64 0) 1 8 Tryz.underlying95 hj hy0 hy1 hy2 rfl (by decide) _ _ _ rfl (hown.alloc _) ⟨wr.heap.size, 0, none⟩ 1 1 [.int .i64 (I : Int)] rfl rfl (one_new _ _ _) (one_cell _ _) ?d3 ?d4 ?d5 ?_)
      case d3 => unfold maxLen; omega
      case d4 => omega
      case d5 => have := hb.size; simp; omega
      intro v' w2 hown2 hgr _
      rw [← hsn.out] at hown2
      have hb2 := (hb.alloc hb.size _).grown hgr (by have := hb.size; simp; omega) (fun j hj => (hown.lt j hj).1)
      clear hown hgr hb
      go_wp2
      go_roundw
      case rel => exact ⟨p + 1, J + 1, l ++ [I], q1, q2, J1, by go_num, hK2, ho2, by simpa using hown2, hb2⟩
      case measure => simp [intOf]; omega
    ·have d3 : decide ((I : Int) < (n : Int)) = false := decide_eq_false (by omega)
     have hend : ln n r p = q := by
      have h1 : ¬ q * r + p < n := by have := hIq.out; omega
      have h2 := Nat.not_lt.1 (fun h => h1 ((hin.out q).2 h))
      have := hql.out
      omega
     have hK2 : Hid (J = st n r (p + 1)) := Lib.hid (by rw [hsu.out, hend]; exact hJq.out)
     clear hIq hJq hql hend
     go_wp2
     go_roundw
     case rel => exact ⟨p + 1, J, l, q1, q2, hJ, by go_num, hK2, ho, hown, hb⟩
     case measure => simp [intOf]; omega
  ·have hK2 := st_end (n := n) (r := r) (p := p) hr hpr hpn hlt
   rw [← hK.out] at hK2
   subst hK2
   obtain ⟨A', c', rfl, _, _⟩ := own_slice hown
   rcases d1 : decide ((p : Int) < (r : Int)) with _ | _
   ·go_wp2
    all_goals exact bodyPost_ret (v := .slice A' K c') (by simp [results, Tryz.results94, go_sem]) rfl ⟨_, l, rfl, ho, hown, hb⟩
   ·have d2 : decide ((p : Int) < (K : Int)) = false := decide_eq_false (by have := of_decide_eq_true d1; omega)
    go_wp2
    all_goals exact bodyPost_ret (v := .slice A' K c') (by simp [results, Tryz.results94, go_sem]) rfl ⟨_, l, rfl, ho, hown, hb⟩
end I11
namespace I11
open Go.RowKit Mem

def pk (c : ByteArray) (l : List Nat) (k : Nat) : List UInt8 := (l.take k).map fun i => c.data.toList.getD i 0
theorem pk_step {c : ByteArray} {l : List Nat} {k I : Nat} (hk : k < l.length) (hI : l.getD k 0 = I) (h : I < c.size) : pk c l (k + 1) = pk c l k ++ [c[I]] := by
 unfold pk
 have e : l[k] = I := by rw [← hI, List.getD_eq_getElem?_getD, List.getElem?_eq_getElem hk]; rfl
 rw [List.take_succ_eq_append_getElem hk, List.map_append, e]
 congr 1
 show [c.data.toList.getD I 0] = _
 rw [getD_of (by simpa using h)]
 rfl
theorem nat_at {w : World} {A : Option Addr} {l : List Nat} (h : Rd w A (nats l)) {k : Nat} (hk : k < l.length) : ∃ b o, A = some ⟨b, o, none⟩ ∧ b < w.heap.size ∧ w.cell? ⟨b, o + k, none⟩ = some (.int .i64 (l.getD k 0 : Nat)) := by
 obtain ⟨b, o, e, hb, hc⟩ := h k (by rw [nats_len]; exact hk)
 refine ⟨b, o, e, hb, hc.trans ?_⟩
 have := nats_get l k hk
 rw [List.getElem?_eq_getElem (by rw [nats_len]; exact hk)] at this
 rw [this, List.getD_eq_getElem?_getD, List.getElem?_eq_getElem hk]
 rfl
set_option maxHeartbeats 4000000 in
theorem rinter_core (c : ByteArray) (r : Nat) (w : World) (hr : 1 ≤ r) (hc : c.size ≤ 1000) (hr2 : r ≤ 9223372036854775807) :
  Calls Tryz.prog 52 #[.string c, .int .i64 (r : Int)] w fun e w' => e = .returned (.tuple #[.string ⟨(il r c.data.toList).toArray⟩, .int .i64 0]) ∧ Below w.heap.size w w' := by
 obtain ⟨i0, hi, hz0, hz1, hz2⟩ := info_parts info_byteI
 obtain ⟨n, hn⟩ : ∃ n, c.size = n := ⟨_, rfl⟩
 have cO := rorder_any n r w hr (by omega) hr2
 have hln : c.data.toList.length = n := by rw [← hn]; simp
 have d1 : decide ((r : Int) < 1) = false := decide_eq_false (by omega)
 have hpick := fun l (h : Ord n r l n) => pick hr c.data.toList l (by rw [hln]; exact h)
 have hnh := Lib.hid hn
 have hn3 : n ≤ 1000 := by omega
 obtain ⟨O, hO⟩ : ∃ O : ByteArray, ⟨(il r c.data.toList).toArray⟩ = O := ⟨_, rfl⟩
 rw [hO]
 unfold Ordd at cO
 replace hpick := Lib.hid hpick
 replace cO := Lib.hid cO
 replace hO := Lib.hid hO
 clear hln
 go_enter Tryz.func52, Tryz.ntmps52
 go_wp2_with fail
 refine cO.out.mono ?_
 rintro e w1 ⟨v, l, rfl, ho, hown, hB⟩
 obtain ⟨A, cp, rfl, hcp1, hcp2⟩ := own_slice hown
 have hrd := Lib.hid (Rd.of_own hown)
 have hll := ho.out.len
 have hget := Lib.hid ho.out.get
 have hfin : pk c l n = il r c.data.toList := by
  rw [← hpick.out l ho.out]
  unfold pk
  rw [List.take_of_length_le (by omega)]
 have hf2 : (⟨(pk c l n).toArray⟩ : ByteArray) = O := by rw [hfin]; exact hO.out
 replace hf2 := Lib.hid hf2
 replace hll := Lib.hid hll
 clear hown ho cO hfin
 go_wp2
 go_loopw [7, 8] (fun v x wr => ∃ k : Nat, k ≤ n ∧ x = .int .i64 (k : Int) ∧ wr.ownsRow w1.heap.size 5 1 v k (bys (pk c l k)) ∧ Below w1.heap.size w1 wr) (fun _ x _ => n - (intOf x).toNat)
 case atStart => exact ⟨0, Nat.zero_le _, rfl, empty_at rfl (Nat.le_refl _), (Below.refl _ _).alloc (Nat.le_refl _) _⟩
 case round =>
  obtain ⟨k, hk, rfl, hown, hb⟩ := hrel
  by_cases hlt : k < n
  ·obtain ⟨b, o, rfl, hbl, hcl⟩ := nat_at (hrd.out.below hb) (k := k) (by rw [hll.out]; exact hlt)
   have hI := (hget.out k hlt).1
   have hst := fun I h1 h2 => pk_step (c := c) (l := l) (k := k) (I := I) (by rw [hll.out]; exact hlt) h1 h2
   obtain ⟨I, hIe⟩ : ∃ I, l.getD k 0 = I := ⟨_, rfl⟩
   rw [hIe] at hI hcl
   have hIc : I < c.size := by rw [hnh.out]; exact hI
   have hs2 := Lib.hid (hst I hIe hIc)
   have hsn := Lib.hid (bys_snoc (pk c l k) c[I])
   have d2 : decide ((k : Int) < (n : Int)) = true := decide_eq_true (by omega)
   have d2' : decide (k < n) = true := decide_eq_true (by omega)
   have k0 : (0 : Int) ≤ (k : Int) := by omega
   have k1 : (k : Int) < (n : Int) := by omega
   have I0 : (0 : Int) ≤ (I : Int) := by omega
   have I1 : (I : Int) < (n : Int) := by omega
   clear hst hIe
   go_wp2_with (at_builtin; refine wpList_append_own _ rfl _ _ 53 rfl w1.heap.size 5 i0 (.int .u8 0) 1 1 Tryz.underlying53 hi hz0 hz1 hz2 rfl (by decide) _ _ _ rfl (hown.alloc _) ⟨wr.heap.size, 0, none⟩ 1 1 [.int .u8 ((c[I]).toNat : Int)] rfl rfl (one_new _ _ _) (one_cell _ _) ?d3 ?d4 ?d5 ?_)
   case d3 => unfold maxLen; omega
   case d4 => omega
   case d5 => have := hb.size; simp; omega
   intro v' w2 hown2 hgr _
   rw [← hsn.out, ← hs2.out] at hown2
   have hb2 := (hb.alloc hb.size _).grown hgr (by have := hb.size; simp; omega) (fun j hj => (hown.lt j hj).1)
   clear hown hgr hb
   go_wp2
   go_roundw
   case rel => exact ⟨k + 1, by omega, by go_num, by simpa using hown2, hb2⟩
   case measure => simp [intOf]; omega
  ·obtain rfl : k = n := by omega
   have d2 : decide ((k : Int) < (k : Int)) = false := decide_eq_false (by omega)
   have d2' : decide (k < k) = false := decide_eq_false (by omega)
   have hcv := conv_own (P := Tryz.prog) Tryz.underlying53 Tryz.underlying5 Tryz.underlying9 hown
   rw [hf2.out] at hcv
   obtain ⟨A2, c2, rfl, _, _⟩ := own_slice hown
   clear hown
   go_wp2
   go_ret2
   exact ⟨rfl, chain hB hb⟩
set_option maxHeartbeats 4000000 in
theorem rdeinter_core (c : ByteArray) (r : Nat) (w : World) (hr : 1 ≤ r) (hc : c.size ≤ 1000) (hr2 : r ≤ 9223372036854775807) :
  Calls Tryz.prog 57 #[.string c, .int .i64 (r : Int)] w fun e w' => e = .returned (.tuple #[.string ⟨(dl r c.data.toList).toArray⟩, .int .i64 0]) ∧ Below w.heap.size w w' := by
 obtain ⟨n, hn⟩ : ∃ n, c.size = n := ⟨_, rfl⟩
 have cO := rorder_any n r w hr (by omega) hr2
 have hln : c.data.toList.length = n := by rw [← hn]; simp
 have d1 : decide ((r : Int) < 1) = false := decide_eq_false (by omega)
 have hlay := fun l (h : Ord n r l n) => lay hr c.data.toList l (by rw [hln]; exact h)
 have hmk0 := fun W => make_bytesI W n (by omega)
 have hlnh := Lib.hid hln
 have hnh := Lib.hid hn
 have hn3 : n ≤ 1000 := by omega
 obtain ⟨O, hO⟩ : ∃ O : ByteArray, ⟨(dl r c.data.toList).toArray⟩ = O := ⟨_, rfl⟩
 rw [hO]
 unfold Ordd at cO
 rw [hln] at hlay
 replace hlay := Lib.hid hlay
 replace hmk0 := Lib.hid hmk0
 replace cO := Lib.hid cO
 replace hO := Lib.hid hO
 clear hln
 go_enter Tryz.func57, Tryz.ntmps57
 go_wp2_with fail
 refine cO.out.mono ?_
 rintro e w1 ⟨v, l, rfl, ho, hown, hB⟩
 obtain ⟨A, cp, rfl, hcp1, hcp2⟩ := own_slice hown
 have hrd := Lib.hid (Rd.of_own hown)
 have hll := Lib.hid ho.out.len
 have hget := Lib.hid ho.out.get
 obtain ⟨l0, hl0, hmk⟩ := hmk0.out w1
 have hB0 : BAt (w1.alloc (.cells l0.toArray 5)) w1.heap.size (mv id (fun k => l.getD k 0) c.data.toList n 0) := by
  rw [hl0]
  exact made_at w1 _ _
 have hb0 : Below w1.heap.size w1 (w1.alloc (.cells l0.toArray 5)) := (Below.refl _ w1).alloc (Nat.le_refl _) _
 have hs0 : w1.heap.size < (w1.alloc (.cells l0.toArray 5)).heap.size := by simp
 obtain ⟨W0, hW0⟩ : ∃ W0, w1.alloc (.cells l0.toArray 5) = W0 := ⟨_, rfl⟩
 obtain ⟨G, hG⟩ : ∃ G, w1.heap.size = G := ⟨_, rfl⟩
 rw [hW0, hG] at hmk hB0 hb0 hs0
 have hfin := hlay.out l ho.out
 have hf2 : (⟨(mv id (fun k => l.getD k 0) c.data.toList n n).toArray⟩ : ByteArray) = O := by rw [hfin]; exact hO.out
 have hstep : ∀ k, k < n → ∃ I, l.getD k 0 = I ∧ I < n ∧ Hid (∀ (hf : k < c.size) W g, BAt W g (mv id (fun k => l.getD k 0) c.data.toList n k) → BAt (W.setCell ⟨g, I, none⟩ (.int .u8 ((c[k]).toNat : Int))) g (mv id (fun k => l.getD k 0) c.data.toList n (k + 1))) ∧ Hid (∀ W g, BAt W g (mv id (fun k => l.getD k 0) c.data.toList n k) → ∃ b : UInt8, W.cell? ⟨g, I, none⟩ = some (.int .u8 (b.toNat : Int)) ∧ W.frozen? ⟨g, I, none⟩ = false) := by
  intro k hk
  have hlt := (hget.out k hk).1
  refine ⟨_, rfl, hlt, Lib.hid ?_, Lib.hid ?_⟩
  ·intro hf W g h
   have h2 := BAt.set h (k := l.getD k 0) (by rw [mv_len]; exact hlt) (c[k])
   have e : mv id (fun k => l.getD k 0) c.data.toList n (k + 1) = (mv id (fun k => l.getD k 0) c.data.toList n k).set (l.getD k 0) (c[k]) := by
    simp only [mv]
    rw [show c.data.toList.getD (id k) 0 = c[k] from getD_of (by rw [hlnh.out]; exact hk)]
   rw [e]
   exact h2
  ·intro W g h
   have hx : l.getD k 0 < (mv id (fun k => l.getD k 0) c.data.toList n k).length := by rw [mv_len]; exact hlt
   exact ⟨_, h _ hx⟩
 have hlen := mv_len id (fun k => l.getD k 0) c.data.toList n n
 obtain ⟨M, hM⟩ : ∃ M : Nat → List UInt8, mv id (fun k => l.getD k 0) c.data.toList n = M := ⟨_, rfl⟩
 rw [hM] at hstep hB0 hf2 hlen
 replace hstep := Lib.hid hstep
 replace hB0 := Lib.hid hB0
 replace hs0 := Lib.hid hs0
 replace hlen := Lib.hid hlen
 replace hf2 := Lib.hid hf2
 have hGh := Lib.hid hG
 clear hown ho cO hfin hM hW0 hl0 hlay hmk0 hget
 go_wp2
 go_loopw [8] (fun x wr => ∃ k : Nat, k ≤ n ∧ x = .int .i64 (k : Int) ∧ Hid (BAt wr G (M k)) ∧ Hid (G < wr.heap.size) ∧ Below G w1 wr) (fun x _ => n - (intOf x).toNat)
 case atStart => exact ⟨0, Nat.zero_le _, rfl, hB0, hs0, hb0⟩
 case round =>
  clear hB0 hs0 hb0 hmk
  obtain ⟨k, hk, rfl, hg, hsz, hb⟩ := hrel
  by_cases hlt : k < n
  ·have hrd2 := hrd.out.below (show Below w1.heap.size w1 wr by rw [hGh.out]; exact hb)
   obtain ⟨b, o, rfl, hbl, hcl⟩ := nat_at hrd2 (k := k) (by rw [hll.out]; exact hlt)
   obtain ⟨I, hI, hIn, hset, hcell⟩ := hstep.out k hlt
   rw [hI] at hcl
   obtain ⟨b0, hn1, hf1⟩ := hcell.out wr G hg.out
   have hkc : k < c.size := by rw [hnh.out]; exact hlt
   have hg2 := Lib.hid (hset.out hkc wr G hg.out)
   have hb3 := hb.setCell (p := ⟨G, I, none⟩) (Nat.le_refl G) (.int .u8 ((c[k]).toNat : Int))
   have hs3 : Hid (G < (wr.setCell ⟨G, I, none⟩ (.int .u8 ((c[k]).toNat : Int))).heap.size) := Lib.hid (by simpa using hsz.out)
   have d2 : decide ((k : Int) < (n : Int)) = true := decide_eq_true (by omega)
   have d2' : decide (k < n) = true := decide_eq_true (by omega)
   have k0 : (0 : Int) ≤ (k : Int) := by omega
   have k1 : (k : Int) < (n : Int) := by omega
   have I0 : (0 : Int) ≤ (I : Int) := by omega
   have I1 : (I : Int) < (n : Int) := by omega
   clear hI hset hcell hrd2 hg hsz hb
   go_wp2_with fail
   go_region
   all_goals
    have hg4 : Hid (BAt (wr.setCell ⟨G, I, none⟩ (.int .u8 ((c[k]).toNat : Int))).drew G (M (k + 1))) := Lib.hid hg2.out.drew
    have hs4 : Hid (G < (wr.setCell ⟨G, I, none⟩ (.int .u8 ((c[k]).toNat : Int))).drew.heap.size) := Lib.hid hs3.out
    go_wp2
    go_roundw
    case rel => exact ⟨k + 1, by omega, by go_num, hg4, hs4, hb3.drew⟩
    case measure => simp [intOf]; omega
  ·obtain rfl : k = n := by omega
   have d2 : decide ((k : Int) < (k : Int)) = false := decide_eq_false (by omega)
   have d2' : decide (k < k) = false := decide_eq_false (by omega)
   have hcv := hg.out.conv (P := Tryz.prog) (cap := k) (n := k) hlen.out Tryz.underlying53 Tryz.underlying5 Tryz.underlying9
   rw [hf2.out] at hcv
   clear hg
   go_wp2
   go_ret2
   exact ⟨rfl, chain hB (by rw [hGh.out]; exact hb)⟩
theorem rarg_any (c : ByteArray) (r : Int) (w : World) (h : r < 1) : Calls Tryz.prog 52 #[.string c, .int .i64 r] w fun e w' => e = .returned (.tuple #[.string ⟨#[]⟩, .int .i64 1]) ∧ Below w.heap.size w w' := by
 have d1 : decide (r < 1) = true := decide_eq_true h
 go_enter Tryz.func52, Tryz.ntmps52
 go_wp2
 go_ret2
 exact ⟨rfl, Below.refl _ _⟩
theorem rdarg_any (c : ByteArray) (r : Int) (w : World) (h : r < 1) : Calls Tryz.prog 57 #[.string c, .int .i64 r] w fun e w' => e = .returned (.tuple #[.string ⟨#[]⟩, .int .i64 1]) ∧ Below w.heap.size w w' := by
 have d1 : decide (r < 1) = true := decide_eq_true h
 go_enter Tryz.func57, Tryz.ntmps57
 go_wp2
 go_ret2
 exact ⟨rfl, Below.refl _ _⟩
theorem rinter_any (c : ByteArray) (r : Int) (w : World) (hc : c.size ≤ 1000) (r2 : r ≤ 9223372036854775807) : Calls Tryz.prog 52 #[.string c, .int .i64 r] w (Iled c r w) := by
 unfold Iled
 by_cases h : r < 1
 ·obtain ⟨g1, g2, _⟩ := p_arg (c := c) h
  rw [g1, g2]
  exact rarg_any c r w h
 ·obtain ⟨R, rfl⟩ : ∃ I : Nat, r = I := ⟨r.toNat, by omega⟩
  rw [p_ok (by omega), iS_at (by omega)]
  exact rinter_core c R w (by omega) hc (by omega)
theorem rdeinter_any (c : ByteArray) (r : Int) (w : World) (hc : c.size ≤ 1000) (r2 : r ≤ 9223372036854775807) : Calls Tryz.prog 57 #[.string c, .int .i64 r] w (Dled c r w) := by
 unfold Dled
 by_cases h : r < 1
 ·obtain ⟨g1, _, g2⟩ := p_arg (c := c) h
  rw [g1, g2]
  exact rdarg_any c r w h
 ·obtain ⟨R, rfl⟩ : ∃ I : Nat, r = I := ⟨r.toNat, by omega⟩
  rw [p_ok (by omega), dS_at (by omega)]
  exact rdeinter_core c R w (by omega) hc (by omega)
end I11
end Go.Proofs.YtiodkllckcpinaaGreatDoor
