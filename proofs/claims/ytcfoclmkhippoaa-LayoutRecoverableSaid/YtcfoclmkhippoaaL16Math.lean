/- Plain facts for layer 16: positions, the blocks of a stream, its stripes. No program is named here. -/
import Derived.Test.YtcfoclmkhippoaaE15Spec
namespace Go.Proofs.Ytcfoclmkhippoaa.L16
open Go.Proofs.Ytcfoclmkhippoaa.G5
open Go.Proofs.Ytcfoclmkhippoaa.G6
open Go.Proofs.Ytcfoclmkhippoaa.E15
set_option linter.unusedVariables false
set_option linter.unusedSimpArgs false

/-- A valid layout. -/
def Lok (D S : Int) : Prop := 1 ≤ D ∧ D ≤ 8 ∧ 0 ≤ S ∧ S ≤ 7
/-- What Check hands back. -/
def ChkQ (D S k : Int) : Prop := (k = 0 ∧ Lok D S) ∨ (k = 2 ∧ ¬ Lok D S)
theorem ChkQ.only {D S k k' : Int} (h : ChkQ D S k) (h' : ChkQ D S k') : k = k' := by
  rcases h with ⟨a, b⟩ | ⟨a, b⟩ <;> rcases h' with ⟨c, d⟩ | ⟨c, d⟩
  · rw [a, c]
  · exact absurd b d
  · exact absurd d b
  · rw [a, c]
/-- A position of a byte in a stream. -/
structure PosQ (D s r o x : Int) : Prop where
  s0 : 0 ≤ s
  r0 : 0 ≤ r
  r1 : r < D
  o0 : 0 ≤ o
  o1 : o < 28
  eq : x = (s * D + r) * 28 + o
theorem PosQ.only {D s r o s' r' o' x : Int} (h : PosQ D s r o x) (h' : PosQ D s' r' o' x) : s = s' ∧ r = r' ∧ o = o' := by
  have e1 := h.eq
  have e2 := h'.eq
  have a := h.o0; have b := h.o1; have c := h'.o0; have d := h'.o1
  have q : s * D + r = s' * D + r' := by omega
  have ho : o = o' := by omega
  have hD : 0 < D := by have := h.r0; have := h.r1; omega
  have r1 : (s * D + r) % D = r := by rw [Int.add_comm, Int.add_mul_emod_self_right, Int.emod_eq_of_lt h.r0 h.r1]
  have r2 : (s' * D + r') % D = r' := by rw [Int.add_comm, Int.add_mul_emod_self_right, Int.emod_eq_of_lt h'.r0 h'.r1]
  have hr : r = r' := by rw [← r1, ← r2, q]
  refine ⟨?_, hr, ho⟩
  have : s * D = s' * D := by omega
  exact Int.eq_of_mul_eq_mul_right (by omega) this
theorem PosQ.of {D x : Int} (hD : 0 < D) (hx : 0 ≤ x) : PosQ D (x / 28 / D) (x / 28 % D) (x % 28) x := by
  have hq : 0 ≤ x / 28 := by omega
  refine ⟨Int.ediv_nonneg hq (by omega), Int.emod_nonneg _ (by omega), Int.emod_lt_of_pos _ hD, by omega, by omega, ?_⟩
  have := Int.mul_ediv_add_emod (x / 28) D
  rw [Int.mul_comm] at this
  rw [this]
  omega
/-- What Locate hands back. -/
structure LocQ (D S x s r o k : Int) : Prop where
  err : k = 0 ∨ k = 2
  yes : k = 0 → Lok D S ∧ 0 ≤ x ∧ x ≤ 2147483647 ∧ PosQ D s r o x
  no : k = 2 → ¬ (Lok D S ∧ 0 ≤ x ∧ x ≤ 2147483647) ∧ s = 0 ∧ r = 0 ∧ o = 0
theorem LocQ.only {D S x s r o k s' r' o' k' : Int} (h : LocQ D S x s r o k) (h' : LocQ D S x s' r' o' k') : s = s' ∧ r = r' ∧ o = o' ∧ k = k' := by
  rcases h.err with e | e <;> rcases h'.err with e' | e'
  · obtain ⟨_, _, _, p⟩ := h.yes e
    obtain ⟨_, _, _, p'⟩ := h'.yes e'
    obtain ⟨a, b, c⟩ := p.only p'
    exact ⟨a, b, c, by rw [e, e']⟩
  · obtain ⟨a, b, c, _⟩ := h.yes e
    exact absurd ⟨a, b, c⟩ (h'.no e').1
  · obtain ⟨a, b, c, _⟩ := h'.yes e'
    exact absurd ⟨a, b, c⟩ (h.no e).1
  · obtain ⟨_, a, b, c⟩ := h.no e
    obtain ⟨_, a', b', c'⟩ := h'.no e'
    exact ⟨by rw [a, a'], by rw [b, b'], by rw [c, c'], by rw [e, e']⟩
/-- What Offset hands back. -/
structure OffQ (D S s r o x k : Int) : Prop where
  err : k = 0 ∨ k = 2
  yes : k = 0 → Lok D S ∧ PosQ D s r o x ∧ x ≤ 2147483647
  no : k = 2 → (¬ ∃ y, Lok D S ∧ PosQ D s r o y ∧ y ≤ 2147483647) ∧ x = 0
theorem OffQ.only {D S s r o x k x' k' : Int} (h : OffQ D S s r o x k) (h' : OffQ D S s r o x' k') : x = x' ∧ k = k' := by
  rcases h.err with e | e <;> rcases h'.err with e' | e'
  · obtain ⟨_, p, _⟩ := h.yes e
    obtain ⟨_, p', _⟩ := h'.yes e'
    exact ⟨by rw [p.eq, p'.eq], by rw [e, e']⟩
  · exact absurd ⟨_, h.yes e⟩ (h'.no e').1
  · exact absurd ⟨_, h'.yes e'⟩ (h.no e).1
  · exact ⟨by rw [(h.no e).2, (h'.no e').2], by rw [e, e']⟩
theorem PosQ.nonneg {D s r o x : Int} (h : PosQ D s r o x) : 0 ≤ x := by
  have h1 := h.eq
  have h2 : 0 ≤ s * D := Int.mul_nonneg h.s0 (by have := h.r0; have := h.r1; omega)
  have := h.r0
  have := h.o0
  omega

/-! ### Blocks of a stream -/
/-- i bytes of a stream from a on; zeros behind its end. -/
def bk (x : List R) (a i : Nat) : List R := (List.range i).map fun j => x.getD (a + j) 0
theorem bk_len (x : List R) (a i : Nat) : (bk x a i).length = i := by simp [bk]
theorem bk_snoc (x : List R) (a i : Nat) : bk x a (i + 1) = bk x a i ++ [x.getD (a + i) 0] := by simp [bk, List.range_succ]
theorem bk_get (x : List R) (a : Nat) {i j : Nat} (h : j < i) : (bk x a i).getD j 0 = x.getD (a + j) 0 := by
  simp [bk, List.getD_eq_getElem?_getD, h]
theorem bk_drop (x : List R) (a b i : Nat) : bk (x.drop a) b i = bk x (a + b) i := by
  unfold bk
  refine List.map_congr_left fun j _ => ?_
  simp [List.getD_eq_getElem?_getD, Nat.add_assoc]
theorem bk_app_left {x y : List R} {a i : Nat} (h : a + i ≤ x.length) : bk (x ++ y) a i = bk x a i := by
  unfold bk
  refine List.map_congr_left fun j hj => ?_
  have := List.mem_range.1 hj
  rw [List.getD_eq_getElem?_getD, List.getD_eq_getElem?_getD, List.getElem?_append_left (by omega)]
theorem bk_app_right {x y : List R} {a i : Nat} : bk (x ++ y) (x.length + a) i = bk y a i := by
  unfold bk
  refine List.map_congr_left fun j hj => ?_
  rw [List.getD_eq_getElem?_getD, List.getD_eq_getElem?_getD, List.getElem?_append_right (by omega)]
  congr 2
  omega
/-- Filled up with zeros. -/
theorem bk_pad (y : List R) (k s e : Nat) (hs : s = min (k * 28) y.length) (he : e = min (s + 28) y.length) : (y.take e).drop s ++ List.replicate (28 - (e - s)) (0 : R) = bk y (28 * k) 28 := by
  have hse : s ≤ e := by omega
  have hes : e - s ≤ 28 := by omega
  have hey : e ≤ y.length := by omega
  refine list_eq (by rw [bk_len, List.length_append, List.length_drop, List.length_take, List.length_replicate]; omega) fun j hj => ?_
  have hj28 : j < 28 := by
    rw [List.length_append, List.length_drop, List.length_take, List.length_replicate] at hj
    omega
  rw [bk_get _ _ hj28, List.getD_eq_getElem?_getD, List.getD_eq_getElem?_getD]
  by_cases h : j < e - s
  · rw [List.getElem?_append_left (by rw [List.length_drop, List.length_take]; omega), List.getElem?_drop, List.getElem?_take, if_pos (by omega)]
    congr 2
    omega
  · rw [List.getElem?_append_right (by rw [List.length_drop, List.length_take]; omega), List.getElem?_replicate, if_pos (by rw [List.length_drop, List.length_take]; omega), List.getElem?_eq_none (by omega)]
    rfl
/-- The data blocks of the stripe that begins at a. -/
def dat (D : Nat) (x : List R) (a : Nat) : List (List R) := (List.range D).map fun k => bk x (a + 28 * k) 28
theorem dat_len (D : Nat) (x : List R) (a : Nat) : (dat D x a).length = D := by simp [dat]
theorem dat_get {D : Nat} (x : List R) (a : Nat) {k : Nat} (h : k < D) : (dat D x a).getD k [] = bk x (a + 28 * k) 28 := by
  simp [dat, List.getD_eq_getElem?_getD, h]
theorem dat_28 {D : Nat} {x : List R} {a : Nat} : ∀ b ∈ dat D x a, b.length = 28 := fun b hb => by
  obtain ⟨k, _, rfl⟩ := List.mem_map.1 hb
  exact bk_len _ _ _
theorem dat_drop (D : Nat) (x : List R) (a : Nat) : dat D (x.drop a) 0 = dat D x a := by
  unfold dat
  refine List.map_congr_left fun k _ => ?_
  rw [bk_drop, Nat.zero_add]
theorem dat_app_left {D : Nat} {x y : List R} {a : Nat} (h : a + 28 * D ≤ x.length) : dat D (x ++ y) a = dat D x a := by
  unfold dat
  refine List.map_congr_left fun k hk => ?_
  have := List.mem_range.1 hk
  exact bk_app_left (by omega)
theorem dat_app_right {D : Nat} {x y : List R} {a : Nat} : dat D (x ++ y) (x.length + a) = dat D y a := by
  unfold dat
  refine List.map_congr_left fun k hk => ?_
  rw [Nat.add_assoc]
  exact bk_app_right
theorem dat_head {D : Nat} (x : List R) (a : Nat) (h : 0 < D) : ((dat D x a).headD []).length = 28 := by
  rcases hd : dat D x a with _ | ⟨b, l⟩
  · have := dat_len D x a
    rw [hd] at this
    simp at this
    omega
  · exact dat_28 (D := D) (x := x) (a := a) b (by rw [hd]; exact List.mem_cons_self)
theorem dat_good {D S : Nat} {x : List R} {a : Nat} (h : 0 < D) (h15 : D + S ≤ 15) : ¬ EncBad (dat D x a) (S : Int) := by
  have hl := dat_len D x a
  rintro (e | e | e | e)
  · rw [e] at hl
    simp at hl
    omega
  · omega
  · omega
  · exact e fun r hr => by rw [dat_head x a h, dat_28 r hr]
/-- The blocks of the stripe that begins at a. -/
def spr (D S : Nat) (x : List R) (a : Nat) : List (List R) := (List.range S).map fun j => stD (dat D x a) 28 (pt (D + j))
def stp (D S : Nat) (x : List R) (a : Nat) : List (List R) := dat D x a ++ spr D S x a
theorem spr_len (D S : Nat) (x : List R) (a : Nat) : (spr D S x a).length = S := by simp [spr]
theorem stp_len (D S : Nat) (x : List R) (a : Nat) : (stp D S x a).length = D + S := by rw [stp, List.length_append, dat_len, spr_len]
theorem stp_28 {D S : Nat} {x : List R} {a : Nat} : ∀ b ∈ stp D S x a, b.length = 28 := fun b hb => by
  rcases List.mem_append.1 hb with h | h
  · exact dat_28 b h
  · obtain ⟨j, _, rfl⟩ := List.mem_map.1 h
    exact (stD_stripe _ _).len _
theorem stp_get {D S : Nat} (x : List R) (a : Nat) {k : Nat} (h : k < D) : (stp D S x a).getD k [] = bk x (a + 28 * k) 28 := by
  rw [← dat_get x a h, stp, List.getD_eq_getElem?_getD, List.getD_eq_getElem?_getD, List.getElem?_append_left (by rw [dat_len]; exact h)]
theorem enc_spr {D S : Nat} {x : List R} {a : Nat} {k : Int} {bl : List (List R)} (h : 0 < D) (h15 : D + S ≤ 15) (hq : EncQ (dat D x a) (S : Int) k bl) : k = 0 ∧ bl = spr D S x a := by
  have e := hq.ok (dat_good h h15)
  refine ⟨e, ?_⟩
  rw [(hq.yes e).2, dat_head x a h, dat_len]
  rfl
/-- The number of stripes. -/
def cnt (D n : Nat) : Nat := (n + 28 * D - 1) / (28 * D)
theorem cnt_lt {D n t : Nat} (h : 0 < D) : t < cnt D n ↔ t * (28 * D) < n := by
  unfold cnt
  rw [show t < (n + 28 * D - 1) / (28 * D) ↔ t + 1 ≤ (n + 28 * D - 1) / (28 * D) from Iff.rfl, Nat.le_div_iff_mul_le (by omega), Nat.add_mul]
  omega
theorem cnt_only {D n m : Nat} (h : 0 < D) (h1 : n ≤ m * (28 * D)) (h2 : ∀ t, t < m → t * (28 * D) < n) : m = cnt D n := by
  rcases Nat.lt_trichotomy m (cnt D n) with e | e | e
  · have := (cnt_lt h).1 e
    omega
  · exact e
  · have := (cnt_lt h).2 (h2 _ e)
    omega
theorem cnt_top {D n : Nat} (h : 0 < D) : n ≤ cnt D n * (28 * D) := by
  have := (cnt_lt (D := D) (n := n) (t := cnt D n) h).2
  omega
theorem cnt_le {D n : Nat} (h : 0 < D) : cnt D n ≤ n := by
  rcases Nat.eq_zero_or_pos (cnt D n) with e | e
  · omega
  · have := (cnt_lt (D := D) (n := n) (t := cnt D n - 1) h).1 (by omega)
    have h2 : (cnt D n - 1) * 1 ≤ (cnt D n - 1) * (28 * D) := Nat.mul_le_mul_left _ (by omega)
    omega
/-- The first t stripes, and all. -/
def fro (D S : Nat) (x : List R) (t : Nat) : List (List (List R)) := (List.range t).map fun i => stp D S x (i * (28 * D))
def sts (D S : Nat) (x : List R) : List (List (List R)) := fro D S x (cnt D x.length)
theorem fro_len (D S : Nat) (x : List R) (t : Nat) : (fro D S x t).length = t := by simp [fro]
theorem fro_snoc (D S : Nat) (x : List R) (t : Nat) : fro D S x (t + 1) = fro D S x t ++ [stp D S x (t * (28 * D))] := by simp [fro, List.range_succ]
theorem fro_get {D S : Nat} (x : List R) {t i : Nat} (h : i < t) : (fro D S x t)[i]'(by rw [fro_len]; exact h) = stp D S x (i * (28 * D)) := by simp [fro]
theorem sts_len (D S : Nat) (x : List R) : (sts D S x).length = cnt D x.length := fro_len _ _ _ _
/-- Whole stripes ahead. -/
theorem sts_app {D S m : Nat} {x y : List R} (h : 0 < D) (hx : x.length = m * (28 * D)) : sts D S (x ++ y) = sts D S x ++ sts D S y := by
  have c1 : cnt D x.length = m := (cnt_only h (by omega) (fun t ht => by rw [hx]; exact Nat.mul_lt_mul_of_pos_right ht (by omega))).symm
  have c2 : cnt D (x ++ y).length = m + cnt D y.length := by
    refine (cnt_only h ?_ fun t ht => ?_).symm
    · rw [List.length_append, Nat.add_mul, hx]
      have := cnt_top (n := y.length) h
      omega
    · rw [List.length_append, hx]
      by_cases e : t < m
      · have : t * (28 * D) < m * (28 * D) := Nat.mul_lt_mul_of_pos_right e (by omega)
        omega
      · obtain ⟨u, rfl⟩ : ∃ u, t = m + u := ⟨t - m, by omega⟩
        have := (cnt_lt (D := D) (n := y.length) (t := u) h).1 (by omega)
        rw [Nat.add_mul]
        omega
  refine List.ext_getElem (by rw [List.length_append, sts_len, sts_len, sts_len, c2, c1]) fun i h1 h2 => ?_
  rw [sts_len, c2] at h1
  have e1 : (sts D S (x ++ y))[i]'(by rw [sts_len, c2]; exact h1) = stp D S (x ++ y) (i * (28 * D)) := fro_get _ (by rw [c2]; exact h1)
  rw [e1]
  by_cases e : i < m
  · rw [List.getElem_append_left (by rw [sts_len, c1]; exact e)]
    have e2 : (sts D S x)[i]'(by rw [sts_len, c1]; exact e) = stp D S x (i * (28 * D)) := fro_get _ (by rw [c1]; exact e)
    rw [e2]
    have : dat D (x ++ y) (i * (28 * D)) = dat D x (i * (28 * D)) := dat_app_left (by
      rw [hx]
      have : (i + 1) * (28 * D) ≤ m * (28 * D) := Nat.mul_le_mul_right _ (by omega)
      rw [Nat.add_mul] at this
      omega)
    unfold stp spr
    rw [this]
  · rw [List.getElem_append_right (by rw [sts_len, c1]; omega)]
    obtain ⟨u, rfl⟩ : ∃ u, i = m + u := ⟨i - m, by omega⟩
    have e2 : (sts D S y)[m + u - (sts D S x).length]'(by rw [sts_len, sts_len, c1]; omega) = stp D S y (u * (28 * D)) := by
      rw [show (sts D S y)[m + u - (sts D S x).length]'(by rw [sts_len, sts_len, c1]; omega) = (sts D S y)[u]'(by rw [sts_len]; omega) from by congr 1; rw [sts_len, c1]; omega]
      exact fro_get _ (by omega)
    rw [e2]
    have : dat D (x ++ y) ((m + u) * (28 * D)) = dat D y (u * (28 * D)) := by
      rw [Nat.add_mul, ← hx]
      exact dat_app_right
    unfold stp spr
    rw [this]
/-- What Stripes hands back (of a short stream). -/
structure StsQ (D S : Int) (x : List R) (k : Int) (L : List (List (List R))) : Prop where
  err : k = 0 ∨ k = 2
  yes : k = 0 → Lok D S ∧ L = sts D.toNat S.toNat x
  no : k = 2 → ¬ Lok D S ∧ L = []
theorem StsQ.only {D S : Int} {x : List R} {k k' : Int} {L L' : List (List (List R))} (h : StsQ D S x k L) (h' : StsQ D S x k' L') : k = k' ∧ L = L' := by
  rcases h.err with e | e <;> rcases h'.err with e' | e'
  · exact ⟨by rw [e, e'], by rw [(h.yes e).2, (h'.yes e').2]⟩
  · exact absurd (h.yes e).1 (h'.no e').1
  · exact absurd (h'.yes e').1 (h.no e).1
  · exact ⟨by rw [e, e'], by rw [(h.no e).2, (h'.no e').2]⟩
end Go.Proofs.Ytcfoclmkhippoaa.L16
