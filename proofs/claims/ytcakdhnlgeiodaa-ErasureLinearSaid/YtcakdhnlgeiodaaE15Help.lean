/- The laws' helpers short and even of layer 15. -/
import Derived.Test.YtcakdhnlgeiodaaE15Mk
import Derived.Test.YtcakdhnlgeiodaaE15Con
namespace Go.Proofs.Ytcakdhnlgeiodaa.E15
set_option maxRecDepth 100000
open Go.RowKit Mem S14
open Go.Proofs.Ytcakdhnlgeiodaa.G5 Go.Proofs.Ytcakdhnlgeiodaa.G7
open Go.Proofs.Ytcakdhnlgeiodaa.G6 (IsSl rs rs_len rs_get rs_set rs_one rs_snoc make_zeros zeros_at own_zeros info_byte u8s conv_sl)
set_option linter.unusedVariables false
set_option linter.unusedSimpArgs false

/-- A Bool that says whether P. -/
def IsBh (P : Prop) (e : Ending) : Prop := ∃ b : Bool, e = .returned (.bool b) ∧ (b = true ↔ P)
def Short (L : List (List R)) : Prop := L.length ≤ 16 ∧ ∀ b ∈ L, b.length ≤ 40
set_option maxHeartbeats 4000000 in
theorem short_any {A : Option Addr} {c n : Nat} {L : List (List R)} {w : World} (h : IsBs w A n c L) :
    Calls Try.prog 11 #[.slice A n c] w fun e w' => IsBh (Short L) e ∧ w = w' := by
  have hlen := h.len
  have hle := h.le
  have hcm := h.capm
  unfold maxLen at hcm
  have n63 : (n : Int) ≤ 9223372036854775807 := by omega
  have hget := fun (k : Nat) (hk : k < L.length) => h.get hk
  have hyes : (∀ j (hj : j < L.length), L[j].length ≤ 40) → ∀ b ∈ L, b.length ≤ 40 := fun h r hr => by
    obtain ⟨j, hj, rfl⟩ := List.getElem_of_mem hr
    exact h j hj
  have hno : ∀ k (hk : k < L.length), 40 < L[k].length → ¬ Short L := fun k hk h h' => by
    have := h'.2 _ (List.getElem_mem hk)
    omega
  replace hlen := Lib.hid hlen
  replace hget := Lib.hid hget
  replace hyes := Lib.hid hyes
  replace hno := Lib.hid hno
  clear h
  go_enter Try.func11, Try.ntmps11
  go_wp2
  go_loop [6] (fun iv => ∃ (k : Nat), iv = .int .i64 (k : Int) ∧ k ≤ n ∧ Hid (∀ j (hj : j < L.length), j < k → L[j].length ≤ 40)) (fun iv => n - (intOf iv).toNat)
  case atStart => exact ⟨0, rfl, Nat.zero_le _, Lib.hid (fun j _ h => by omega)⟩
  case round =>
    obtain ⟨k, rfl, hk, hI⟩ := hrel
    by_cases hlt : k < n
    · have dk : decide ((k : Int) < (n : Int)) = true := decide_eq_true (by omega)
      have k0 : (0 : Int) ≤ (k : Int) := by omega
      have k1 : (k : Int) < (n : Int) := by omega
      have hkl : k < L.length := by have := hlen.out; omega
      obtain ⟨b, o, rfl, hbl, g1⟩ := hget.out k hkl
      have hn' := hno.out k hkl
      have hs : L[k].length ≤ 40 → ∀ j (hj : j < L.length), j < k + 1 → L[j].length ≤ 40 := fun h j hj h1 => by
        by_cases e : j = k
        · subst e; exact h
        · exact hI.out j hj (by omega)
      obtain ⟨S, hS⟩ : ∃ S, str L[k] = S := ⟨_, rfl⟩
      have hz : S.size = L[k].length := by rw [← hS, size_str]
      rw [hS] at g1
      rw [← hz] at hn' hs
      replace hs := Lib.hid hs
      replace hn' := Lib.hid hn'
      clear hS hz hget hbl hI hyes hno
      by_cases e : 40 < S.size
      · have q1 : decide (40 < (S.size : Int)) = true := decide_eq_true (by omega)
        have hfin := Lib.hid (hn'.out e)
        clear hs hn' e
        go_wp2
        go_ret
        exact ⟨⟨false, rfl, ⟨fun h => (by cases h), fun h => absurd h hfin.out⟩⟩, rfl⟩
      · have q1 : decide (40 < (S.size : Int)) = false := decide_eq_false (by omega)
        have hs2 := Lib.hid (hs.out (by omega))
        clear hs hn' e
        go_wp2
        go_round
        case rel => exact ⟨k + 1, by go_num, by omega, hs2⟩
        case measure => simp [intOf]; omega
    · obtain rfl : k = n := by omega
      have dk : decide ((k : Int) < (k : Int)) = false := decide_eq_false (by omega)
      have hall := Lib.hid (hyes.out (fun j hj => hI.out j hj (by have := hlen.out; omega)))
      clear hyes hno hget hI
      by_cases e : k ≤ 16
      · have q1 : decide ((k : Int) ≤ 16) = true := decide_eq_true (by omega)
        have hfin : Hid (Short L) := Lib.hid ⟨by have := hlen.out; omega, hall.out⟩
        go_wp2
        go_ret
        exact ⟨⟨true, rfl, ⟨fun _ => hfin.out, fun _ => rfl⟩⟩, rfl⟩
      · have q1 : decide ((k : Int) ≤ 16) = false := decide_eq_false (by omega)
        have hfin : Hid (¬ Short L) := Lib.hid (fun h => by have := h.1; have := hlen.out; omega)
        go_wp2
        go_ret
        exact ⟨⟨false, rfl, ⟨fun h => (by cases h), fun h => absurd h hfin.out⟩⟩, rfl⟩
/-- Blocks of equal length, one to eight of them. -/
structure Even (E : List (List R)) (m : Nat) : Prop where
  lo : 1 ≤ E.length
  hi : E.length ≤ 8
  len : ∀ b ∈ E, b.length = m
  m40 : m ≤ 40
def EvP (w : World) (e : Ending) (w' : World) : Prop := ∃ (E : List (List R)) (m : Nat) (v : Value), Even E m ∧ e = .returned v ∧ w'.ownsRow w.heap.size 9 1 v E.length (bs E) ∧ Below w.heap.size w w'
theorem str_take (b : List R) (k : Nat) (h : k ≤ b.length) : (str b).extract 0 k = str (b.take k) := by
  apply ByteArray.ext
  rw [ByteArray.data_extract]
  apply Array.toList_inj.1
  rw [Array.toList_extract]
  simp [str, G6.u8s, List.map_take]
set_option maxHeartbeats 8000000 in
theorem even_any {A : Option Addr} {c n : Nat} {L : List (List R)} {w : World} (h : IsBs w A n c L) :
    Calls Try.prog 22 #[.slice A n c] w (EvP w) := by
  have hgoal : ∀ (E : List (List R)) (m : Nat) (v : Value) (w' : World), Even E m → w'.ownsRow w.heap.size 9 1 v E.length (bs E) → Below w.heap.size w w' → EvP w (.returned v) w' := fun E m v w' h1 h2 h3 => ⟨E, m, v, h1, rfl, h2, h3⟩
  obtain ⟨P, hP⟩ : ∃ P, EvP w = P := ⟨_, rfl⟩
  rw [hP] at hgoal ⊢
  replace hgoal := Lib.hid hgoal
  clear hP
  show Calls _ _ _ _ (fun e w' => P e w')
  by_cases z0 : n = 0
  · subst z0
    have o1 := World.ownsRow_lit (base := w.heap.size) (e := 9) (size := 1) w #[.string ⟨#[97]⟩] 1 (Nat.le_refl _) (by unfold maxLen; omega) rfl
    have hfin := Lib.hid (hgoal.out [[97#8]] 1 _ _ ⟨by decide, by decide, by decide, by decide⟩ o1 ((Below.refl _ _).alloc (Nat.le_refl _) _))
    clear hgoal h o1
    go_enter Try.func22, Try.ntmps22
    go_wp2
    first | go_ret | skip
    exact hfin.out
  have t0 : ((n : Int) == 0) = false := beq_eq_false_iff_ne.2 (by omega)
  have hle := h.le
  have hcm := h.capm
  unfold maxLen at hcm
  have n63 : (n : Int) ≤ 9223372036854775807 := by omega
  have c63 : (c : Int) ≤ 9223372036854775807 := by omega
  obtain ⟨N, hN⟩ : ∃ N, min n 8 = N := ⟨_, rfl⟩
  have hN1 : N ≤ n := by omega
  have hN8 : N ≤ 8 := by omega
  have hN0 : 1 ≤ N := by omega
  have hNc : N ≤ c := by omega
  have hNc2 : (N : Int) ≤ (c : Int) := by omega
  have hmin : (if (8 : Int) < (n : Int) then (8 : Int) else (n : Int)) = (N : Int) := by split <;> omega
  have h' := h.take hN1
  have hlen := h'.len
  have hget := fun (k : Nat) (hk : k < (L.take N).length) => h'.get hk
  obtain ⟨b0, o0, hA0, -, -⟩ := h'.get (k := 0) (by omega)
  obtain ⟨L', hL'⟩ : ∃ L', L.take N = L' := ⟨_, rfl⟩
  rw [hL'] at hlen
  simp only [hL'] at hget
  subst hA0
  replace hget := Lib.hid hget
  replace hlen := Lib.hid hlen
  clear h h'
  go_enter Try.func22, Try.ntmps22
  go_wp2
  go_loop [3, 18] (fun mv iv => ∃ (k M : Nat), iv = .int .i64 (k : Int) ∧ mv = .int .i64 (M : Int) ∧ k ≤ N ∧ M ≤ 40 ∧ Hid (∀ j (hj : j < L'.length), j < k → M ≤ L'[j].length)) (fun _ iv => N - (intOf iv).toNat)
  case atStart => exact ⟨0, 40, rfl, rfl, Nat.zero_le _, Nat.le_refl _, Lib.hid (fun j _ h => by omega)⟩
  case round =>
    obtain ⟨k, M, rfl, rfl, hk, hM, hI⟩ := hrel
    by_cases hlt : k < N
    · have dk : decide ((k : Int) < (N : Int)) = true := decide_eq_true (by omega)
      have k0 : (0 : Int) ≤ (k : Int) := by omega
      have k1 : (k : Int) < (N : Int) := by omega
      have hkl : k < L'.length := by have := hlen.out; omega
      obtain ⟨b, o, e1, hbl, g1⟩ := hget.out k hkl
      cases e1
      obtain ⟨S, hS⟩ : ∃ S, str L'[k] = S := ⟨_, rfl⟩
      have hz : S.size = L'[k].length := by rw [← hS, size_str]
      rw [hS] at g1
      obtain ⟨M2, hM2⟩ : ∃ M2, min M S.size = M2 := ⟨_, rfl⟩
      have hmin3 : (if S.size < M then (S.size : Int) else (M : Int)) = (M2 : Int) := by split <;> omega
      have hmin2 : (if (S.size : Int) < (M : Int) then (S.size : Int) else (M : Int)) = (M2 : Int) := by split <;> omega
      have hs2 : Hid (∀ j (hj : j < L'.length), j < k + 1 → M2 ≤ L'[j].length) := Lib.hid (fun j hj h1 => by
        by_cases e : j = k
        · subst e; omega
        · have := hI.out j hj (by omega); omega)
      have hM40 : M2 ≤ 40 := by omega
      clear hS hz hget hbl hI hM2 hmin
      go_wp2
      go_round
      case rel => exact ⟨k + 1, M2, by go_num, rfl, by omega, hM40, hs2⟩
      case measure => simp [intOf]; omega
    · obtain rfl : k = N := by omega
      have dk : decide ((k : Int) < (k : Int)) = false := decide_eq_false (by omega)
      have hall : ∀ j (hj : j < L'.length), M ≤ L'[j].length := fun j hj => hI.out j hj (by have := hlen.out; omega)
      have hEl : (L'.map fun b => b.take M).length = k := by rw [List.length_map, hlen.out]
      have hev : Even (L'.map fun b => b.take M) M := by
        refine ⟨by omega, by omega, fun b hb => ?_, hM⟩
        obtain ⟨b', hb', rfl⟩ := List.mem_map.1 hb
        obtain ⟨j, hj, rfl⟩ := List.getElem_of_mem hb'
        rw [List.length_take]
        have := hall j hj
        omega
      have hgd := Lib.hid (fun v w' => hgoal.out _ M v w' hev)
      rw [hEl] at hgd
      have hst := fun (j : Nat) (hj : j < L'.length) (S : ByteArray) (hS : str L'[j] = S) => show bs ((L'.map fun b => b.take M).take (j + 1)) = bs ((L'.map fun b => b.take M).take j) ++ [.string (S.extract 0 M)] by
        rw [List.take_add_one, List.getElem?_eq_getElem (by rw [List.length_map]; exact hj), List.getElem_map]
        show bs (_ ++ [_]) = _
        rw [bs_snoc, ← hS, str_take _ _ (hall j hj)]
      have hfull : Hid (bs ((L'.map fun b => b.take M).take k) = bs (L'.map fun b => b.take M)) := Lib.hid (by rw [List.take_of_length_le (by omega)])
      have o1 : (w.alloc (.cells #[] 9)).ownsRow w.heap.size 9 1 (.slice (some ⟨w.heap.size, 0, none⟩) 0 0) 0 (bs ((L'.map fun b => b.take M).take 0)) := empty_at rfl (Nat.le_refl _)
      have o3 : Below w.heap.size w (w.alloc (.cells #[] 9)) := (Below.refl _ _).alloc (Nat.le_refl _) _
      obtain ⟨j0, hj0, hy0, hy1, hy2⟩ := info_parts info_str
      replace hst := Lib.hid hst
      have hall2 := Lib.hid hall
      replace o1 := Lib.hid o1
      replace o3 := Lib.hid o3
      obtain ⟨E, hE⟩ : ∃ E, (L'.map fun b => b.take M) = E := ⟨_, rfl⟩
      rw [hE] at hgd hfull o1
      simp only [hE] at hst
      clear hall hev hgoal hI hmin hEl
      go_wp2
      go_loopw [5, 32] (fun vv iv wr => ∃ (j : Nat) (v : Value), v = vv ∧ iv = .int .i64 (j : Int) ∧ j ≤ k ∧ Hid (wr.ownsRow w.heap.size 9 1 v j (bs (E.take j))) ∧ Hid (Below w.heap.size w wr)) (fun _ iv _ => k - (intOf iv).toNat)
      case atStart => exact ⟨0, _, rfl, rfl, Nat.zero_le _, o1, o3⟩
      case round =>
        clear o1 o3
        obtain ⟨j, v, rfl, rfl, hj, hrow, hb⟩ := hrel
        by_cases hjt : j < k
        · have dj : decide ((j : Int) < (k : Int)) = true := decide_eq_true (by omega)
          have j0' : (0 : Int) ≤ (j : Int) := by omega
          have j1 : (j : Int) < (k : Int) := by omega
          have hjl : j < L'.length := by have := hlen.out; omega
          obtain ⟨b, o, e1, hbl, g1⟩ := hget.out j hjl
          cases e1
          have g1 := (hb.out.cell (p := ⟨b0, o0 + j, none⟩) hbl).trans g1
          obtain ⟨S, hS⟩ : ∃ S, str L'[j] = S := ⟨_, rfl⟩
          have hz : S.size = L'[j].length := by rw [← hS, size_str]
          have hMS : M ≤ S.size := by rw [hz]; exact hall2.out j hjl
          have hMS2 : (M : Int) ≤ (S.size : Int) := by omega
          have M0 : (0 : Int) ≤ (M : Int) := by omega
          rw [hS] at g1
          have hsn := Lib.hid (hst.out j hjl S hS)
          have hro := hrow.out
          have hbo := hb.out
          have hbs := hbo.size
          clear hS hz hbl hrow hb hget hst hall2 hE
          go_wp2_with (at_builtin; refine wpList_append_own _ rfl _ _ 22 rfl w.heap.size 9 j0 (.string ⟨#[]⟩) 1 16 Try.underlying22 hj0 hy0 hy1 hy2 rfl (by decide) _ _ _ rfl (hro.alloc _) ⟨wr.heap.size, 0, none⟩ 1 1 [.string (S.extract 0 M)] rfl rfl (one_new _ _ _) (one_str _) (by unfold maxLen; omega) (by omega) (by simp; omega) ?_; intro v' w6 hown' hgrow _)
          have hb6 := (hbo.alloc hbs _).grown hgrow (by simp; omega) (fun j hj => (hro.lt j hj).1)
          rw [← hsn.out] at hown'
          clear hgrow hro hbo
          go_roundw
          case rel => exact ⟨j + 1, _, rfl, by go_num, by omega, Lib.hid hown', Lib.hid hb6⟩
          case measure => simp [intOf]; omega
        · obtain rfl : j = k := by omega
          have dj : decide ((j : Int) < (j : Int)) = false := decide_eq_false (by omega)
          have hfin := Lib.hid (hgd.out v wr (by rw [← hfull.out]; exact hrow.out) hb.out)
          clear hgd hrow hb hst hall2 hget hfull
          go_wp2
          first | go_ret | skip
          exact hfin.out
end Go.Proofs.Ytcakdhnlgeiodaa.E15
