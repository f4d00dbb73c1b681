/- The laws' helper stripe of layer 15. -/
import Derived.Test.YtcakdhnlgeiodaaE15Help
import Derived.Test.YtcakdhnlgeiodaaE15OwnA
import Derived.Test.YtcakdhnlgeiodaaE15Ref7
namespace Go.Proofs.Ytcakdhnlgeiodaa.E15
set_option maxRecDepth 100000
open Go.RowKit Mem S14
open Go.Proofs.Ytcakdhnlgeiodaa.G5 Go.Proofs.Ytcakdhnlgeiodaa.G7
open Go.Proofs.Ytcakdhnlgeiodaa.G6 (IsSl rs rs_len rs_get rs_set rs_one rs_snoc make_zeros zeros_at own_zeros info_byte u8s conv_sl)
set_option linter.unusedVariables false
set_option linter.unusedSimpArgs false

/-- The first n blocks of a stripe, as shares. -/
def shA (T : R → List R) (n : Nat) : List Sh := (List.range n).map fun i => (pt i, T (pt i))
theorem shA_len (T : R → List R) (n : Nat) : (shA T n).length = n := by simp [shA]
theorem shA_on (T : R → List R) (n : Nat) : OnT T (shA T n) := fun s hs => by
  obtain ⟨i, _, rfl⟩ := List.mem_map.1 hs
  rfl
theorem shA_fst (T : R → List R) (n : Nat) : (shA T n).map Prod.fst = pts n := by
  unfold shA pts
  rw [List.map_map]
  rfl
theorem shA_get (T : R → List R) {n i : Nat} (h : i < n) : (shA T n)[i]'(by rw [shA_len]; exact h) = (pt i, T (pt i)) := by simp [shA]
theorem even_head {E : List (List R)} {m : Nat} (h : Even E m) : (E.headD []).length = m := by
  have h0 := h.lo
  rw [headD_get E (by omega)]
  exact h.len _ (List.getElem_mem _)
theorem even_ok {E : List (List R)} {m : Nat} (h : Even E m) : LenOk E := fun r hr => by rw [h.len r hr, even_head h]
theorem even_good {E : List (List R)} {m M : Nat} (h : Even E m) (hM : M ≤ 7) : ¬ EncBad E (M : Int) := fun hb => by
  have h0 := h.lo
  have h8 := h.hi
  rcases hb with e | e | e | e
  · rw [e] at h0; simp at h0
  · omega
  · omega
  · exact e (even_ok h)
theorem even_all {E : List (List R)} {m M : Nat} (h : Even E m) (hM : M ≤ 7) : shD (E ++ (List.range M).map fun j => stD E m (pt (E.length + j))) = shA (stD E m) (E.length + M) := by
  have h8 := h.hi
  refine List.ext_getElem (by rw [shD_len, shA_len, List.length_append, List.length_map, List.length_range]) fun i h1 h2 => ?_
  rw [shA_len] at h2
  rw [shA_get _ h2]
  have e : (shD (E ++ (List.range M).map fun j => stD E m (pt (E.length + j))))[i] = (pt i, (E ++ (List.range M).map fun j => stD E m (pt (E.length + j))).getD i []) := by simp only [shD, List.getElem_map, List.getElem_range]
  rw [e]
  by_cases hi : i < E.length
  · rw [stD_at (by omega) h.len hi, List.getD_eq_getElem?_getD, List.getD_eq_getElem?_getD, List.getElem?_append_left hi]
  · rw [List.getD_eq_getElem?_getD, List.getElem?_append_right (by omega), List.getElem?_map, List.getElem?_range (by omega)]
    show (pt i, stD E m (pt (E.length + (i - E.length)))) = _
    rw [show E.length + (i - E.length) = i by omega]
def StrP (w : World) (e : Ending) (w' : World) : Prop := ∃ (E : List (List R)) (m M : Nat) (A : Option Addr) (c : Nat) (v : Value), Even E m ∧ M ≤ 7 ∧ e = .returned (.tuple #[.slice A E.length c, v, .bool true]) ∧ IsBs w' A E.length c E ∧ w'.ownsRow w.heap.size 32 2 v (E.length + M) (rw_ (raws (shA (stD E m) (E.length + M)))) ∧ Below w.heap.size w w'
set_option maxHeartbeats 8000000 in
theorem stripe_any {A : Option Addr} {c n : Nat} {L : List (List R)} {w : World} (k : Nat) (hk : k ≤ 255) (h : IsBs w A n c L) :
    Calls Try.prog 20 #[.slice A n c, .int .u8 (k : Int)] w (StrP w) := by
  obtain ⟨M, hM⟩ : ∃ M, k % 8 = M := ⟨_, rfl⟩
  have hM7 : M ≤ 7 := by omega
  have d1 : (k : Int) % 8 = (M : Int) := by omega
  have d2 : (k : Int).tmod 8 = (M : Int) := by rw [Int.tmod_eq_emod_of_nonneg (by omega)]; omega
  have hgoal : ∀ (E : List (List R)) (m : Nat) (A : Option Addr) (c : Nat) (v : Value) (w' : World), Even E m → IsBs w' A E.length c E → w'.ownsRow w.heap.size 32 2 v (E.length + M) (rw_ (raws (shA (stD E m) (E.length + M)))) → Below w.heap.size w w' → StrP w (.returned (.tuple #[.slice A E.length c, v, .bool true])) w' := fun E m A c v w' h1 h2 h3 h4 => ⟨E, m, M, A, c, v, h1, hM7, rfl, h2, h3, h4⟩
  have cV := even_any h
  have k0 : (0 : Int) ≤ (k : Int) := by omega
  have k255 : (k : Int) ≤ 255 := by omega
  have M0 : (0 : Int) ≤ (M : Int) := by omega
  have M7 : (M : Int) ≤ 7 := by omega
  obtain ⟨P, hP⟩ : ∃ P, StrP w = P := ⟨_, rfl⟩
  rw [hP] at hgoal ⊢
  replace hgoal := Lib.hid hgoal
  replace cV := Lib.hid cV
  clear hP h hM
  show Calls _ _ _ _ (fun e w' => P e w')
  go_enter Try.func20, Try.ntmps20
  go_wp2_with fail
  refine (cV.out).mono ?_
  rintro e w1 ⟨E, m, v, hE, rfl, hrow, hb1⟩
  obtain ⟨_, A1, c1, rfl, hB1⟩ := IsBs.of_own hrow
  have cE := encode_own (M : Int) (by omega) hB1 (fun b hb => by rw [hE.len b hb]; have := hE.m40; omega)
  have hgood := even_good hE hM7
  have hhead := even_head hE
  have hall := even_all hE hM7
  have hE1 := hE.lo
  have hE8 := hE.hi
  have hg := Lib.hid (fun A c v w' => hgoal.out E m A c v w' hE)
  obtain ⟨n1, hn1⟩ : ∃ n1, E.length = n1 := ⟨_, rfl⟩
  replace cE := Lib.hid cE
  rw [hn1] at hB1 cE hE1 hE8 ⊢
  replace hB1 := Lib.hid hB1
  replace hb1 := Lib.hid hb1
  replace hgood := Lib.hid hgood
  replace hhead := Lib.hid hhead
  replace hall := Lib.hid hall
  replace hn1 := Lib.hid hn1
  clear hrow hE hgoal cV
  go_wp2_with fail
  refine (cE.out).mono ?_
  rintro e w2 ⟨q, bl, A2, c2, hq, rfl, hB2, hb2⟩
  have hq0 := hq.ok hgood.out
  subst hq0
  have hbl := (hq.yes rfl).2
  rw [hhead.out] at hbl
  have hbll : bl.length = M := by rw [hbl]; simp
  have hB3 := hB1.out.below hb2
  have hb3 := Lib.hid (chain hb1.out hb2)
  have hsz2 := hb3.out.size
  have cS : Calls Try.prog 35 #[.slice A1 n1 c1, .slice A2 M c2] w2 (fun e w' => ∃ v, e = .returned v ∧ w'.ownsRow w.heap.size 32 2 v (n1 + M) (rw_ (raws (shA (stD E m) (n1 + M)))) ∧ Below w2.heap.size w2 w') := by
    rw [hbll] at hB2
    refine (shares_any hB3 hB2 (by omega)).mono ?_
    rintro e w' ⟨v, h1, h2, h3⟩
    refine ⟨v, h1, ?_, h3⟩
    rw [hbl, show ((M : Int)).toNat = M from rfl, hall.out, List.length_append, List.length_map, List.length_range, hn1.out] at h2
    exact own_mono h2 hsz2
  replace hB3 := Lib.hid hB3
  rw [hbll]
  replace cS := Lib.hid cS
  clear hq hbl hbll hB1 hB2 hb2 hb1 hgood hhead hall cE
  go_wp2_with fail
  refine (cS.out).mono ?_
  rintro e w3 ⟨v, rfl, hr3, hb4⟩
  have hfin := Lib.hid (hg.out A1 c1 v w3 (by rw [hn1.out]; exact hB3.out.below hb4) (by rw [hn1.out]; exact hr3) (chain hb3.out hb4))
  rw [hn1.out] at hfin
  clear hr3 hb4 hb3 hB3 hg cS
  go_wp2
  first | go_ret3 | skip
  exact hfin.out
end Go.Proofs.Ytcakdhnlgeiodaa.E15
