/- The contract of the landed firstOfEach of layer 15. -/
import Derived.Test.YtcfoclmkhippoaaE15Own4
import Derived.Test.YtcfoclmkhippoaaE15Mk
namespace Go.Proofs.Ytcfoclmkhippoaa.E15
set_option maxRecDepth 100000
open Go.RowKit Mem S14
open Go.Proofs.Ytcfoclmkhippoaa.G5 Go.Proofs.Ytcfoclmkhippoaa.G7
open Go.Proofs.Ytcfoclmkhippoaa.G6 (IsSl rs rs_len rs_get rs_set rs_one rs_snoc make_zeros zeros_at own_zeros info_byte u8s conv_sl)
set_option linter.unusedVariables false
set_option linter.unusedSimpArgs false

/-- The numbers that are known, as cells. -/
def seenL (acc : List Sh) : List Value := (List.range 15).map fun i => .bool (decide (pt i ∈ acc.map Prod.fst))
theorem seen_len (acc : List Sh) : (seenL acc).length = 15 := by simp [seenL]
theorem seen_nil : seenL [] = List.replicate 15 (.bool false) := by
  rfl
theorem seen_get (acc : List Sh) (X : R) (h : X.toNat < 15) : (seenL acc)[X.toNat]'(by rw [seen_len]; exact h) = .bool (decide (X ∈ acc.map Prod.fst)) := by
  simp only [seenL, List.getElem_map, List.getElem_range, pt_of]
theorem seen_set (acc : List Sh) (s : Sh) (h : s.1.toNat < 15) : (seenL acc).set s.1.toNat (.bool true) = seenL (acc ++ [s]) := by
  refine List.ext_getElem (by rw [List.length_set, seen_len, seen_len]) fun i h1 h2 => ?_
  have hi : i < 15 := by rw [seen_len] at h2; exact h2
  rw [List.getElem_set]
  simp only [seenL, List.getElem_map, List.getElem_range, List.map_append, List.mem_append, List.map_cons, List.map_nil, List.mem_singleton]
  by_cases e : s.1.toNat = i
  · rw [if_pos e, decide_eq_true (Or.inr (by rw [← e, pt_of]))]
  · rw [if_neg e]
    have : ¬ pt i = s.1 := fun h => e (by rw [← h, pt_val (by omega)])
    simp [this]
/-- What firstOfEach hands back. -/
def FoeP (f : List Sh) (w : World) (e : Ending) (w' : World) : Prop := ∃ v : Value, e = .returned v ∧ w'.ownsRow w.heap.size 46 2 v f.length (rw_ (raws f)) ∧ Below w.heap.size w w'
set_option maxHeartbeats 8000000 in
theorem foe_own {A : Option Addr} {c n D : Nat} {hs : List Sh} {w : World} (h : IsRaw w A n c (raws hs)) (hD : n < D) (hl : n ≤ 1000) (hix : ∀ s ∈ hs, s.1.toNat ≤ 14) :
    Calls Try.prog 43 #[.slice A n c] w (FoeP (firstF D [] hs) w) := by
  obtain ⟨i0, hi, hz0, hz1, hz2⟩ := info_parts info_share
  have hgoal : ∀ (v : Value) (w' : World) (acc : List Sh), firstF D [] hs = acc → w'.ownsRow (w.heap.size + 1) 46 2 v acc.length (rw_ (raws acc)) → Below w.heap.size w w' → FoeP (firstF D [] hs) w (.returned v) w' := fun v w' acc e h1 h2 => by
    subst e
    exact ⟨v, rfl, own_mono h1 (Nat.le_succ _), h2⟩
  have hlen : hs.length = n := by rw [← raws_len]; exact h.len
  have hget := fun (k : Nat) (hk : k < hs.length) => h.sh hk
  have hix2 : ∀ k (hk : k < hs.length), hs[k].1.toNat ≤ 14 := fun k hk => hix _ (List.getElem_mem hk)
  have hv0 : VAt (w.alloc (.cells #[.bool false, .bool false, .bool false, .bool false, .bool false, .bool false, .bool false, .bool false, .bool false, .bool false, .bool false, .bool false, .bool false, .bool false, .bool false] 58)) w.heap.size (seenL []) := fun j hj => by
    have hj' : j < 15 := by rw [seen_len] at hj; exact hj
    refine ⟨?_, ?_⟩
    · rw [World.cell?_alloc_new, ← List.getElem?_eq_getElem hj, seen_nil, ← Array.getElem?_toList]
      rfl
    · exact World.frozen?_alloc_new _ _ _ _
  have hb0 : Below w.heap.size w (w.alloc (.cells #[.bool false, .bool false, .bool false, .bool false, .bool false, .bool false, .bool false, .bool false, .bool false, .bool false, .bool false, .bool false, .bool false, .bool false, .bool false] 58)) := (Below.refl _ _).alloc (Nat.le_refl _) _
  have hs0 : w.heap.size < (w.alloc (.cells #[.bool false, .bool false, .bool false, .bool false, .bool false, .bool false, .bool false, .bool false, .bool false, .bool false, .bool false, .bool false, .bool false, .bool false, .bool false] 58)).heap.size := by simp
  have ho0 : (w.alloc (.cells #[.bool false, .bool false, .bool false, .bool false, .bool false, .bool false, .bool false, .bool false, .bool false, .bool false, .bool false, .bool false, .bool false, .bool false, .bool false] 58)).ownsRow (w.heap.size + 1) 46 2 (.slice none 0 0) ([] : List Sh).length (rw_ (raws [])) := World.ownsRow_nil _ _ _ _
  obtain ⟨P, hP⟩ : ∃ P, FoeP (firstF D [] hs) w = P := ⟨_, rfl⟩
  rw [hP] at hgoal ⊢
  replace hgoal := Lib.hid hgoal
  replace hlen := Lib.hid hlen
  replace hget := Lib.hid hget
  replace hix2 := Lib.hid hix2
  replace hv0 := Lib.hid hv0
  replace hb0 := Lib.hid hb0
  replace hs0 := Lib.hid hs0
  replace ho0 := Lib.hid ho0
  clear hP h hix
  show Calls _ _ _ _ (fun e w' => P e w')
  go_enter Try.func43, Try.ntmps43
  go_wp2
  go_loopw [4, 9] (fun vv iv wr => ∃ (k : Nat) (acc : List Sh) (v : Value), v = vv ∧ iv = .int .i64 (k : Int) ∧ k ≤ n ∧ Hid (firstF D acc (hs.drop k) = firstF D [] hs) ∧ Hid (acc.length ≤ k) ∧ Hid (wr.ownsRow (w.heap.size + 1) 46 2 v acc.length (rw_ (raws acc))) ∧ Hid (VAt wr w.heap.size (seenL acc)) ∧ Hid (Below w.heap.size w wr) ∧ Hid (w.heap.size < wr.heap.size)) (fun _ iv _ => n - (intOf iv).toNat)
  case atStart => exact ⟨0, [], _, rfl, rfl, Nat.zero_le _, Lib.hid rfl, Lib.hid (Nat.le_refl _), ho0, hv0, hb0, hs0⟩
  case round =>
    clear hv0 hb0 hs0 ho0
    obtain ⟨k, acc, v, rfl, rfl, hk, hF, hal, hrow, hv, hb, hsz⟩ := hrel
    by_cases hlt : k < n
    · have dk : decide ((k : Int) < (n : Int)) = true := decide_eq_true (by omega)
      have k0 : (0 : Int) ≤ (k : Int) := by omega
      have k1 : (k : Int) < (n : Int) := by omega
      have hkl : k < hs.length := by have := hlen.out; omega
      obtain ⟨b, o, rfl, hbl, g0, g1⟩ := hget.out k hkl
      rw [getD_map' _ _ _ hkl] at g0 g1
      have g0 := (hb.out.cell (p := ⟨b, o + k * 2, none⟩) hbl).trans g0
      have g1 := (hb.out.cell (p := ⟨b, o + k * 2 + 1, none⟩) hbl).trans g1
      have hX14 := hix2.out k hkl
      have hdrop : hs.drop k = hs[k] :: hs.drop (k + 1) := List.drop_eq_getElem_cons hkl
      have hF := hF.out
      rw [hdrop] at hF
      have hset := seen_set acc hs[k] (by omega)
      have hgt := seen_get acc hs[k].1 (by omega)
      have hsn := raws_snoc acc hs[k]
      obtain ⟨sh, hsh⟩ : ∃ sh, hs[k] = sh := ⟨_, rfl⟩
      rw [hsh] at hF g0 g1 hset hX14 hsn
      simp only [hsh] at hgt
      obtain ⟨X, bl⟩ := sh
      dsimp only at g0 g1 hset hX14 hgt hsn
      obtain ⟨S, hS⟩ : ∃ S, str bl = S := ⟨_, rfl⟩
      rw [hS] at g1 hsn
      have hv1 := hv.out X.toNat (by rw [seen_len]; omega)
      rw [hgt] at hv1
      obtain ⟨v0, f0⟩ := hv1
      have hXi0 : (0 : Int) ≤ (X.toNat : Int) := by omega
      have hXi1 : (X.toNat : Int) < 15 := by omega
      obtain ⟨WA, hWA⟩ : ∃ W, wr.alloc (.cells #[.int .i64 (X.toNat : Int), .string S] 46) = W := ⟨_, rfl⟩
      have bA : Below wr.heap.size wr WA := by rw [← hWA]; exact (Below.refl _ _).alloc (Nat.le_refl _) _
      have a0 : WA.cell? ⟨wr.heap.size, 0, none⟩ = some (.int .i64 (X.toNat : Int)) := by rw [← hWA, World.cell?_alloc_new]; rfl
      have a1 : WA.cell? ⟨wr.heap.size, 1, none⟩ = some (.string S) := by rw [← hWA, World.cell?_alloc_new]; rfl
      have vA := (bA.cell (p := ⟨w.heap.size, X.toNat, none⟩) hsz.out).trans v0
      have fA := (bA.frozen (p := ⟨w.heap.size, X.toNat, none⟩) hsz.out).trans f0
      have hvA := hv.out.below bA hsz.out
      have hrA : WA.ownsRow (w.heap.size + 1) 46 2 v acc.length (rw_ (raws acc)) := by rw [← hWA]; exact hrow.out.alloc _
      have hbA : Below w.heap.size w WA := hb.out.trans (bA.mono hb.out.size)
      have hsA : wr.heap.size < WA.heap.size := by rw [← hWA]; simp
      have hwA : w.heap.size < wr.heap.size := hsz.out
      by_cases e : X ∈ acc.map Prod.fst
      · rw [decide_eq_true e] at vA
        have r0 : Hid (firstF D acc (hs.drop (k + 1)) = firstF D [] hs) := Lib.hid (by rw [← hF, first_old (by have := hal.out; omega) e])
        have r1 : Hid (acc.length ≤ k + 1) := Lib.hid (by have := hal.out; omega)
        have r2 := Lib.hid hrA
        have r3 := Lib.hid hvA
        have r4 := Lib.hid hbA
        have r5 : Hid (w.heap.size < WA.heap.size) := Lib.hid (by omega)
        clear e hF hal hrow hv hb hsz hget hix2 hbl hdrop hset hgt hsh hS v0 f0 bA hvA hrA hbA hsA hwA hsn
        go_wp2
        go_roundw
        case rel => exact ⟨k + 1, acc, _, rfl, by go_num, by omega, r0, r1, r2, r3, r4, r5⟩
        case measure => simp [intOf]; omega
      · rw [decide_eq_false e] at vA
        have r0 : Hid (firstF D (acc ++ [(X, bl)]) (hs.drop (k + 1)) = firstF D [] hs) := Lib.hid (by rw [← hF, first_new (by have := hal.out; omega) e])
        have r1 : Hid ((acc ++ [(X, bl)]).length ≤ k + 1) := Lib.hid (by rw [List.length_append]; have := hal.out; simp; omega)
        obtain ⟨WB, hWB⟩ : ∃ W, WA.setCell ⟨w.heap.size, X.toNat, none⟩ (.bool true) = W := ⟨_, rfl⟩
        have b0 : WB.cell? ⟨wr.heap.size, 0, none⟩ = some (.int .i64 (X.toNat : Int)) := by rw [← hWB, World.cell?_setCell_other _ _ _ _ (fun e => by injection e with e; omega)]; exact a0
        have b1 : WB.cell? ⟨wr.heap.size, 1, none⟩ = some (.string S) := by rw [← hWB, World.cell?_setCell_other _ _ _ _ (fun e => by injection e with e; omega)]; exact a1
        have hvB : VAt WB w.heap.size (seenL (acc ++ [(X, bl)])) := by
          rw [← hWB, ← hset]
          exact hvA.set (by rw [seen_len]; omega) _
        have hrB : WB.ownsRow (w.heap.size + 1) 46 2 v acc.length (rw_ (raws acc)) := by rw [← hWB]; exact ownsRow_setCell_below hrA (by show w.heap.size < w.heap.size + 1; omega) _
        have hbB : Below w.heap.size w WB := by rw [← hWB]; exact hbA.setCell (p := ⟨w.heap.size, X.toNat, none⟩) (Nat.le_refl _) _
        have hsB : w.heap.size + 1 ≤ WB.heap.size := by rw [← hWB]; simp; omega
        have e1 : acc.length + 1 ≤ maxLen := by have := hal.out; unfold maxLen; omega
        have e2 : (acc.length + 1) * 24 ≤ 140737488355328 := by have := hal.out; omega
        have e3 : ∀ o, w.heap.size + 1 ≤ (WB.alloc o).heap.size := fun o => by simp; omega
        have hone : ∀ u ∈ ([.int .i64 (X.toNat : Int), .string S] : List Value), u.oneCell' = true := fun u hu => by
          rcases List.mem_cons.1 hu with rfl | hu
          · rfl
          · rw [List.mem_singleton.1 hu]; rfl
        have hkeep : ∀ (o : Obj) (w3 : World), (WB.alloc o).grownBy w3 v.ownBlock → VAt w3 w.heap.size (seenL (acc ++ [(X, bl)])) ∧ Below w.heap.size w w3 ∧ w.heap.size < w3.heap.size := fun o w3 hg => by
          have k1 := ((Below.refl (w.heap.size + 1) WB).alloc hsB o).grown hg (e3 o) (fun j hj => (hrB.lt j hj).1)
          refine ⟨hvB.below k1 (Nat.lt_succ_self _), hbB.trans (k1.mono (Nat.le_succ _)), ?_⟩
          have := k1.size
          omega
        replace hsn := Lib.hid hsn
        replace hkeep := Lib.hid hkeep
        clear e hF hal hrow hv hb hsz hget hix2 hbl hdrop hset hgt hsh hS v0 f0 bA hvA hrA hbA hsA hwA hvB hbB
        go_wp2_with (at_builtin; refine wpList_append_own _ rfl _ _ 44 rfl (w.heap.size + 1) 46 i0 (.agg #[.int .i64 0, .string ⟨#[]⟩]) 2 24 Try.underlying44 hi hz0 hz1 hz2 rfl (by decide) _ _ _ rfl (hrB.alloc _) ⟨WB.heap.size, 0, none⟩ 1 1 [.int .i64 (X.toNat : Int), .string S] rfl rfl (list_new _ _ _) hone e1 e2 (e3 _) ?_; intro v' w3 hown' hgrow _)
        have hk3 := hkeep.out _ w3 hgrow
        go_roundw
        case rel => exact ⟨k + 1, acc ++ [(X, bl)], _, rfl, by go_num, by omega, r0, r1, Lib.hid (by rw [hsn.out, List.length_append, List.length_singleton]; exact hown'), Lib.hid hk3.1, Lib.hid hk3.2.1, Lib.hid hk3.2.2⟩
        case measure => simp [intOf]; omega
    · obtain rfl : k = n := by omega
      have dk : decide ((k : Int) < (k : Int)) = false := decide_eq_false (by omega)
      have hfin := Lib.hid (hgoal.out v wr acc (by
        have := hF.out
        rw [List.drop_of_length_le (by have := hlen.out; omega)] at this
        exact this.symm) hrow.out hb.out)
      clear hget hix2 hF hal hrow hv hb hsz hgoal
      go_wp2
      first | go_ret | skip
      exact hfin.out
end Go.Proofs.Ytcfoclmkhippoaa.E15
