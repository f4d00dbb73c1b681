/- The contract of the landed Assemble (layer 18). -/
import Derived.Test.YthmgocjmfhpafaaDoorA18Own6
import Derived.Test.YthmgocjmfhpafaaDoorA18Sz
namespace Go.Proofs.YthmgocjmfhpafaaDoor.A18
set_option maxRecDepth 100000
open Go.RowKit Mem
open Go.Maps Go.WideMaps
open M17 (Laid Laid.below)
set_option linter.unusedVariables false
set_option linter.unusedSimpArgs false

/-- The four results of Assemble. -/
def asmV (a : Asm) (v : Value) : Value := .tuple #[strV a.text, v, .int .i64 (a.line : Int), .int .i64 (a.err : Int)]
/-- What Assemble hands back. -/
def AsP (a : Asm) (w : World) (e : Ending) (w' : World) : Prop := ∃ v B, e = .returned (asmV a v) ∧ w.heap.size ≤ B ∧ w'.ownsRow B 37 2 v a.labs.length (a.labs.flatMap enc2) ∧ Below w.heap.size w w'
theorem toks_toks {s : List UInt8} (h : s.length ≤ 20000) : Toks (toks s) := ⟨fun t ht => by have := toks_fit s t ht; omega, toks_wd s⟩
set_option maxHeartbeats 8000000 in
theorem Assemble_any (s : ByteArray) (hs : s.size ≤ 20000) (o : Int) (w : World) (hL : Laid w) : Calls Tryd.prog 12 #[.string s, .int .i64 o] w (AsP (asm s.data.toList o) w) := by
  by_cases h1 : o < 0
  · have d1 : decide (o < 0) = true := decide_eq_true h1
    have e1 : asm s.data.toList o = ⟨[], [], 0, 2⟩ := by unfold asm; rw [if_pos (.inl h1)]
    rw [e1]
    have hfin := Lib.hid (show AsP ⟨[], [], 0, 2⟩ w (.returned (.tuple #[.string ⟨#[]⟩, .slice none 0 0, .int .i64 0, .int .i64 2])) w from ⟨_, w.heap.size, rfl, Nat.le_refl _, own_none _ _ _ _, Below.refl _ _⟩)
    obtain ⟨P, hP⟩ : ∃ P, AsP ⟨[], [], 0, 2⟩ w = P := ⟨_, rfl⟩
    rw [hP] at hfin ⊢
    clear e1 hP hL
    show Calls _ _ _ _ (fun e w' => P e w')
    go_enter Tryd.func12, Tryd.ntmps12
    go_wp2
    exact bodyPost_ret (v := .tuple #[.string ⟨#[]⟩, .slice none 0 0, .int .i64 0, .int .i64 2]) (by simp [results, Tryd.results12, go_sem]) rfl hfin.out
  by_cases h2 : 262144 ≤ o
  · have d1 : decide (o < 0) = false := decide_eq_false h1
    have d2 : decide (262144 ≤ o) = true := decide_eq_true h2
    have e1 : asm s.data.toList o = ⟨[], [], 0, 2⟩ := by unfold asm; rw [if_pos (.inr h2)]
    rw [e1]
    have hfin := Lib.hid (show AsP ⟨[], [], 0, 2⟩ w (.returned (.tuple #[.string ⟨#[]⟩, .slice none 0 0, .int .i64 0, .int .i64 2])) w from ⟨_, w.heap.size, rfl, Nat.le_refl _, own_none _ _ _ _, Below.refl _ _⟩)
    obtain ⟨P, hP⟩ : ∃ P, AsP ⟨[], [], 0, 2⟩ w = P := ⟨_, rfl⟩
    rw [hP] at hfin ⊢
    clear e1 hP hL
    show Calls _ _ _ _ (fun e w' => P e w')
    go_enter Tryd.func12, Tryd.ntmps12
    go_wp2
    exact bodyPost_ret (v := .tuple #[.string ⟨#[]⟩, .slice none 0 0, .int .i64 0, .int .i64 2]) (by simp [results, Tryd.results12, go_sem]) rfl hfin.out
  have d1 : decide (o < 0) = false := decide_eq_false h1
  have d2 : decide (262144 ≤ o) = false := decide_eq_false h2
  have hn : s.data.toList.length = s.size := by simp
  have cS := Lib.hid (split_any s (by omega))
  have hT := toks_toks (s := s.data.toList) (by omega)
  have hTn : (toks s.data.toList).length ≤ 20000 := by have := toks_le s.data.toList; omega
  have e1 : asm s.data.toList o = asmW (toks s.data.toList) o := by unfold asm; rw [if_neg (by omega)]
  have hbl := fun (A : List UInt8 → Int) (k : Nat) => Nat.le_trans (bld_toks (natA A) s.data.toList k) (show 8 * s.data.toList.length ≤ 1000000 by omega)
  have hfitL := fun (A : List UInt8 → Nat) (o : Int) => lbs_fit A o s.data.toList
  rw [e1]
  clear e1
  obtain ⟨L, hLL⟩ : ∃ L, toks s.data.toList = L := ⟨_, rfl⟩
  have hsz : 8 * s.data.toList.length ≤ 1000000 := by omega
  rw [hLL] at cS hT hTn hbl hfitL ⊢
  obtain ⟨z, hz⟩ : ∃ z, 8 * s.data.toList.length = z := ⟨_, rfl⟩
  rw [hz] at hfitL hsz
  clear hLL hz hn
  unfold asmW
  have hR := chk_ok (D := dfs (wof L)) (l := L) (seen := [])
  have hNd := chk_nodup (D := dfs (wof L)) (l := L) (seen := [])
  obtain ⟨⟨x, y⟩, hxy⟩ : ∃ R : Nat × Nat, chk (dfs (wof L)) [] L = R := ⟨_, rfl⟩
  have cC := fun (A : Option Addr) (cap : Nat) (W : World) (h : IsPs W A L.length cap (L.map tokI)) => check_any h hT (by omega)
  rw [hxy] at hR hNd cC ⊢
  dsimp only at hR hNd cC ⊢
  by_cases hy : y ≠ 0
  · rw [if_pos hy]
    have t1 : ((y : Int) != 0) = true := bne_iff_ne.2 (by omega)
    have hfin := Lib.hid (fun (W : World) (hb : Below w.heap.size w W) => show AsP ⟨[], [], x, y⟩ w (.returned (.tuple #[.string ⟨#[]⟩, .slice none 0 0, .int .i64 (x : Int), .int .i64 (y : Int)])) W from ⟨_, w.heap.size, rfl, Nat.le_refl _, own_none _ _ _ _, hb⟩)
    obtain ⟨P, hP⟩ : ∃ P, AsP ⟨[], [], x, y⟩ w = P := ⟨_, rfl⟩
    rw [hP] at hfin ⊢
    have cC := Lib.hid cC
    clear hP hL hy hxy hR hNd hbl hfitL hT
    show Calls _ _ _ _ (fun e w' => P e w')
    go_enter Tryd.func12, Tryd.ntmps12
    go_wp2_with fail
    refine (cS.out _).mono ?_
    rintro e w1 ⟨v0, rfl, hrow0, hb0⟩
    obtain ⟨A, cap, rfl, hIs⟩ := IsPs.of_own (l := L.map tokI) hrow0 (by simp)
    have cC1 := Lib.hid (cC.out A cap w1 hIs)
    have hb0 := Lib.hid hb0
    clear hrow0 hIs
    go_wp2_with fail
    refine (cC1.out).mono ?_
    rintro e w2 ⟨rfl, hb2⟩
    have hf := Lib.hid (hfin.out w2 (chain hb0.out hb2))
    go_wp2
    exact bodyPost_ret (v := .tuple #[.string ⟨#[]⟩, .slice none 0 0, .int .i64 (x : Int), .int .i64 (y : Int)]) (by simp [results, Tryd.results12, go_sem]) rfl hf.out
  · obtain rfl : y = 0 := by omega
    rw [if_neg hy]
    have hx := hR rfl
    injection hx with hx _
    subst hx
    have hNd := hNd rfl (by simp)
    rw [List.nil_append, ← lbs_names nul o _ []] at hNd
    have cB1 := fun (A : Option Addr) (cap : Nat) (W : World) (h : IsPs W A L.length cap (L.map tokI)) (hLd : Laid W) => build_any h hT (by omega) (o := o) (by omega) (by omega) none (LK.nil W) (fun _ => ⟨by decide, by decide⟩) (fun k _ => hbl _ k) hLd
    have hnul : natA (fun _ => 0) = nul := rfl
    rw [hnul] at cB1
    by_cases hlen : 40000 < (bld nul [] (wof L)).length
    · rw [if_pos hlen]
      have hfin := Lib.hid (fun (W : World) (hb : Below w.heap.size w W) => show AsP ⟨[], [], 0, 6⟩ w (.returned (.tuple #[.string ⟨#[]⟩, .slice none 0 0, .int .i64 0, .int .i64 6])) W from ⟨_, w.heap.size, rfl, Nat.le_refl _, own_none _ _ _ _, hb⟩)
      obtain ⟨P, hP⟩ : ∃ P, AsP ⟨[], [], 0, 6⟩ w = P := ⟨_, rfl⟩
      rw [hP] at hfin ⊢
      unfold BlP at cB1
      obtain ⟨ST, hST⟩ : ∃ S : ByteArray, ⟨(bld nul [] (wof L)).toArray⟩ = S := ⟨_, rfl⟩
      have hSTz : ST.size = (bld nul [] (wof L)).length := by rw [← hST, str_size]
      unfold strV at cB1
      rw [hST] at cB1
      have t2 : decide ((40000 : Int) < (ST.size : Int)) = true := decide_eq_true (by omega)
      have cC := Lib.hid cC
      have cB1 := Lib.hid cB1
      have hL := Lib.hid hL
      clear hP hxy hR hNd hbl hfitL hT hnul hST hSTz hlen hy
      show Calls _ _ _ _ (fun e w' => P e w')
      go_enter Tryd.func12, Tryd.ntmps12
      go_wp2_with fail
      refine (cS.out _).mono ?_
      rintro e w1 ⟨v0, rfl, hrow0, hb0⟩
      obtain ⟨A, cap, rfl, hIs⟩ := IsPs.of_own (l := L.map tokI) hrow0 (by simp)
      have cC1 := Lib.hid (cC.out A cap w1 hIs)
      have hb0 := Lib.hid hb0
      have hIs := Lib.hid hIs
      clear hrow0
      go_wp2_with fail
      refine (cC1.out).mono ?_
      rintro e w2 ⟨rfl, hb2⟩
      have cB := Lib.hid (cB1.out A cap w2 (hIs.out.below hb2) (hL.out.below (chain hb0.out hb2)))
      have hb2 := Lib.hid hb2
      go_wp2_with fail
      refine (cB.out).mono ?_
      rintro e w3 ⟨v3, rfl, hown3, hb3⟩
      have hf := Lib.hid (hfin.out w3 (chain (chain hb0.out hb2.out) hb3))
      clear hown3 hb3
      go_wp2
      exact bodyPost_ret (v := .tuple #[.string ⟨#[]⟩, .slice none 0 0, .int .i64 0, .int .i64 6]) (by simp [results, Tryd.results12, go_sem]) rfl hf.out
    · rw [if_neg hlen]
      have hlf : ∀ p ∈ lbs nul o [] (wof L), p.1.length ≤ 1000000 ∧ 0 ≤ p.2 ∧ p.2 ≤ 1000000 := fun p hp => by
        have h3 := hfitL nul o p hp
        have h4 := lbs_range nul o _ _ p hp
        omega
      have hlk : ∀ x, 0 ≤ look (lbs nul o [] (wof L)) x ∧ look (lbs nul o [] (wof L)) x < 1000000 := fun x => by
        rcases look_in (L := lbs nul o [] (wof L)) x with h | ⟨p, hp, h⟩
        · rw [h]; omega
        · rw [h]
          have h4 := lbs_range nul o _ _ p hp
          omega
      have hln : (lbs nul o [] (wof L)).length ≤ 1000000 := by
        have := lbs_len nul o (wof L) []
        rw [wof_len] at this
        omega
      have cB2 := fun (A : Option Addr) (cap : Nat) (W : World) (h : IsPs W A L.length cap (L.map tokI)) (hLd : Laid W) (b n : Nat) (hm : IsMp W b n (lbs nul o [] (wof L))) => build_any h hT (by omega) (o := o) (by omega) (by omega) (some b) hm.lk hlk (fun k _ => hbl _ k) hLd
      rw [show natA (look (lbs nul o [] (wof L))) = adr (lbs nul o [] (wof L)) from rfl] at cB2
      have cAd := fun (A : Option Addr) (n cap : Nat) (W : World) (h : IsPs W A n cap (lbs nul o [] (wof L))) => addressesOf_any h hNd hlf (by rw [← h.len]; exact hln)
      unfold BlP at cB1 cB2
      obtain ⟨ST, hST⟩ : ∃ S : ByteArray, ⟨(bld nul [] (wof L)).toArray⟩ = S := ⟨_, rfl⟩
      have hSTz : ST.size = (bld nul [] (wof L)).length := by rw [← hST, str_size]
      obtain ⟨SU, hSU⟩ : ∃ S : ByteArray, ⟨(bld (adr (lbs nul o [] (wof L))) [] (wof L)).toArray⟩ = S := ⟨_, rfl⟩
      rw [lbs_eq (adr (lbs nul o [] (wof L))) nul o] at cB2
      have hfin := Lib.hid (fun (W W' : World) (v : Value) (hs : w.heap.size ≤ W'.heap.size) (hb : Below w.heap.size w W) (hv : W.ownsRow W'.heap.size 37 2 v (lbs nul o [] (wof L)).length ((lbs nul o [] (wof L)).flatMap enc2)) => show AsP ⟨bld (adr (lbs nul o [] (wof L))) [] (wof L), lbs nul o [] (wof L), 0, 0⟩ w (.returned (.tuple #[.string SU, v, .int .i64 0, .int .i64 0])) W from ⟨v, W'.heap.size, by unfold asmV strV; dsimp only; rw [hSU]; rfl, hs, hv, hb⟩)
      obtain ⟨P, hP⟩ : ∃ P, AsP ⟨bld (adr (lbs nul o [] (wof L))) [] (wof L), lbs nul o [] (wof L), 0, 0⟩ w = P := ⟨_, rfl⟩
      rw [hP] at hfin ⊢
      unfold strV at cB1 cB2
      rw [hST] at cB1
      rw [hSU] at cB2
      have t2 : decide ((40000 : Int) < (ST.size : Int)) = false := decide_eq_false (by omega)
      have cC := Lib.hid cC
      have cB1 := Lib.hid cB1
      have cB2 := Lib.hid cB2
      have cAd := Lib.hid cAd
      have hL := Lib.hid hL
      clear hP hxy hR hNd hbl hfitL hT hnul hST hSTz hlen hy hlf hlk hln hSU
      show Calls _ _ _ _ (fun e w' => P e w')
      go_enter Tryd.func12, Tryd.ntmps12
      go_wp2_with fail
      refine (cS.out _).mono ?_
      rintro e w1 ⟨v0, rfl, hrow0, hb0⟩
      obtain ⟨A, cap, rfl, hIs⟩ := IsPs.of_own (l := L.map tokI) hrow0 (by simp)
      have cC1 := Lib.hid (cC.out A cap w1 hIs)
      have hb0 := Lib.hid hb0
      have hIs := Lib.hid hIs
      clear hrow0
      go_wp2_with fail
      refine (cC1.out).mono ?_
      rintro e w2 ⟨rfl, hb2⟩
      have hIs2 := Lib.hid (hIs.out.below hb2)
      have hb02 := Lib.hid (chain hb0.out hb2)
      have cB := Lib.hid (cB1.out A cap w2 hIs2.out (hL.out.below hb02.out))
      clear hb2 hIs hb0 cC1
      go_wp2_with fail
      refine (cB.out).mono ?_
      rintro e w3 ⟨v3, rfl, hown3, hb3⟩
      obtain ⟨A3, cap3, rfl, hIs3⟩ := IsPs.of_own hown3 rfl
      have cA3 := Lib.hid (cAd.out A3 _ cap3 w3 hIs3)
      have hIs4 := Lib.hid (hIs2.out.below hb3)
      have hb03 := Lib.hid (chain hb02.out hb3)
      clear hown3 hb3 hIs3 hb02 hIs2 cB
      go_wp2_with fail
      refine (cA3.out).mono ?_
      rintro e w4 ⟨b4, n4, rfl, hm4, _, hb4⟩
      have cB4 := Lib.hid (cB2.out A cap w4 (hIs4.out.below hb4) (hL.out.below (chain hb03.out hb4)) b4 n4 hm4)
      have hb04 := Lib.hid (chain hb03.out hb4)
      clear hb4 hm4 hb03 hIs4 cA3
      go_wp2_with fail
      refine (cB4.out).mono ?_
      rintro e w5 ⟨v5, rfl, hown5, hb5⟩
      have hf := Lib.hid (hfin.out w5 w4 v5 hb04.out.size (chain hb04.out hb5) hown5)
      clear hb5 hown5
      go_wp2
      exact bodyPost_ret (v := .tuple #[.string SU, v5, .int .i64 0, .int .i64 0]) (by simp [results, Tryd.results12, go_sem]) rfl hf.out
end Go.Proofs.YthmgocjmfhpafaaDoor.A18
