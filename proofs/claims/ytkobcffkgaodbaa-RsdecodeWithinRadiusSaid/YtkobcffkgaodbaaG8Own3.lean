/- The contract of the landed solve: Euclid's algorithm. -/
import Derived.Test.YtkobcffkgaodbaaG8Own2
namespace Go.Proofs.Ytkobcffkgaodbaa.G8
open Go.Proofs.Ytkobcffkgaodbaa.G5
open Go.Proofs.Ytkobcffkgaodbaa.G7
open Go.Proofs.Ytkobcffkgaodbaa.G6 (mb rs rs_len rs_get IsSl Gives mulL ev mulL_tr mulL_len Tr trim addL lenOf mulP_own addP_own div1_own Div1 Dvd one_ne)
open Go.RowKit Mem
set_option linter.unusedVariables false
set_option linter.unusedSimpArgs false

/-- What Euclid's algorithm hands back. -/
structure Sol (p s : Nat) (T F E : List R) : Prop where
  ex : ∃ D P, Eu p T 80 D E F P ∧ (p + s + 2 ≤ 2 * D.length ∨ D = xp p)
  fin : 2 * E.length ≤ p + s + 1
set_option maxRecDepth 100000 in
set_option maxHeartbeats 4000000 in
theorem solve_own {A B : Option Addr} {c d p s L : Nat} {S Γ : List R} {w : World} (h : IsSl w A c S) (hS : S.length = p) (h' : IsSl w B d Γ) (hΓ : Γ.length = L) (hL : L = s + 1) (hp1 : 1 ≤ p) (hp : p ≤ 16) (hs : s ≤ 60) :
    Calls Try.prog 45 #[.slice A p c, .slice B L d] w fun e w' => ∃ (F E : List R) (A1 : Option Addr) (c1 : Nat) (A2 : Option Addr) (c2 : Nat), Sol p s (mulL S Γ) F E ∧
      e = .returned (.tuple #[.slice A1 F.length c1, .slice A2 E.length c2]) ∧ IsSl w' A1 c1 F ∧ IsSl w' A2 c2 E ∧ Below w.heap.size w w' := by
  have cP := Lib.hid (power_gives p w (by omega))
  have hTl : (mulL S Γ).length ≤ 80 := by have := mulL_len S Γ; omega
  have hst := Eu.start (p := p) (N := 80) (T := mulL S Γ) (mulL_tr _ _) hTl (by omega)
  have cM := fun (W : World) (k : Below w.heap.size w W) => mulP_own (h.below k) (h'.below k) (by omega)
  rw [hS, hΓ] at cM
  obtain ⟨T, hT⟩ : ∃ T, mulL S Γ = T := ⟨_, rfl⟩
  rw [hT] at cM hst hTl ⊢
  have hst := Lib.hid hst
  have cM := Lib.hid cM
  have hxl := Lib.hid (xp_len p)
  have e1 : (L : Int) - 1 = (s : Int) := by omega
  have hLb : L ≤ 61 := by omega
  have hLh := Lib.hid hL
  clear h h' hS hΓ hT hL
  go_enter Try.func45, Try.ntmps45
  go_wp2_with fail
  refine cP.out.mono ?_
  rintro e w1 ⟨A1, c1, rfl, hs1, hb1⟩
  have cM := Lib.hid (cM.out w1 hb1)
  rw [hxl.out]
  clear cP
  go_wp2_with fail
  refine cM.out.mono ?_
  rintro e w2 ⟨A2, c2, rfl, hs2, hb2⟩
  have hs1 := hs1.below hb2
  have hb3 := chain hb1 hb2
  have m1 := mb w2 (.cells #[] 5)
  have m2 := mb (w2.alloc (.cells #[] 5)) (.cells #[.int .u8 1] 5)
  have l1 := IsSl.made w2 5 [] #[] _ 0 rfl rfl rfl (by decide)
  have l2 := IsSl.made (w2.alloc (.cells #[] 5)) 5 [1#8] #[.int .u8 1] (w2.heap.size + 1) 1 rfl (by simp) rfl (by decide)
  have l1 := Lib.hid (l1.below m2)
  have l2 := Lib.hid l2
  have hs1 := Lib.hid ((hs1.below m1).below m2)
  have hs2 := Lib.hid ((hs2.below m1).below m2)
  have hb4 := chain (chain hb3 m1) m2
  clear hb1 hb2 hb3 m1 m2 cM
  obtain ⟨tl, htl⟩ : ∃ tl, T.length = tl := ⟨_, rfl⟩
  rw [htl] at hTl ⊢
  have htlh := Lib.hid htl
  clear htl
  go_wp2
  go_loopw [8, 9, 10, 11] (fun vD vE vP vF wr => ∃ (D E F P : List R) (a1 : Option Addr) (k1 : Nat) (a2 : Option Addr) (k2 : Nat) (a3 : Option Addr) (k3 : Nat) (a4 : Option Addr) (k4 : Nat) (nD nE nP nF : Nat),
    vD = .slice a1 nD k1 ∧ vE = .slice a2 nE k2 ∧ vP = .slice a3 nP k3 ∧ vF = .slice a4 nF k4 ∧ Hid (D.length = nD) ∧ Hid (E.length = nE) ∧ Hid (P.length = nP) ∧ Hid (F.length = nF) ∧
    Hid (Eu p T 80 D E F P) ∧ Hid (p + s + 2 ≤ 2 * D.length ∨ D = xp p) ∧ Hid (IsSl wr a1 k1 D) ∧ Hid (IsSl wr a2 k2 E) ∧ Hid (IsSl wr a3 k3 P) ∧ Hid (IsSl wr a4 k4 F) ∧ Below w.heap.size w wr) (fun _ vE _ _ _ => lenOf vE)
  case atStart => exact ⟨xp p, T, [1], [], _, _, _, _, _, _, _, _, _, _, _, _, rfl, rfl, rfl, rfl, hxl, htlh, Lib.hid rfl, Lib.hid rfl, hst, Lib.hid (.inr rfl), hs1, hs2, l1, l2, hb4⟩
  case round =>
    clear hst hs1 hs2 l1 l2 hb4 htlh hxl
    obtain ⟨D, E, F, P, a1, k1, a2, k2, a3, k3, a4, k4, nD, nE, nP, nF, rfl, rfl, rfl, rfl, hnD, hnE, hnP, hnF, heu, hor, sD, sE, sP, sF, hb⟩ := hrel
    have bE : nE ≤ 80 := by rw [← hnE.out]; exact heu.out.lE
    have bD : nD ≤ 80 := by rw [← hnD.out]; exact heu.out.lD
    have bP : nP ≤ 80 := by
      rw [← hnP.out]
      by_cases e : P = []
      · rw [e]; simp
      · have := heu.out.lP e; omega
    have bF : nF ≤ 80 := by
      rw [← hnF.out]
      by_cases e : F = []
      · rw [e]; simp
      · have := heu.out.lF e; omega
    obtain ⟨z, hz⟩ : ∃ z : Int, (nE : Int) - 1 = z := ⟨_, rfl⟩
    have z1 : -1 ≤ z := by omega
    have z2 : z ≤ 79 := by omega
    have hzh := Lib.hid hz
    by_cases hlt : p + s + 2 ≤ 2 * nE
    · have d1 : (p : Int) + (s : Int) ≤ 2 * z := by omega
      have hE0 : trim E ≠ [] := fun e => by
        have := heu.out.tE
        rw [this.eq] at e
        have := hnE.out
        rw [e] at this
        simp at this
        omega
      have cD := div1_own sD.out sE.out (by rw [hnD.out]; omega) (by rw [hnE.out]; omega) hE0
      rw [hnD.out, hnE.out] at cD
      have cD := Lib.hid cD
      clear hE0
      go_wp2_with fail
      refine cD.out.mono ?_
      rintro e w3 ⟨q, r, a5, k5, a6, k6, hdv, rfl, sq, sr', hb5⟩
      obtain ⟨heu2, hrl⟩ := heu.out.step (by decide) hdv
      have hql := hdv.ld
      rw [hnD.out] at hql
      have sE := Lib.hid (sE.out.below hb5)
      have sP := Lib.hid (sP.out.below hb5)
      have sF := Lib.hid (sF.out.below hb5)
      have hb6 := chain hb hb5
      obtain ⟨nq, hnq⟩ : ∃ nq, q.length = nq := ⟨_, rfl⟩
      obtain ⟨nr, hnr⟩ : ∃ nr, r.length = nr := ⟨_, rfl⟩
      rw [hnq] at hql
      rw [hnr, hnE.out] at hrl
      have cM := mulP_own sq sF.out (by rw [hnq, hnF.out]; omega)
      rw [hnq, hnF.out] at cM
      have cM := Lib.hid cM
      have hnqh := Lib.hid hnq
      have hnrh := Lib.hid hnr
      have heu2 := Lib.hid heu2
      have sr' := Lib.hid sr'
      rw [hnq, hnr]
      clear cD hb5 hb hdv sq hnq hnr
      go_wp2_with fail
      refine cM.out.mono ?_
      rintro e w4 ⟨a7, k7, rfl, s7, hb7⟩
      have m7 := mulL_len q F
      rw [hnqh.out, hnF.out] at m7
      have cA := addP_own (sP.out.below hb7) s7 (by rw [hnP.out]; omega) (by omega)
      rw [hnP.out] at cA
      have sE := Lib.hid (sE.out.below hb7)
      have sF := Lib.hid (sF.out.below hb7)
      have sr' := Lib.hid (sr'.out.below hb7)
      have hb8 := chain hb6 hb7
      have cA := Lib.hid cA
      obtain ⟨n7, hn7⟩ : ∃ n7, (mulL q F).length = n7 := ⟨_, rfl⟩
      rw [hn7] at cA ⊢
      clear cM hb6 hb7 s7 hn7 m7
      go_wp2_with fail
      refine cA.out.mono ?_
      rintro e w5 ⟨a9, k9, rfl, s9, hb9⟩
      have sE := Lib.hid (sE.out.below hb9)
      have sF := Lib.hid (sF.out.below hb9)
      have sr' := Lib.hid (sr'.out.below hb9)
      have s9 := Lib.hid s9
      have hb10 := chain hb8 hb9
      have hor2 := Lib.hid (show p + s + 2 ≤ 2 * E.length ∨ E = xp p from .inl (by rw [hnE.out]; exact hlt))
      clear cA hb8 hb9 hor sD sP
      go_wp2
      go_roundw
      case rel => exact ⟨E, r, addL P (mulL q F), F, _, _, _, _, _, _, _, _, _, _, _, _, rfl, rfl, rfl, rfl, hnE, hnrh, hnF, Lib.hid rfl, heu2, hor2, sE, sr', sF, s9, hb10⟩
      case measure => simp [lenOf]; omega
    · have d1 : ¬ (p : Int) + (s : Int) ≤ 2 * z := by omega
      have hsol : Sol p s T F E := ⟨⟨D, P, heu.out, hor.out⟩, by rw [hnE.out]; omega⟩
      have hsol := Lib.hid hsol
      go_wp2
      go_ret2
      exact ⟨F, E, hsol.out, _, _, _, _, by rw [hnF.out, hnE.out]; rfl, sF.out, sE.out, hb⟩
end Go.Proofs.Ytkobcffkgaodbaa.G8
