/- The contract of the reference's Same of layer 16. -/
import Derived.Test.YtcfoclmkhippoaaL16Own2
import Derived.Test.YtcfoclmkhippoaaL16Ss
namespace Go.Proofs.Ytcfoclmkhippoaa.L16
set_option maxRecDepth 100000
open Go.RowKit Mem
open Go.Proofs.Ytcfoclmkhippoaa.G5 Go.Proofs.Ytcfoclmkhippoaa.G7 Go.Proofs.Ytcfoclmkhippoaa.E15
set_option linter.unusedVariables false
set_option linter.unusedSimpArgs false

theorem str_eqL (a b : List R) : ((str a).toList == (str b).toList) = decide (a = b) := by
  rw [str_same, Bool.eq_iff_iff, beq_iff_eq, decide_eq_true_iff]
theorem getD_eqL {α : Type} {l m : List α} {d : α} {n : Nat} (h1 : l.length = n) (h2 : m.length = n) (h : ∀ j, j < n → l.getD j d = m.getD j d) : l = m := by
  refine List.ext_getElem (by omega) fun i g1 g2 => ?_
  have := h i (by omega)
  simpa [List.getD_eq_getElem?_getD, g1, g2] using this
theorem IsSS.getD {w : World} {A : Option Addr} {n cap : Nat} {L : List (List (List R))} (h : IsSS w A n cap L) {k : Nat} (hk : k < n) : ∃ (b o : Nat) (A' : Option Addr) (m c' : Nat), A = some ⟨b, o, none⟩ ∧ b < w.heap.size ∧ w.cell? ⟨b, o + k, none⟩ = some (.slice A' m c') ∧ IsBs w A' m c' (L.getD k []) := by
  have hk' : k < L.length := by rw [h.len]; exact hk
  obtain ⟨b, o, A', c', e, hb, hc, hB⟩ := h.get hk'
  have e2 : L.getD k [] = L[k] := by simp [List.getD_eq_getElem?_getD, hk']
  rw [e2]
  exact ⟨b, o, A', _, c', e, hb, hc, hB⟩
theorem bs_getD {w : World} {A : Option Addr} {n cap : Nat} {l : List (List R)} (h : IsBs w A n cap l) {k : Nat} (hk : k < n) : ∃ b o : Nat, A = some ⟨b, o, none⟩ ∧ b < w.heap.size ∧ w.cell? ⟨b, o + k, none⟩ = some (.string (str (l.getD k []))) := by
  have hk' : k < l.length := by rw [h.len]; exact hk
  obtain ⟨b, o, e, hb, hc⟩ := h.get hk'
  have e2 : l.getD k [] = l[k] := by simp [List.getD_eq_getElem?_getD, hk']
  rw [e2]
  exact ⟨b, o, e, hb, hc⟩
set_option maxHeartbeats 8000000 in
theorem ssame_any {A B : Option Addr} {ca cb n m : Nat} {la lb : List (List (List R))} {w : World} (hA : IsSS w A n ca la) (hB : IsSS w B m cb lb) (hn : n ≤ 100000) (hm : m ≤ 100000) (hsa : ∀ s ∈ la, s.length ≤ 1000) :
    Calls Try.prog 19 #[.slice A n ca, .slice B m cb] w fun e w' => IsB (la = lb) e ∧ ∃ q, w' = w.drewN q := by
  have yes := fun (h : la = lb) => IsB.yes h
  have no := fun (h : ¬ la = lb) => IsB.no h
  obtain ⟨P, hP⟩ : ∃ P, IsB (la = lb) = P := ⟨_, rfl⟩
  rw [hP] at yes no ⊢
  clear hP
  by_cases e : n = m
  · subst e
    have hga := fun (k : Nat) (hk : k < n) => hA.getD hk
    have hgb := fun (k : Nat) (hk : k < n) => hB.getD hk
    have hyes : (∀ j, j < n → la.getD j [] = lb.getD j []) → la = lb := getD_eqL hA.len hB.len
    have hno : ∀ k, k < n → ¬ la.getD k [] = lb.getD k [] → ¬ la = lb := fun k hk hne h => hne (by rw [h])
    have hsm : ∀ k, k < n → (la.getD k []).length ≤ 1000 := fun k hk => by
      have hk' : k < la.length := by rw [hA.len]; exact hk
      have e2 : la.getD k [] = la[k] := by simp [List.getD_eq_getElem?_getD, hk']
      rw [e2]
      exact hsa _ (List.getElem_mem hk')
    have n1 : (n : Int) ≤ 100000 := by omega
    replace hga := Lib.hid hga
    replace hgb := Lib.hid hgb
    replace hyes := Lib.hid (fun h => yes (hyes h))
    replace hno := Lib.hid (fun k hk h => no (hno k hk h))
    replace hsm := Lib.hid hsm
    clear hA hB yes no hsa
    go_enter Try.func19, Try.ntmps19
    go_wp2
    go_loopw [5] (fun iv wr => ∃ (k : Nat), iv = .int .i64 (k : Int) ∧ k ≤ n ∧ Hid (∀ j, j < k → la.getD j [] = lb.getD j []) ∧ Hid (∃ q, wr = w.drewN q)) (fun iv _ => n - (intOf iv).toNat)
    case atStart => exact ⟨0, rfl, Nat.zero_le _, Lib.hid (fun j h => by omega), Lib.hid ⟨0, rfl⟩⟩
    case round =>
      obtain ⟨k, rfl, hk, hI, hw⟩ := hrel
      by_cases hlt : k < n
      · have dk : decide ((k : Int) < (n : Int)) = true := decide_eq_true (by omega)
        have k0 : (0 : Int) ≤ (k : Int) := by omega
        have k1 : (k : Int) < (n : Int) := by omega
        obtain ⟨b1, o1, A1, m1, c1, rfl, hbl1, g1, hB1⟩ := hga.out k hlt
        obtain ⟨b2, o2, A2, m2, c2, rfl, hbl2, g2, hB2⟩ := hgb.out k hlt
        have hs := hsm.out k hlt
        have hn' := hno.out k hlt
        have hnx : la.getD k [] = lb.getD k [] → ∀ j, j < k + 1 → la.getD j [] = lb.getD j [] := fun h j hj => by
          by_cases e : j = k
          · subst e; exact h
          · exact hI.out j (by omega)
        obtain ⟨SA, hSA⟩ : ∃ SA, la.getD k [] = SA := ⟨_, rfl⟩
        obtain ⟨SB, hSB⟩ : ∃ SB, lb.getD k [] = SB := ⟨_, rfl⟩
        rw [hSA] at hB1 hs hn' hnx
        rw [hSB] at hB2 hn' hnx
        have hl1 := hB1.len
        have hl2 := hB2.len
        have hm1 : m1 ≤ 1000 := by omega
        have hm2 : m2 ≤ 9223372036854775807 := by have := hB2.le; have := hB2.capm; unfold maxLen at *; omega
        have hgi1 := fun (i : Nat) (hi : i < m1) => bs_getD hB1 hi
        have hgi2 := fun (i : Nat) (hi : i < m2) => bs_getD hB2 hi
        replace hgi1 := Lib.hid hgi1
        replace hgi2 := Lib.hid hgi2
        replace hn' := Lib.hid hn'
        replace hnx := Lib.hid hnx
        replace hl1 := Lib.hid hl1
        replace hl2 := Lib.hid hl2
        clear hga hgb hno hI hSA hSB hB1 hB2 hs hbl1 hbl2
        have g1 : ∀ W, (∃ q, W = w.drewN q) → W.cell? ⟨b1, o1 + k, none⟩ = some (.slice A1 m1 c1) := fun W ⟨q, e⟩ => by rw [e]; exact g1
        have g2 : ∀ W, (∃ q, W = w.drewN q) → W.cell? ⟨b2, o2 + k, none⟩ = some (.slice A2 m2 c2) := fun W ⟨q, e⟩ => by rw [e]; exact g2
        have g1' := g1 wr hw.out
        have g2' := g2 wr hw.out
        replace g1 := Lib.hid g1
        replace g2 := Lib.hid g2
        have mi1 : (m1 : Int) ≤ 1000 := by omega
        have mi2 : (m2 : Int) ≤ 9223372036854775807 := by omega
        by_cases e : m1 = m2
        · subst e
          go_wp2
          go_quiet (fail)
          rename_i nq _
          have hw2 : Hid (∃ q, wr.drewN nq = w.drewN q) := Lib.hid (by obtain ⟨q, e⟩ := hw.out; exact ⟨q + nq, by rw [e, World.drewN_drewN]⟩)
          obtain ⟨w2, hw2e⟩ : ∃ w2, wr.drewN nq = w2 := ⟨_, rfl⟩
          rw [hw2e] at hw2 ⊢
          clear g1' g2' hw2e hw
          go_wp2
          go_loopw [6] (fun iv wi => ∃ (i : Nat), iv = .int .i64 (i : Int) ∧ i ≤ m1 ∧ Hid (∀ j, j < i → SA.getD j [] = SB.getD j []) ∧ Hid (∃ q, wi = w.drewN q)) (fun iv _ => m1 - (intOf iv).toNat)
          case atStart => exact ⟨0, rfl, Nat.zero_le _, Lib.hid (fun j h => by omega), hw2⟩
          case round =>
            clear hw2
            obtain ⟨i, rfl, hi, hJ, hw⟩ := hrel
            have g1' := g1.out _ hw.out
            have g2' := g2.out _ hw.out
            by_cases hlt2 : i < m1
            · have di : decide ((i : Int) < (m1 : Int)) = true := decide_eq_true (by omega)
              have i0 : (0 : Int) ≤ (i : Int) := by omega
              have i1 : (i : Int) < (m1 : Int) := by omega
              obtain ⟨b3, o3, rfl, _, f1⟩ := hgi1.out i hlt2
              obtain ⟨b4, o4, rfl, _, f2⟩ := hgi2.out i hlt2
              have hsB := str_eqL (SA.getD i []) (SB.getD i [])
              have hjx : SA.getD i [] = SB.getD i [] → ∀ j, j < i + 1 → SA.getD j [] = SB.getD j [] := fun h j hj => by
                by_cases e : j = i
                · subst e; exact h
                · exact hJ.out j (by omega)
              have hne : ¬ SA.getD i [] = SB.getD i [] → ¬ SA = SB := fun h h' => h (by rw [h'])
              obtain ⟨X, hX⟩ : ∃ X, SA.getD i [] = X := ⟨_, rfl⟩
              obtain ⟨Y, hY⟩ : ∃ Y, SB.getD i [] = Y := ⟨_, rfl⟩
              rw [hX] at f1 hsB hjx hne
              rw [hY] at f2 hsB hjx hne
              obtain ⟨S, hS⟩ : ∃ S, str X = S := ⟨_, rfl⟩
              obtain ⟨U, hU⟩ : ∃ U, str Y = U := ⟨_, rfl⟩
              rw [hS] at f1 hsB
              rw [hU] at f2 hsB
              have f1 : wr.cell? ⟨b3, o3 + i, none⟩ = some (.string S) := by obtain ⟨q, e⟩ := hw.out; rw [e]; exact f1
              have f2 : wr.cell? ⟨b4, o4 + i, none⟩ = some (.string U) := by obtain ⟨q, e⟩ := hw.out; rw [e]; exact f2
              replace hjx := Lib.hid hjx
              replace hne := Lib.hid hne
              clear hX hY hS hU hgi1 hgi2 hJ
              by_cases e : X = Y
              · rw [decide_eq_true e] at hsB
                have t1 : (S.toList != U.toList) = false := by simp only [bne, hsB]; rfl
                have hs2 := Lib.hid (hjx.out e)
                clear e hjx hne
                go_wp2
                go_quiet (fail)
                go_wp2
                rename_i nq _
                go_roundw
                case rel => exact ⟨i + 1, by go_num, by omega, hs2, Lib.hid (by obtain ⟨q, e⟩ := hw.out; exact ⟨q + nq, by rw [e, World.drewN_drewN]⟩)⟩
                case measure => simp [intOf]; omega
              · rw [decide_eq_false e] at hsB
                have t1 : (S.toList != U.toList) = true := by simp only [bne, hsB]; rfl
                have hfin := Lib.hid (hn'.out (hne.out e))
                clear e hjx hne hn' hnx hyes
                go_wp2
                go_quiet (fail)
                go_wp2
                rename_i nq _
                go_ret
                exact ⟨hfin.out, by obtain ⟨q, e⟩ := hw.out; exact ⟨q + nq, by rw [e, World.drewN_drewN]⟩⟩
            · obtain rfl : i = m1 := by omega
              have di : decide ((i : Int) < (i : Int)) = false := decide_eq_false (by omega)
              have hs2 := Lib.hid (hnx.out (getD_eqL hl1.out hl2.out hJ.out))
              clear hJ hnx hn' hgi1 hgi2
              go_wp2
              go_roundw
              case rel => exact ⟨k + 1, by go_num, by omega, hs2, hw⟩
              case measure => simp [intOf]; omega
        · have t1 : ((m1 : Int) != (m2 : Int)) = true := bne_iff_ne.2 (by omega)
          have hfin := Lib.hid (hn'.out (fun h => e (by rw [← hl1.out, ← hl2.out, h])))
          clear e hn' hnx hyes
          go_wp2
          go_quiet (fail)
          go_wp2
          rename_i nq _
          go_ret
          exact ⟨hfin.out, by obtain ⟨q, e⟩ := hw.out; exact ⟨q + nq, by rw [e, World.drewN_drewN]⟩⟩
      · obtain rfl : k = n := by omega
        have dk : decide ((k : Int) < (k : Int)) = false := decide_eq_false (by omega)
        have hfin := Lib.hid (hyes.out (fun j hj => hI.out j hj))
        clear hyes hno hga hgb hI
        go_wp2
        go_ret
        exact ⟨hfin.out, hw.out⟩
  · have t1 : ((n : Int) != (m : Int)) = true := bne_iff_ne.2 (by omega)
    have hne := Lib.hid (no (fun h => e (by rw [← hA.len, ← hB.len, h])))
    clear hA hB e yes no
    go_enter Try.func19, Try.ntmps19
    go_wp2
    go_ret
    exact ⟨hne.out, 0, rfl⟩
end Go.Proofs.Ytcfoclmkhippoaa.L16
