/- The contract of the landed contains of layer 15. -/
import Derived.Test.YtcfoclmkhippoaaE15Own3
import Derived.Test.YtcfoclmkhippoaaE15Own4
namespace Go.Proofs.Ytcfoclmkhippoaa.E15
set_option maxRecDepth 100000
open Go.RowKit Mem S14
open Go.Proofs.Ytcfoclmkhippoaa.G5 Go.Proofs.Ytcfoclmkhippoaa.G7
open Go.Proofs.Ytcfoclmkhippoaa.G6 (IsSl rs rs_len rs_get rs_set rs_one rs_snoc make_zeros zeros_at own_zeros info_byte u8s conv_sl)
set_option linter.unusedVariables false
set_option linter.unusedSimpArgs false

theorem str_eqB (a b : List R) : ((str a).toList == (str b).toList) = decide (a = b) := by
  rw [str_same, Bool.eq_iff_iff, beq_iff_eq, decide_eq_true_iff]
set_option maxHeartbeats 8000000 in
theorem cont_own {A B : Option Addr} {c n m c2 n2 : Nat} {hs ms : List Sh} {w : World} (h : IsRaw w A n c (raws hs)) (hn : hs.length = n) (h0 : 0 < n) (hnd : (hs.map Prod.fst).Nodup) (hl : n ≤ 100) (hm : ∀ s ∈ hs, s.2.length = m) (hmm : m ≤ 1000000)
    (h2 : IsRaw w B n2 c2 (raws ms)) (hn2 : n2 ≤ 1000) :
    Calls Try.prog 44 #[.slice A n c, .slice B n2 c2] w fun e w' => IsB (OnT (blk (hs.map Prod.fst) (hs.map Prod.snd) m) ms) e ∧ Below w.heap.size w w' := by
  obtain ⟨T, hT⟩ : ∃ T : R → List R, blk (hs.map Prod.fst) (hs.map Prod.snd) m = T := ⟨_, rfl⟩
  have cB := fun (x : R) (W : World) (hb : Below w.heap.size w W) => block_own x (h.below hb) hn h0 hnd hl hm hmm
  rw [hT] at cB ⊢
  have hlen : ms.length = n2 := by rw [← raws_len]; exact h2.len
  have hget := fun (k : Nat) (hk : k < ms.length) => h2.sh hk
  have hyes : (∀ j (hj : j < ms.length), ms[j].2 = T ms[j].1) → OnT T ms := fun h s hs => by
    obtain ⟨j, hj, rfl⟩ := List.getElem_of_mem hs
    exact h j hj
  have hno : ∀ k (hk : k < ms.length), ¬ ms[k].2 = T ms[k].1 → ¬ OnT T ms := fun k hk h h' => h (h' _ (List.getElem_mem hk))
  replace cB := Lib.hid cB
  replace hlen := Lib.hid hlen
  replace hget := Lib.hid hget
  replace hyes := Lib.hid hyes
  replace hno := Lib.hid hno
  clear hT h h2 hm hnd hn
  go_enter Try.func44, Try.ntmps44
  go_wp2
  go_loopw [9] (fun iv wr => ∃ (k : Nat), iv = .int .i64 (k : Int) ∧ k ≤ n2 ∧ Hid (∀ j (hj : j < ms.length), j < k → ms[j].2 = T ms[j].1) ∧ Hid (Below w.heap.size w wr)) (fun iv _ => n2 - (intOf iv).toNat)
  case atStart => exact ⟨0, rfl, Nat.zero_le _, Lib.hid (fun j _ h => by omega), Lib.hid (Below.refl _ _)⟩
  case round =>
    obtain ⟨k, rfl, hk, hI, hb⟩ := hrel
    by_cases hlt : k < n2
    · have dk : decide ((k : Int) < (n2 : Int)) = true := decide_eq_true (by omega)
      have k0 : (0 : Int) ≤ (k : Int) := by omega
      have k1 : (k : Int) < (n2 : Int) := by omega
      have hkl : k < ms.length := by have := hlen.out; omega
      obtain ⟨b, o, rfl, hbl, g0, g1⟩ := hget.out k hkl
      rw [getD_map' _ _ _ hkl] at g0 g1
      have g0 := (hb.out.cell (p := ⟨b, o + k * 2, none⟩) hbl).trans g0
      have g1 := (hb.out.cell (p := ⟨b, o + k * 2 + 1, none⟩) hbl).trans g1
      have hn' := hno.out k hkl
      have hs : ms[k].2 = T ms[k].1 → ∀ j (hj : j < ms.length), j < k + 1 → ms[j].2 = T ms[j].1 := fun h j hj h1 => by
        by_cases e : j = k
        · subst e; exact h
        · exact hI.out j hj (by omega)
      have hsB := str_eqB (T ms[k].1) ms[k].2
      replace hs := Lib.hid hs
      replace hn' := Lib.hid hn'
      obtain ⟨X, hX⟩ : ∃ X, ms[k].1 = X := ⟨_, rfl⟩
      have cK := cB.out ms[k].1
      rw [hX] at g0 hsB cK
      obtain ⟨S, hS⟩ : ∃ S, str ms[k].2 = S := ⟨_, rfl⟩
      rw [hS] at g1 hsB
      obtain ⟨U, hU⟩ : ∃ U, str (T X) = U := ⟨_, rfl⟩
      simp only [hU] at hsB cK
      obtain ⟨W1, hW1⟩ : ∃ W, wr.alloc (.cells #[.int .i64 (X.toNat : Int), .string S] 46) = W := ⟨_, rfl⟩
      have hb1 : Below w.heap.size w W1 := by rw [← hW1]; exact hb.out.alloc hb.out.size _
      have cK2 := fun (W : World) (hW : Below W1.heap.size W1 W) => cK W (hb1.trans (hW.mono hb1.size))
      have a0 : W1.cell? ⟨wr.heap.size, 0, none⟩ = some (.int .i64 (X.toNat : Int)) := by rw [← hW1, World.cell?_alloc_new]; rfl
      have a1 : W1.cell? ⟨wr.heap.size, 1, none⟩ = some (.string S) := by rw [← hW1, World.cell?_alloc_new]; rfl
      have hlt1 : wr.heap.size < W1.heap.size := by rw [← hW1]; simp
      have r0 : ∀ W, Below W1.heap.size W1 W → W.cell? ⟨wr.heap.size, 0, none⟩ = some (.int .i64 (X.toNat : Int)) := fun W h => (h.cell (p := ⟨wr.heap.size, 0, none⟩) hlt1).trans a0
      have r1 : ∀ W, Below W1.heap.size W1 W → W.cell? ⟨wr.heap.size, 1, none⟩ = some (.string S) := fun W h => (h.cell (p := ⟨wr.heap.size, 1, none⟩) hlt1).trans a1
      have keep0 := Below.refl W1.heap.size W1
      have keep1 : ∀ W, Below W1.heap.size W1 W → Below W1.heap.size W1 (World.drew W) := fun W h => chainN h 1
      replace cK2 := Lib.hid cK2
      replace hb1 := Lib.hid hb1
      have hX2 : (X.toNat : Int) < 256 := by have := X.isLt; omega
      have hXh := Lib.hid hX
      clear cK hX hS hU hI hb hget hyes hno hbl a0 a1 hlt1 cB
      by_cases e : T X = ms[k].2
      · rw [decide_eq_true e] at hsB
        have t2 : (U.toList != S.toList) = false := by simp only [bne, hsB]; rfl
        have hs2 := Lib.hid (hs.out (by rw [hXh.out]; exact e.symm))
        clear hs hn' e hXh
        go_wp2_with fail
        go_region_held3 (fun W => Below W1.heap.size W1 W) (first | exact keep0 | exact keep1 _ keep0 | exact chain ‹_› ‹_› | assumption) (first | (go_at_call 45; (with_reducible refine (cK2.out _ (by assumption)).mono ?_); rintro e w5 ⟨rfl, hb5⟩))
        have hbw : Below W1.heap.size W1 w5 := by assumption
        have hb2 := Lib.hid (hb1.out.trans (hbw.mono hb1.out.size))
        clear keep0 keep1 r0 r1 cK2 hbw
        go_wp2
        go_roundw
        case rel => exact ⟨k + 1, by go_num, by omega, hs2, hb2⟩
        case measure => simp [intOf]; omega
      · rw [decide_eq_false e] at hsB
        have t2 : (U.toList != S.toList) = true := by simp only [bne, hsB]; rfl
        have hfin := Lib.hid (hn'.out (fun h => e (by rw [hXh.out] at h; exact h.symm)))
        clear hs hn' e hXh
        go_wp2_with fail
        go_region_held3 (fun W => Below W1.heap.size W1 W) (first | exact keep0 | exact keep1 _ keep0 | exact chain ‹_› ‹_› | assumption) (first | (go_at_call 45; (with_reducible refine (cK2.out _ (by assumption)).mono ?_); rintro e w5 ⟨rfl, hb5⟩))
        have hbw : Below W1.heap.size W1 w5 := by assumption
        have hb2 := Lib.hid (hb1.out.trans (hbw.mono hb1.out.size))
        clear keep0 keep1 r0 r1 cK2 hbw
        go_wp2
        go_ret
        exact ⟨⟨false, rfl, ⟨fun h => (by cases h), fun h => absurd h hfin.out⟩⟩, hb2.out⟩
    · obtain rfl : k = n2 := by omega
      have dk : decide ((k : Int) < (k : Int)) = false := decide_eq_false (by omega)
      have hfin := Lib.hid (hyes.out (fun j hj => hI.out j hj (by have := hlen.out; omega)))
      clear hyes hno hget hI cB
      go_wp2
      go_ret
      exact ⟨⟨true, rfl, ⟨fun _ => hfin.out, fun _ => rfl⟩⟩, hb.out⟩
end Go.Proofs.Ytcfoclmkhippoaa.E15
