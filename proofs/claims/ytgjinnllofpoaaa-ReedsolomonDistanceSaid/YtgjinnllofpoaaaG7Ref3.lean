/- The contract of the reference's Generator. -/
import Derived.Test.YtgjinnllofpoaaaG7Ref2
import Derived.Test.YtgjinnllofpoaaaG7More
import Derived.Deep.RegionWith
import Derived.Deep.RegionHeld3
import Derived.StillTailTactics
namespace Go.Proofs.Ytgjinnllofpoaaa.G7
open Go.Proofs.Ytgjinnllofpoaaa.G5
open Go.Proofs.Ytgjinnllofpoaaa.G6 (ev ev_nil rs rs_len rs_get rs_snoc IsSl u8s take_snoc Gives info_byte conv_sl mb make_zeros own_zeros ev_one xz zx xac xcan zeros_at rs_set VAt.setR VAt.readR)
open Go.RowKit Mem
set_option linter.unusedVariables false
set_option linter.unusedSimpArgs false

set_option maxRecDepth 100000 in
set_option maxHeartbeats 4000000 in
theorem rgen_any (p : Nat) (w : World) (h1 : 1 ≤ p) (h2 : p ≤ 64) :
    Calls Try.prog 12 #[.int .i64 (p : Int)] w fun e w' => ∃ A c, e = .returned (.tuple #[.slice A (p + 1) c, .int .i64 0]) ∧ IsSl w' A c (gen p) ∧ Below w.heap.size w w' := by
  have t1 : decide ((p : Int) < 1) = false := decide_eq_false (by omega)
  have t2 : decide ((64 : Int) < (p : Int)) = false := decide_eq_false (by omega)
  have t3 : decide (p < 1) = false := decide_eq_false (by omega)
  have t4 : decide (64 < p) = false := decide_eq_false (by omega)
  go_enter Try.func12, Try.ntmps12
  go_wp2
  go_loopw [4, 5] (fun v a wr => ∃ (E : Option Addr) (f i ng : Nat), v = .slice E ng f ∧ a = .int .i64 i ∧ i ≤ p ∧ ng ≤ 65 ∧ Hid (ng = i + 1) ∧ Hid (IsSl wr E f (gen i)) ∧ Below w.heap.size w wr) (fun _ a _ => p - (intOf a).toNat)
  case atStart => exact ⟨_, 1, 0, 1, rfl, rfl, Nat.zero_le _, by decide, Lib.hid rfl, Lib.hid (IsSl.made w 5 [1#8] #[.int .u8 1] _ 1 rfl rfl rfl (by decide)), mb w _⟩
  case round =>
    obtain ⟨E, f, i, ng, rfl, rfl, hi, hng, hni, hg, hb⟩ := hrel
    by_cases hlt : i < p
    · have hiI : (i : Int) < (p : Int) := by omega
      obtain ⟨nn, hnn⟩ : ∃ nn, nn = ng + 1 := ⟨_, rfl⟩
      have hmk := make_zeros wr nn (by omega)
      have hat := zeros_at wr nn (by omega)
      have hnI : (ng : Int) + 1 = (nn : Int) := by omega
      have ob := mb wr (.cells (madeCells #[.int .u8 0] nn) 5)
      have hnnh := Lib.hid hnn
      have hnn66 : nn ≤ 66 := by omega
      clear hnn
      go_wp2
      clear hmk
      obtain ⟨G, hG⟩ : ∃ G, wr.heap.size = G := ⟨_, rfl⟩
      rw [hG] at hat ⊢
      have hGh := Lib.hid hG
      clear hG
      have hb2 := chain hb ob
      have hgl : G < (wr.alloc (.cells (madeCells #[.int .u8 0] nn) 5)).heap.size := by rw [← hGh.out]; simp
      go_loopw [7] (fun a wq => ∃ (l : List R) (k : Nat), a = .int .i64 k ∧ k ≤ ng ∧ Hid (l.length = nn ∧ ∀ x, ev l x = tms (ev ((gen i).take k) x) (it i 1 ^^^ x)) ∧ Hid (VAt wq G (rs l)) ∧ Hid (G < wq.heap.size) ∧ Below wr.heap.size wr wq) (fun a _ => ng - (intOf a).toNat)
      case atStart => exact ⟨List.replicate nn 0#8, 0, rfl, Nat.zero_le _, Lib.hid ⟨by simp, fun x => by rw [List.take_zero, ev_nil, zero_tms]; exact G6.ev_zeros nn x⟩, Lib.hid hat, Lib.hid hgl, ob⟩
      case round =>
        clear hat hgl ob hb2
        obtain ⟨l, k, rfl, hk, hl, hat, hgl, hbq⟩ := hrel
        by_cases hlk : k < ng
        · obtain ⟨m, hm⟩ : ∃ m, m = k + 1 := ⟨_, rfl⟩
          have hgn : (gen i).length = ng := by rw [gen_len, hni.out]
          obtain ⟨b1, o1, rfl, hbl1, hc1⟩ := (hg.out.below hbq).read k (by rw [hgn]; exact hlk)
          obtain ⟨hn1, hf1⟩ := VAt.readR hat.out (k := m) (by rw [hl.out.1, hnnh.out]; omega)
          obtain ⟨X, hX⟩ : ∃ X, (gen i).getD k 0 = X := ⟨_, rfl⟩
          obtain ⟨Y, hY⟩ : ∃ Y, l.getD m 0 = Y := ⟨_, rfl⟩
          rw [hX] at hc1
          rw [hY] at hn1
          have hx1 := bxr Y X
          obtain ⟨S1, hS1⟩ : ∃ S1, Y ^^^ X = S1 := ⟨_, rfl⟩
          rw [hS1] at hx1
          have hS1h := Lib.hid hS1
          have hmI : (k : Int) + 1 = (m : Int) := by omega
          have i1 : (0 : Int) ≤ (k : Int) := by omega
          have i2 : (k : Int) < (ng : Int) := by omega
          have i3 : (0 : Int) ≤ (m : Int) := by omega
          have i4 : (m : Int) < (nn : Int) := by have := hnnh.out; omega
          have i5 : (k : Int) < (nn : Int) := by have := hnnh.out; omega
          have hmh := Lib.hid hm
          have hXh := Lib.hid hX
          have hYh := Lib.hid hY
          clear hm hX hY hgn hS1
          go_wp2
          go_region
          obtain ⟨W1, hW1⟩ : ∃ W1, (wr.setCell ⟨G, m, none⟩ (bv S1)).drew = W1 := ⟨_, rfl⟩
          have hml : m < l.length := by have := hl.out.1; omega
          have hat1 : VAt W1 G (rs (l.set m S1)) := by rw [← hW1]; exact (VAt.setR hat.out hml S1).drew
          have hbq0 := hbq.setCell (p := ⟨G, m, none⟩) (by rw [hGh.out]; exact Nat.le_refl _) (bv S1)
          have hbq1 := chainN hbq0 1
          rw [show (wr.setCell ⟨G, m, none⟩ (bv S1)).drewN 1 = W1 from hW1] at hbq1
          clear hbq0
          have hgl1 : G < W1.heap.size := by rw [← hW1]; simpa using hgl.out
          have hkl : k < l.length := by have := hmh.out; omega
          have hl1 : (l.set m S1).length = nn := by rw [List.length_set]; exact hl.out.1
          have hgk : (l.set m S1).getD k 0 = l.getD k 0 := by
            have hne : m ≠ k := by have := hmh.out; omega
            simp [List.getD_eq_getElem?_getD, List.getElem?_set_ne hne]
          obtain ⟨hn2, hf2⟩ := VAt.readR hat1 (k := k) (by rw [hl1, ← hl.out.1]; exact hkl)
          rw [hgk] at hn2
          obtain ⟨Z, hZ⟩ : ∃ Z, l.getD k 0 = Z := ⟨_, rfl⟩
          rw [hZ] at hn2
          have hgn : (gen i).length = ng := by rw [gen_len, hni.out]
          obtain ⟨b2, o2, hA, hbl2, hc2⟩ := (hg.out.below hbq1).read k (by rw [hgn]; exact hlk)
          injection hA with hA
          injection hA with hA1 hA2
          subst hA1 hA2
          rw [hXh.out] at hc2
          obtain ⟨b3, o3, hA3, hbl3, _⟩ := hg.out.read k (by rw [hgn]; exact hlk)
          injection hA3 with hA3
          injection hA3 with hA31 hA32
          have hbG : G ≠ b1 := by rw [← hGh.out, hA31]; omega
          clear hA31 hA32 hbl3
          have cP := fun W => (rpower_any i W (by omega)).mono fun _ _ ⟨a, b⟩ => And.intro a b.symm
          obtain ⟨P, hP⟩ : ∃ P, it i 1 = P := ⟨_, rfl⟩
          rw [hP] at cP
          have cT := fun W => (rtimes_any X P W).mono fun _ _ ⟨a, b⟩ => And.intro a b.symm
          obtain ⟨T, hT⟩ : ∃ T, tms X P = T := ⟨_, rfl⟩
          rw [hT] at cT
          have hx2 := bxr Z T
          obtain ⟨S2, hS2⟩ : ∃ S2, Z ^^^ T = S2 := ⟨_, rfl⟩
          rw [hS2] at hx2
          have hev : ∀ x, ev ((l.set m S1).set k S2) x = tms (ev ((gen i).take (k + 1)) x) (it i 1 ^^^ x) := fun x => by
            rw [ev_set x S2 _ k (by rw [hl1, ← hl.out.1]; exact hkl), ev_set x S1 l m hml, hgk, hYh.out, hZ, ← hS1h.out, ← hS2, hl.out.2 x, G6.ev_step (gen i) k (by rw [hgn]; exact hlk) x, hXh.out, hmh.out]
            show _ ^^^ tms (tms (pw x k) x) (Y ^^^ (Y ^^^ X)) ^^^ tms (pw x k) (Z ^^^ (Z ^^^ T)) = _
            rw [xcan, xcan, ← hT, hP]
            simp only [tms_a, tms_b, tms_assoc, BitVec.xor_assoc]
            rw [tms_comm (pw x k) (tms x X), tms_comm (pw x k) (tms X P)]
            simp only [tms_assoc]
            rw [tms_comm P (pw x k), G6.tac x X (pw x k), tms_comm x (pw x k)]
            simp only [BitVec.xor_assoc, BitVec.xor_comm, xac]
          have hev := Lib.hid hev
          have cP := Lib.hid cP
          have cT := Lib.hid cT
          have hZh := Lib.hid hZ
          rw [hW1]
          have hl1h := Lib.hid hl1
          have hklh := Lib.hid hkl
          have hmlh := Lib.hid hml
          have hat2 := Lib.hid (show VAt (W1.setCell ⟨G, k, none⟩ (bv S2)).drew G (rs ((l.set m S1).set k S2)) from (VAt.setR hat1 (by rw [hl1, ← hl.out.1]; exact hkl) S2).drew)
          have hbq2 := hbq1.setCell (p := ⟨G, k, none⟩) (by rw [hGh.out]; exact Nat.le_refl _) (bv S2)
          have hbq3 := chainN hbq2 1
          have hgl2 := Lib.hid (show G < (W1.setCell ⟨G, k, none⟩ (bv S2)).drew.heap.size by simpa using hgl1)
          have hll := Lib.hid (show ((l.set m S1).set k S2).length = nn by rw [List.length_set]; exact hl1)
          clear hbq2
          clear hat hbq hgl hc1 hn1 hf1 hx1 hgk hZ hP hT hS2 hW1 hgn hl1 hkl hml
          clear hXh hYh hmh hS1h hl1h hmlh hklh hZh
          go_wp2_with fail
          refine wp_region_still_tail 15 (by kernel_rfl) (by kernel_rfl) ?_
          simp only [List.take_succ_cons, List.take_zero, List.drop_succ_cons, List.drop_zero]
          repeat still_step
          still_call (cP.out _)
          repeat still_step
          still_call (cT.out _)
          repeat still_step
          refine wpStill_nil ?_
          change wpList _ _ _ _ _ W1.drew
          go_wp2
          go_roundw
          case rel => exact ⟨(l.set m S1).set k S2, k + 1, by go_num, by omega, Lib.hid ⟨hll.out, hev.out⟩, hat2, hgl2, hbq3⟩
          case measure => simp [intOf]; omega
        · have hkI : ¬ (k : Int) < (ng : Int) := by omega
          have hgn : (gen i).length = ng := by rw [gen_len, hni.out]
          have hlg : l = gen (i + 1) := gen_next (by omega) (by rw [hl.out.1, hnnh.out, hni.out]) fun x => by rw [hl.out.2 x, List.take_of_length_le (by rw [hgn]; omega)]
          have hsl : IsSl wr (some ⟨G, 0, none⟩) nn (gen (i + 1)) := by rw [← hlg]; exact G6.IsSl.of_at hat.out hl.out.1 (by omega) hgl.out
          have hsl := Lib.hid hsl
          have hbb := hb.trans (hbq.mono hb.size)
          have hn2 := Lib.hid (show nn = i + 1 + 1 by rw [hnnh.out, hni.out])
          have hn65 : nn ≤ 65 := by have := hn2.out; omega
          clear hlg hgn hat hgl hl
          go_wp2
          go_roundw
          case rel => exact ⟨_, nn, i + 1, nn, rfl, by go_num, by omega, hn65, hn2, hsl, hbb⟩
          case measure => simp [intOf]; omega
    · have hiI : ¬ (i : Int) < (p : Int) := by omega
      have hip : i = p := by omega
      have hnp := Lib.hid (show ng = p + 1 by rw [hni.out, hip])
      rw [hip] at hg
      clear hip
      go_wp2
      go_ret2
      exact ⟨E, f, by rw [hnp.out]; rfl, hg.out, hb⟩
end Go.Proofs.Ytgjinnllofpoaaa.G7
