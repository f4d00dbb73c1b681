/- The contract of the reference's Unmarshal of layer 13. -/
import Derived.Test.YtiodkllckcpinaaGreatDoorM14AX
import Derived.Laws.MakeOwn
import Derived.RangeFuncRecord
import Derived.BigRegion
import Derived.StillTailTactics
set_option linter.unusedVariables false
set_option linter.unusedSimpArgs false
set_option maxRecDepth 100000
namespace Go.Proofs.YtiodkllckcpinaaGreatDoor
namespace F13
open Go.RowKit Mem

theorem info_int13 : (Tryz.prog.info? 3).map (fun i => (i.zero, i.size, i.bytes)) = some (some (.int .i64 0), 1, 8) := by kernel_rfl
def nv (l : List UInt8) (k : Nat) : List Value := (l.map fun x => (.int .i64 (x.toNat : Int) : Value)).take k ++ (List.replicate 12 (.int .i64 0 : Value)).drop k
theorem nv_len {l : List UInt8} {k : Nat} (hl : 12 ≤ l.length) (hk : k ≤ 12) : (nv l k).length = 12 := by
 unfold nv
 rw [List.length_append, List.length_take, List.length_map, List.length_drop, List.length_replicate]
 omega
theorem nv_step {l : List UInt8} {k : Nat} (hl : 12 ≤ l.length) (hk : k < 12) : (nv l k).set k (.int .i64 ((l[k]'(by omega)).toNat : Int)) = nv l (k + 1) := by
 have hx : k < (l.map fun x => (.int .i64 (x.toNat : Int) : Value)).length := by rw [List.length_map]; omega
 unfold nv
 rw [List.drop_eq_getElem_cons (show k < (List.replicate 12 (.int .i64 0 : Value)).length by rw [List.length_replicate]; exact hk), List.set_append_right _ _ (by rw [List.length_take]; omega), List.length_take, Nat.min_eq_left (by omega), Nat.sub_self, List.set_cons_zero, List.take_succ_eq_append_getElem hx, List.append_assoc, List.getElem_map]
 rfl
theorem nv_get {l : List UInt8} {i : Nat} (hl : 12 ≤ l.length) (hi : i < 12) : (nv l 12)[i]? = some (.int .i64 (bt l i)) := by
 unfold nv bt
 rw [List.getElem?_append_left (by rw [List.length_take, List.length_map]; omega), List.getElem?_take_of_lt hi, List.getElem?_map, List.getElem?_eq_getElem (by omega), List.getD_eq_getElem?_getD, List.getElem?_eq_getElem (by omega)]
 rfl
theorem made_ints (n : Nat) : madeCells (Value.int .i64 0).cells (n * 1) = (List.replicate n (.int .i64 0 : Value)).toArray := by
 apply Array.toList_inj.1
 apply List.ext_getElem
 ·simp [size_madeCells]
 ·intro i h1 h2
  simp [madeCells, Value.cells]
  rw [Nat.mod_one]
  rfl
theorem make_ints12 (w : World) : (Instr.makeSlice 95 (.int .i64 12) (.int .i64 12)).run Tryz.prog w = .ok (.slice (some ⟨w.heap.size, 0, none⟩) 12 12) (w.alloc (.cells (nv [] 0).toArray 3)) := by
 obtain ⟨i0, hi, hz0, hz1, hz2⟩ := info_parts info_int13
 have hr := run_make (P := Tryz.prog) w 95 3 i0 _ Tryz.underlying95 hi hz0 .i64 .i64 12 12 (by decide) (by decide) (by rw [hz2]; decide) (by decide)
 rw [hz1, made_ints] at hr
 exact hr
theorem nv_zero {l : List UInt8} {k : Nat} (hl : 12 ≤ l.length) (hk : k < 12) (h : k < (nv l k).length) : (nv l k)[k] = .int .i64 0 := by
 have : (nv l k)[k]? = some (.int .i64 0) := by
  unfold nv
  rw [List.getElem?_append_right (by rw [List.length_take]; omega), List.length_take, List.length_map, Nat.min_eq_left (by omega), Nat.sub_self, List.getElem?_drop, List.getElem?_replicate]
  rw [if_pos (by omega)]
 rw [List.getElem?_eq_getElem h] at this
 exact Option.some.inj this
set_option maxHeartbeats 16000000 in
theorem runmarshal_any (b : ByteArray) (w : World) (hb : b.size ≤ 1000000) :
  Calls Tryz.prog 63 #[.string b] w fun e w' => e = .returned (.tuple #[(unF b.data.toList).val, .int .i64 (unE b.data.toList)]) ∧ Below w.heap.size w w' := by
 have hll : b.data.toList.length = b.size := by simp
 by_cases h44 : b.size = 44
 ·have t1 : ((b.size : Int) != 44) = false := by rw [h44]; rfl
  have cS := fun W => rsum1d (b.extract 0 40) W (by rw [ByteArray.size_extract]; omega)
  have cB := fun W => K3.rbytes_any (K3.sumL (b.data.toList.take 40)) W
  rw [ext_list, List.drop_zero] at cS
  have hq := str_beq ⟨(K3.byL (K3.sumL (b.data.toList.take 40))).toArray⟩ (b.extract 40 b.size)
  rw [ext_list, List.take_of_length_le (show b.data.toList.length ≤ b.size by omega)] at hq
  rw [show (⟨(K3.byL (K3.sumL (b.data.toList.take 40))).toArray⟩ : ByteArray).data.toList = K3.byL (K3.sumL (b.data.toList.take 40)) from rfl] at hq
  rw [h44] at hq
  obtain ⟨Q, hQ⟩ : ∃ Q, (⟨(K3.byL (K3.sumL (b.data.toList.take 40))).toArray⟩ : ByteArray) = Q := ⟨_, rfl⟩
  rw [hQ] at cB hq
  obtain ⟨K, hK⟩ : ∃ K, K3.sumL (b.data.toList.take 40) = K := ⟨_, rfl⟩
  rw [hK] at cB cS
  replace cS := Lib.hid cS
  replace cB := Lib.hid cB
  have i1 : (40 : Int) ≤ (b.size : Int) := by omega
  have i2 : (b.size : Int) = 44 := by omega
  have keep := fun (w1 W : World) (h : Below w1.heap.size w1 W) => chainN h 1
  by_cases hs : K3.byL (K3.sumL (b.data.toList.take 40)) = b.data.toList.drop 40
  ·obtain ⟨e1, e2⟩ := unE_ok (by omega) hs
   rw [e1, e2]
   rw [decide_eq_true hs] at hq
   have hl12 : 12 ≤ b.data.toList.length := by omega
   have hpay : (⟨((b.data.toList.drop 12).take 28).toArray⟩ : ByteArray) = b.extract 12 40 := str_eq (by
    rw [ext_list, List.drop_take])
   have hbytes := fun (k : Nat) (h : k < b.size) => (show ((b[k].toNat : Nat) : Int) = ((b.data.toList[k]'(by omega)).toNat : Int) from rfl)
   obtain ⟨l, hl⟩ : ∃ l, b.data.toList = l := ⟨_, rfl⟩
   rw [hl] at hl12 hpay ⊢
   replace hbytes : ∀ (k : Nat) (h : k < b.size) (h' : k < l.length), ((b[k].toNat : Nat) : Int) = ((l[k]'h').toNat : Int) := fun k h h' => by subst hl; rfl
   obtain ⟨n0, n1, n2, n3, n4, n5, n6, n7, n8, n9, na, nb, D1, D2, hbd⟩ := bd_of l
   have hfr := hbd.fr
   rw [hpay] at hfr
   have hps : (frOf l).pay.size ≤ 1000000 := by
    show ((l.drop 12).take 28).length ≤ _
    rw [List.length_take]
    omega
   have cC := fun W => rcheck_any (frOf l) W (by omega)
   obtain ⟨F, hF⟩ : ∃ F, frOf l = F := ⟨_, rfl⟩
   rw [hF] at hfr cC ⊢
   unfold Fr.val at cC
   rw [hfr] at cC
   obtain ⟨V, hV⟩ : ∃ V, (if ckE F = 0 then F else zeroF).val = V := ⟨_, rfl⟩
   obtain ⟨kk, hkk⟩ : ∃ kk, ckE F = kk := ⟨_, rfl⟩
   have hyes : Hid (kk = 0 → V = .agg F.cells) := Lib.hid (fun h => by rw [← hV, if_pos (hkk.trans h)]; rfl)
   have hno : Hid (kk ≠ 0 → V = zeroF.val) := Lib.hid (fun h => by rw [← hV, if_neg (fun e => h (hkk.symm.trans e))])
   rw [hV, hkk]
   rw [hkk] at cC
   clear hV hkk
   replace cC := Lib.hid cC
   replace hbytes := Lib.hid hbytes
   have hl12 := Lib.hid hl12
   have hFr := Lib.hid hfr
   clear hs e1 e2 hK hQ hll hb hl hpay hF hps hfr
   go_enter Tryz.func63, Tryz.ntmps63
   go_wp2_with fail
   obtain ⟨W0, hW0⟩ : ∃ W0, w.alloc (.cells zeroF.cells 44) = W0 := ⟨_, rfl⟩
   have hb0 : Below w.heap.size w W0 := by rw [← hW0]; exact (Below.refl _ _).alloc (Nat.le_refl _) _
   have hv0 : VAt W0 w.heap.size zeroF.cells.toList := by rw [← hW0]; exact vat_alloc w _ _
   have hs0 : w.heap.size < W0.heap.size := by rw [← hW0]; simp
   unfold zeroF Fr.cells at hW0
   simp only [BitVec.toNat_ofNat, Nat.zero_mod, Int.natCast_zero] at hW0
   rw [hW0]
   clear hW0
   have keep0 := Below.refl W0.heap.size W0
   have keep1 := keep W0
   have keepA : ∀ W o, Below W0.heap.size W0 W → Below W0.heap.size W0 (World.drew (W.alloc o)) := fun W o h => (h.alloc h.size _).drew
   go_region_held3 (fun W => Below W0.heap.size W0 W) (first | exact keep0 | exact keep1 _ keep0 | exact keepA _ _ keep0 | exact keepA _ _ ‹_› | exact chain ‹_› ‹_› | assumption) (first | (go_at_call 91; (with_reducible refine (cS.out _).mono ?_); rintro e w9 ⟨rfl, hb9⟩) | (go_at_call 90; (with_reducible refine (cB.out _).mono ?_); rintro e w10 ⟨rfl, hb10⟩))
   rename_i hbe
   have hv1 := hv0.below hbe hs0
   have hBw := chain hb0 hbe
   have hs1 : w.heap.size < w10.heap.size := Nat.lt_of_lt_of_le hs0 hbe.size
   have hmk := make_ints12 w10
   have hat := vat_alloc w10 3 (nv [] 0)
   obtain ⟨G, hG⟩ : ∃ G, w10.heap.size = G := ⟨_, rfl⟩
   obtain ⟨W3, hW3⟩ : ∃ W3, w10.alloc (.cells (nv [] 0).toArray 3) = W3 := ⟨_, rfl⟩
   have hb3 : Below G w10 W3 := by rw [← hW3, ← hG]; exact (Below.refl _ _).alloc (Nat.le_refl _) _
   have hs3 : Hid (G < W3.heap.size) := Lib.hid (by rw [← hW3, ← hG]; simp)
   rw [hW3, hG] at hmk
   rw [hW3, hG] at hat
   have hat : Hid (VAt W3 G (nv l 0)) := Lib.hid hat
   have hGh := Lib.hid hG
   have hv1 := Lib.hid hv1
   have hBw := Lib.hid hBw
   have hs1 := Lib.hid hs1
   clear hW3 hG keep0 keep1 keepA hv0 hb0 hs0 hbe hb9 hb10 cS cB
   go_wp2
   clear hmk
   go_loopw [24] (fun i wr => ∃ k : Nat, k ≤ 12 ∧ i = .int .i64 (k : Int) ∧ Hid (VAt wr G (nv l k)) ∧ Hid (G < wr.heap.size) ∧ Below G w10 wr) (fun i _ => 12 - (intOf i).toNat)
   case atStart => exact ⟨0, Nat.zero_le _, rfl, hat, hs3, hb3⟩
   case round =>
    clear hat hs3 hb3
    obtain ⟨k, hk, rfl, hg, hsz, hb⟩ := hrel
    by_cases hlt : k < 12
    ·have hkb : k < b.size := by omega
     have hkl : k < l.length := by have := hl12.out; omega
     have hby := hbytes.out k hkb hkl
     have hn := nv_len (k := k) hl12.out (by omega)
     obtain ⟨g1, g2⟩ := hg.out k (by rw [hn]; exact hlt)
     rw [nv_zero hl12.out hlt] at g1
     have hset := hg.out.set (k := k) (by rw [hn]; exact hlt) (.int .i64 ((b[k]'hkb).toNat : Int))
     rw [hby, nv_step hl12.out hlt, ← hby] at hset
     have hset := Lib.hid hset
     have hsz2 : Hid (G < (wr.setCell ⟨G, k, none⟩ (.int .i64 ((b[k]'hkb).toNat : Int))).heap.size) := Lib.hid (by simpa using hsz.out)
     have hb2 := hb.setCell (p := ⟨G, k, none⟩) (Nat.le_refl G) (.int .i64 ((b[k]'hkb).toNat : Int))
     have k0 : (0 : Int) ≤ (k : Int) := by omega
     have k1 : (k : Int) < 44 := by omega
     have k2 : (k : Int) < 12 := by omega
     have xb : ((b[k]'hkb).toNat : Int) ≤ 255 := by have := (b[k]'hkb).toNat_lt; omega
     clear hg hsz hb hn hby
     go_wp2
     go_roundw
     case rel => exact ⟨k + 1, by omega, by go_num, hset, hsz2, hb2⟩
     case measure => simp [intOf]; omega
    ·obtain rfl : k = 12 := by omega
     have hnl := nv_len (k := 12) hl12.out (Nat.le_refl _)
     have rd := fun (i : Nat) (hi : i < 12) => (show wr.cell? ⟨G, i, none⟩ = some (.int .i64 (bt l i)) by
      have h1 := (hg.out i (by rw [hnl]; exact hi)).1
      have h2 := nv_get hl12.out hi
      rw [List.getElem?_eq_getElem (by rw [hnl]; exact hi)] at h2
      rw [h1, Option.some.inj h2])
     obtain ⟨e0, e1, e2, e3, e4, e5, e6, e7, e8, e9, ea, eb, q1, q1', q2, q2', b2, b3, b4, b5, b7, b8, b9, ba, bb, _⟩ := hbd
     have ra_ := fun (i : Nat) (hi : i < 12) (W : World) (h : Below wr.heap.size wr W) => (h.cell (p := ⟨G, i, none⟩) hsz.out).trans (rd i hi)
     have s0 := ra_ 0 (by decide)
     have s1 := ra_ 1 (by decide)
     have s2 := ra_ 2 (by decide)
     have s3 := ra_ 3 (by decide)
     have s4 := ra_ 4 (by decide)
     have s5 := ra_ 5 (by decide)
     have s6 := ra_ 6 (by decide)
     have s7 := ra_ 7 (by decide)
     have s8 := ra_ 8 (by decide)
     have s9 := ra_ 9 (by decide)
     have sa := ra_ 10 (by decide)
     have sb := ra_ 11 (by decide)
     simp only [e0] at s0
     simp only [e1] at s1
     simp only [e2] at s2
     simp only [e3] at s3
     simp only [e4] at s4
     simp only [e5] at s5
     simp only [e6] at s6
     simp only [e7] at s7
     simp only [e8] at s8
     simp only [e9] at s9
     simp only [ea] at sa
     simp only [eb] at sb
     have hbw2 := Lib.hid (chain hBw.out (show Below w10.heap.size w10 wr by rw [hGh.out]; exact hb))
     have hv2 := Lib.hid (hv1.out.below (show Below w10.heap.size w10 wr by rw [hGh.out]; exact hb) hs1.out)
     have hs2 := Lib.hid (Nat.lt_of_lt_of_le hs1.out (show Below w10.heap.size w10 wr by rw [hGh.out]; exact hb).size)
     clear rd ra_ hg hsz hb hnl e0 e1 e2 e3 e4 e5 e6 e7 e8 e9 ea eb hbytes hl12 hGh hBw hv1 hs1
     go_wp2_with fail
     have w1 : IntKind.i64.wrap (256 * n2) = 256 * n2 := IntWalk.i64_in _ (by omega)
     have w2 : IntKind.i64.wrap (256 * n2 + n3) = 256 * n2 + n3 := IntWalk.i64_in _ (by omega)
     have w3 : IntKind.i64.wrap (256 * n4) = 256 * n4 := IntWalk.i64_in _ (by omega)
     have w4 : IntKind.i64.wrap (256 * n4 + n5) = 256 * n4 + n5 := IntWalk.i64_in _ (by omega)
     have w5 : IntKind.i64.wrap D1 = D1 := IntWalk.i64_in _ (by omega)
     have w6 : IntKind.i64.wrap (n8 * 256) = n8 * 256 := IntWalk.i64_in _ (by omega)
     have w7 : IntKind.i64.wrap (n8 * 256 + n9) = n8 * 256 + n9 := IntWalk.i64_in _ (by omega)
     have w8 : IntKind.i64.wrap ((n8 * 256 + n9) * 256) = (n8 * 256 + n9) * 256 := IntWalk.i64_in _ (by omega)
     have w9 : IntKind.i64.wrap ((n8 * 256 + n9) * 256 + na) = (n8 * 256 + n9) * 256 + na := IntWalk.i64_in _ (by omega)
     have wa : IntKind.i64.wrap (((n8 * 256 + n9) * 256 + na) * 256) = ((n8 * 256 + n9) * 256 + na) * 256 := IntWalk.i64_in _ (by omega)
     have wb : IntKind.i64.wrap (((n8 * 256 + n9) * 256 + na) * 256 + nb) = ((n8 * 256 + n9) * 256 + na) * 256 + nb := IntWalk.i64_in _ (by omega)
     have wc : IntKind.u32.wrap (((n8 * 256 + n9) * 256 + na) * 256 + nb) = ((n8 * 256 + n9) * 256 + na) * 256 + nb := IntWalk.u32_in _ (by omega)
     have keep0 := Below.refl wr.heap.size wr
     have keep1 := keep wr
     have keepA : ∀ W o, Below wr.heap.size wr W → Below wr.heap.size wr (World.drew (W.alloc o)) := fun W o h => (h.alloc h.size _).drew
     go_region_held3 (fun W => Below wr.heap.size wr W) (first | exact keep0 | exact keep1 _ keep0 | exact keepA _ _ keep0 | exact keepA _ _ ‹_› | exact chain ‹_› ‹_› | assumption) (fail)
     rename_i hbe2
     have hbw3 := chain hbw2.out hbe2
     have hv3 := hv2.out.below hbe2 hs2.out
     clear hbe2 keep0 keep1 keepA hbw2 hv2 s0 s1 s2 s3 s4 s5 s6 s7 s8 s9 sa sb
     have ht := (vat_alloc wr 44 [.int .i64 n0, .int .i64 n1, .int .i64 (256 * n2 + n3), .int .i64 (256 * n4 + n5), .int .i64 n6, .int .i64 D1, .int .i64 D2, .int .u32 (((n8 * 256 + n9) * 256 + na) * 256 + nb), .string (b.extract 12 40)]).drew
     obtain ⟨T, hT⟩ : ∃ T, wr.heap.size = T := ⟨_, rfl⟩
     obtain ⟨Wt, hWt⟩ : ∃ Wt, (wr.alloc (.cells #[.int .i64 n0, .int .i64 n1, .int .i64 (256 * n2 + n3), .int .i64 (256 * n4 + n5), .int .i64 n6, .int .i64 D1, .int .i64 D2, .int .u32 (((n8 * 256 + n9) * 256 + na) * 256 + nb), .string (b.extract 12 40)] 44)).drew = Wt := ⟨_, rfl⟩
     have hst : T < Wt.heap.size := by rw [← hWt, ← hT]; simp
     have hsB : w.heap.size < Wt.heap.size := by have := hs2.out; rw [← hWt]; simp; omega
     rw [hWt] at hbw3 hv3 ⊢
     rw [show (wr.alloc (.cells [.int .i64 n0, .int .i64 n1, .int .i64 (256 * n2 + n3), .int .i64 (256 * n4 + n5), .int .i64 n6, .int .i64 D1, .int .i64 D2, .int .u32 (((n8 * 256 + n9) * 256 + na) * 256 + nb), .string (b.extract 12 40)].toArray 44)).drew = Wt from hWt, hT] at ht
     rw [hT]
     have ht9 := cells9 ht
     replace ht := Lib.hid ht
     replace hv3 := Lib.hid hv3
     replace hbw3 := Lib.hid hbw3
     replace hst := Lib.hid hst
     replace hsB := Lib.hid hsB
     obtain ⟨t0, t1', t2, t3, t4, t5, t6, t7, t8, _, _, _, _, _, _, _, _, _⟩ := ht9
     clear hWt hT hs2 w1 w2 w3 w4 w5 w6 w7 w8 w9 wa wb wc q1 q1' q2 q2' b2 b3 b4 b5 b7 b8 b9 ba bb keep
     go_wp2_with fail
     refine (cC.out _).mono ?_
     rintro e w11 ⟨rfl, hb11⟩
     clear t0 t1' t2 t3 t4 t5 t6 t7 t8
     have hbw4 := Lib.hid (chain hbw3.out hb11)
     have ht4 := cells9 (ht.out.below hb11 hst.out)
     have hv4 := hv3.out.below hb11 hsB.out
     obtain ⟨t0, t1', t2, t3, t4, t5, t6, t7, t8, _, _, _, _, _, _, _, _, _⟩ := ht4
     have hv9 := cells9 (v0 := .int .i64 0) (v1 := .int .i64 0) (v2 := .int .i64 0) (v3 := .int .i64 0) (v4 := .int .i64 0) (v5 := .int .i64 0) (v6 := .int .i64 0) (v7 := .int .u32 0) (v8 := .string ⟨#[]⟩) hv4
     obtain ⟨f0, f1, f2, f3, f4, f5, f6, f7, f8, g0, g1, g2, g3, g4, g5, g6, g7, g8⟩ := hv9
     replace hv4 := Lib.hid hv4
     clear ht hv3 hbw3 hst hsB hb11 cC
     by_cases hk0 : kk = 0
     ·have hval := hyes.out hk0
      rw [hFr.out] at hval
      replace hval := Lib.hid hval
      subst hk0
      have hput := Lib.hid (cells9 (putN_all (l := [.int .i64 n0, .int .i64 n1, .int .i64 (256 * n2 + n3), .int .i64 (256 * n4 + n5), .int .i64 n6, .int .i64 D1, .int .i64 D2, .int .u32 (((n8 * 256 + n9) * 256 + na) * 256 + nb), .string (b.extract 12 40)]) hv4.out rfl))
      have hbel := Lib.hid (putN_below (Nat.le_refl _) [.int .i64 n0, .int .i64 n1, .int .i64 (256 * n2 + n3), .int .i64 (256 * n4 + n5), .int .i64 n6, .int .i64 D1, .int .i64 D2, .int .u32 (((n8 * 256 + n9) * 256 + na) * 256 + nb), .string (b.extract 12 40)] 0 _ hbw4.out)
      obtain ⟨W5, hW5⟩ : ∃ W5, putN w.heap.size w11 0 [.int .i64 n0, .int .i64 n1, .int .i64 (256 * n2 + n3), .int .i64 (256 * n4 + n5), .int .i64 n6, .int .i64 D1, .int .i64 D2, .int .u32 (((n8 * 256 + n9) * 256 + na) * 256 + nb), .string (b.extract 12 40)] = W5 := ⟨_, rfl⟩
      rw [hW5] at hput hbel
      simp only [putN] at hW5
      clear hv4 hbw4 hFr hyes hno
      go_wp2
      first | rw [hW5] | skip
      obtain ⟨c0, c1, c2, c3, c4, c5, c6, c7, c8, _, _, _, _, _, _, _, _, _⟩ := hput.out
      refine bodyPost_ret (v := .tuple #[.agg #[.int .i64 n0, .int .i64 n1, .int .i64 (256 * n2 + n3), .int .i64 (256 * n4 + n5), .int .i64 n6, .int .i64 D1, .int .i64 D2, .int .u32 (((n8 * 256 + n9) * 256 + na) * 256 + nb), .string (b.extract 12 40)], .int .i64 0]) ?_ rfl ⟨by rw [hval.out], hbel.out⟩
      simp [results, Tryz.results63, go_sem, c0, c1, c2, c3, c4, c5, c6, c7, c8]
     ·have hval := hno.out hk0
      replace hval := Lib.hid hval
      have hput := Lib.hid (cells9 (v0 := .int .i64 0) (v1 := .int .i64 0) (v2 := .int .i64 0) (v3 := .int .i64 0) (v4 := .int .i64 0) (v5 := .int .i64 0) (v6 := .int .i64 0) (v7 := .int .u32 0) (v8 := .string ⟨#[]⟩) (putN_all (l := zeroF.cells.toList) hv4.out rfl))
      have hbel := Lib.hid (putN_below (Nat.le_refl _) zeroF.cells.toList 0 _ hbw4.out)
      obtain ⟨W5, hW5⟩ : ∃ W5, putN w.heap.size w11 0 zeroF.cells.toList = W5 := ⟨_, rfl⟩
      rw [hW5] at hput hbel
      unfold zeroF Fr.cells at hW5
      simp only [putN, BitVec.toNat_ofNat, Nat.zero_mod, Int.natCast_zero] at hW5
      have hz : (kk != 0) = true := bne_iff_ne.2 hk0
      clear hv4 hbw4 hFr hk0 hyes hno
      go_wp2
      first | rw [hW5] | skip
      obtain ⟨c0, c1, c2, c3, c4, c5, c6, c7, c8, _, _, _, _, _, _, _, _, _⟩ := hput.out
      refine bodyPost_ret (v := .tuple #[zeroF.val, .int .i64 kk]) ?_ rfl ⟨by rw [hval.out], hbel.out⟩
      simp [results, Tryz.results63, go_sem, c0, c1, c2, c3, c4, c5, c6, c7, c8]
      rfl
  ·obtain ⟨e1, e2⟩ := unE_sum (by omega) hs
   rw [e1, e2]
   rw [decide_eq_false hs] at hq
   clear hs e1 e2 hK hQ hll hb
   go_enter Tryz.func63, Tryz.ntmps63
   go_wp2_with fail
   obtain ⟨W0, hW0⟩ : ∃ W0, w.alloc (.cells zeroF.cells 44) = W0 := ⟨_, rfl⟩
   have hb0 : Below w.heap.size w W0 := by rw [← hW0]; exact (Below.refl _ _).alloc (Nat.le_refl _) _
   have hv0 : VAt W0 w.heap.size zeroF.cells.toList := by rw [← hW0]; exact vat_alloc w _ _
   have hs0 : w.heap.size < W0.heap.size := by rw [← hW0]; simp
   unfold zeroF Fr.cells at hW0
   simp only [BitVec.toNat_ofNat, Nat.zero_mod, Int.natCast_zero] at hW0
   rw [hW0]
   clear hW0
   have keep0 := Below.refl W0.heap.size W0
   have keep1 := keep W0
   have keepA : ∀ W o, Below W0.heap.size W0 W → Below W0.heap.size W0 (World.drew (W.alloc o)) := fun W o h => (h.alloc h.size _).drew
   go_region_held3 (fun W => Below W0.heap.size W0 W) (first | exact keep0 | exact keep1 _ keep0 | exact keepA _ _ keep0 | exact keepA _ _ ‹_› | exact chain ‹_› ‹_› | assumption) (first | (go_at_call 91; (with_reducible refine (cS.out _).mono ?_); rintro e w9 ⟨rfl, hb9⟩) | (go_at_call 90; (with_reducible refine (cB.out _).mono ?_); rintro e w10 ⟨rfl, hb10⟩))
   rename_i hbe
   have hv1 := hv0.below hbe hs0
   obtain ⟨⟨f0, f1, f2, f3, f4, f5, f6, f7, f8⟩, ⟨g0, g1, g2, g3, g4, g5, g6, g7, g8⟩⟩ := nine_of hv1
   have hput := Lib.hid (nine_of (f := zeroF) (putN_all (l := zeroF.cells.toList) hv1 rfl)).1
   have hbel := Lib.hid (putN_below (Nat.le_refl _) zeroF.cells.toList 0 _ (chain hb0 hbe))
   unfold zeroF at f0 f1 f2 f3 f4 f5 f6 f7 f8
   dsimp only at f0 f1 f2 f3 f4 f5 f6 f7 f8
   clear hv0 hv1 keep0 keep1 keepA keep
   go_wp2
   obtain ⟨W5, hW5⟩ : ∃ W5, putN w.heap.size w10 0 zeroF.cells.toList = W5 := ⟨_, rfl⟩
   rw [hW5] at hput hbel
   unfold zeroF Fr.cells at hW5
   simp only [putN, BitVec.toNat_ofNat, Nat.zero_mod, Int.natCast_zero] at hW5
   rw [hW5]
   obtain ⟨c0, c1, c2, c3, c4, c5, c6, c7, c8⟩ := hput.out
   refine bodyPost_ret (v := .tuple #[zeroF.val, .int .i64 5]) ?_ rfl ⟨rfl, hbel.out⟩
   simp [results, Tryz.results63, go_sem, c0, c1, c2, c3, c4, c5, c6, c7, c8]
   rfl
 ·have t1 : ((b.size : Int) != 44) = true := by rw [bne_iff_ne]; omega
  obtain ⟨e1, e2⟩ := unE_len (l := b.data.toList) (by omega)
  rw [e1, e2]
  clear h44 hll e1 e2
  go_enter Tryz.func63, Tryz.ntmps63
  go_wp2
  refine bodyPost_ret (v := .tuple #[zeroF.val, .int .i64 4]) ?_ rfl ⟨rfl, ?_⟩
  ·simp [results, Tryz.results63, go_sem]
   rfl
  ·exact (Below.refl _ _).alloc (Nat.le_refl _) _
end F13
end Go.Proofs.YtiodkllckcpinaaGreatDoor
