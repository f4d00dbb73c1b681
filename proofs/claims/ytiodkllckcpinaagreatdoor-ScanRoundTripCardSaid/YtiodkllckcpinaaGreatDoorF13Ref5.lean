/- The contract of the reference's Decode of layer 13 (written by gen/f13dec.py). -/
import Derived.Test.YtiodkllckcpinaaGreatDoorF13Ref3
import Derived.Test.YtiodkllckcpinaaGreatDoorM14AM
import Derived.Test.YtiodkllckcpinaaGreatDoorM14AA
import Derived.Test.YtiodkllckcpinaaGreatDoorM14AC
import Derived.Test.YtiodkllckcpinaaGreatDoorM14AW
import Derived.Test.YtiodkllckcpinaaGreatDoorM14BC
import Derived.Test.YtiodkllckcpinaaGreatDoorM14BD
import Derived.Test.YtiodkllckcpinaaGreatDoorM14AE
set_option linter.unusedVariables false
set_option linter.unusedSimpArgs false
set_option maxRecDepth 100000
namespace Go.Proofs.YtiodkllckcpinaaGreatDoor
namespace F13
open Go.RowKit Mem

theorem info_byte13 : (Tryz.prog.info? 5).map (fun i => (i.zero, i.size, i.bytes)) = some (some (.int .u8 0), 1, 1) := by kernel_rfl
def lenV : Value → Nat
 | .slice _ n _ => n
 | _ => 0
def pk (c : List UInt8) (k : Nat) : List UInt8 := c ++ List.replicate (k - c.length) 63
theorem pk_zero (c : List UInt8) : pk c c.length = c := by
 unfold pk
 rw [Nat.sub_self]
 simp
theorem pk_len {c : List UInt8} {k : Nat} (h : c.length ≤ k) : (pk c k).length = k := by
 unfold pk
 rw [List.length_append, List.length_replicate]
 omega
theorem pk_step {c : List UInt8} {k : Nat} (h : c.length ≤ k) : pk c k ++ [63] = pk c (k + 1) := by
 unfold pk
 rw [List.append_assoc, show k + 1 - c.length = (k - c.length) + 1 by omega, List.replicate_succ']
theorem byB_size {X : ByteArray} (hs : X.size = 836) (he : V10.eB X = 0) : (byB X).size = 52 ∧ (V10.dS X).size = 416 := by
 obtain ⟨g, hg⟩ := V10.good he (n := 416) hs
 have h1 : (V10.dS X).size = 416 := by rw [hg.str, C9.sb_size, hg.len]
 refine ⟨?_, h1⟩
 show (C1.tbS (V10.dS X).data.toList).length = 52
 have hl : (V10.dS X).data.toList.length = 416 := by simpa using h1
 have h : C1.tbE (V10.dS X).data.toList = 0 := C1.tbE_ok (by rw [chk_okC, hg.str]; exact C9.okC_sb _) (by rw [hl])
 rw [C1.tbS_ok h, C1.toB_len, hl]
theorem dec_size {u : List G5.R} {S : ByteArray} {m : Int} (h : G8.DecQ u 8 [] S m 0) : S.size = u.length := by
 by_cases hb : G8.Bad u.length 8 []
 ·obtain ⟨_, _, e⟩ := h.1 hb
  cases e
 ·by_cases hc : ∃ c, G8.Within (8 : Int).toNat u (G8.Lof []) c
  ·obtain ⟨c, hc⟩ := hc
   obtain ⟨rfl, _, _⟩ := (h.2 hb).1 c hc
   rw [G7.size_str, hc.len]
  ·obtain ⟨_, _, e⟩ := (h.2 hb).2 (fun c h => hc ⟨c, h⟩)
   cases e
set_option maxHeartbeats 4000000 in
theorem rdecode_bad (c : ByteArray) (w : World) (hc : c.size ≤ 1000000) (k : Int) (h : (C1.chk c.data.toList = 3 ∧ k = 3) ∨ (C1.chk c.data.toList = 0 ∧ 836 < c.size ∧ k = 6)) : Calls Tryz.prog 28 #[.string c] w fun e w' => e = .returned (.tuple #[zeroF.val, qV 0 0 0, .int .i64 k]) ∧ Below w.heap.size w w' := by
 have cK := Lib.hid (fun W => C1.rcheck_any c W (by omega))
 rcases h with ⟨h, rfl⟩ | ⟨h, hs, rfl⟩
 ·rw [h] at cK
  clear h
  go_enter Tryz.func28, Tryz.ntmps28
  go_wp2_with (go_at_call 56; refine (cK.out _).mono ?_; rintro e w1 ⟨rfl, rfl⟩)
  refine bodyPost_ret (v := .tuple #[zeroF.val, qV 0 0 0, .int .i64 3]) ?_ rfl ⟨rfl, two_made w _ _⟩
  simp [results, Tryz.results28, go_sem]
  exact ⟨rfl, rfl⟩
 ·rw [h] at cK
  have d1 : decide ((836 : Int) < (c.size : Int)) = true := decide_eq_true (by omega)
  clear h
  go_enter Tryz.func28, Tryz.ntmps28
  go_wp2_with (go_at_call 56; refine (cK.out _).mono ?_; rintro e w1 ⟨rfl, rfl⟩)
  refine bodyPost_ret (v := .tuple #[zeroF.val, qV 0 0 0, .int .i64 6]) ?_ rfl ⟨rfl, two_made w _ _⟩
  simp [results, Tryz.results28, go_sem]
  exact ⟨rfl, rfl⟩
set_option maxHeartbeats 16000000 in
theorem rdecode_main (c : ByteArray) (w : World) (hk0 : C1.chk c.data.toList = 0) (hs : c.size ≤ 836) : Calls Tryz.prog 28 #[.string c] w (DcP c w) := by
 have cK := Lib.hid (fun W => C1.rcheck_any c W (by omega))
 rw [hk0] at cK
 have hgoal : ∀ (Fr' : Fr) (d u n k : Int) (w' : World), InQ (xB c) Fr' d u n k → Below w.heap.size w w' → DcP c w (.returned (.tuple #[Fr'.val, qV d u n, .int .i64 k])) w' := fun Fr' d u n k w' h hb =>
  ⟨Fr', d, u, n, k, ⟨fun h' => absurd hk0 h', fun _ => ⟨fun h' => absurd hs (by omega), fun _ => h⟩⟩, rfl, hb⟩
 have hX836 := xB_size hs
 have hXok := xB_ok hk0
 have hXe := xB_eB hk0 hs
 have d1 : decide ((836 : Int) < (c.size : Int)) = false := decide_eq_false (by omega)
 have hll : c.data.toList.length = c.size := by simp
 have cI := fun W => I11.rdeinter_any ⟨(pk c.data.toList 836).toArray⟩ 8 W (by show (pk c.data.toList 836).length ≤ 1000; rw [pk_len (by omega)]; decide) (by decide)
 unfold I11.Dled at cI
 have hdS : I11.dS ⟨(pk c.data.toList 836).toArray⟩ 8 = xB c := rfl
 have hpE : I11.pE 8 = 0 := rfl
 rw [hdS, hpE] at cI
 have cU := fun W => C1.runreadable_any (xB c) W (by omega)
 have cE := fun W => C9.rextract_any (xB c) W (by omega)
 have cV := fun W => V10.rdecode_any (xB c) W (by omega)
 obtain ⟨hbs, hds⟩ := byB_size hX836 hXe
 have cT := fun W => C1.rtoBytes_any (V10.dS (xB c)) W (by omega)
 have cR := fun W => G8.rdec (s := byB (xB c)) (p := 8) (zs := []) (A := none) (n := 0) (c := 0) (w := W) (G8.IsInts.no W) rfl (by omega) (by decide) (by decide) (by decide)
 unfold V10.Deco at cV
 unfold C1.TbPost at cT
 have hBY : (⟨(C1.tbS (V10.dS (xB c)).data.toList).toArray⟩ : ByteArray) = byB (xB c) := rfl
 rw [hBY] at cT
 have hbyl : (G7.el (byB (xB c))).length = 52 := by rw [G7.el_len, hbs]
 have hed := fun S k h hk => ext_dec hX836 hXok (S := S) (k := k) h hk
 have hul : C1.unr (xB c).data.toList ≤ 836 := by
  have := C1.unr_le (xB c).data.toList
  have : (xB c).data.toList.length = 836 := by simpa using hX836
  omega
 obtain ⟨full, hfull⟩ : ∃ full : ByteArray, ⟨(pk c.data.toList 836).toArray⟩ = full := ⟨_, rfl⟩
 rw [hfull] at cI
 obtain ⟨i0, hi, hz0, hz1, hz2⟩ := info_parts info_byte13
 obtain ⟨W0, hW0⟩ : ∃ W0, (w.alloc (.cells #[.int .i64 0, .int .i64 0, .int .i64 0, .int .i64 0, .int .i64 0, .int .i64 0, .int .i64 0, .int .u32 0, .string ⟨#[]⟩] 44)).alloc (.cells #[.int .i64 0, .int .i64 0, .int .i64 0] 46) = W0 := ⟨_, rfl⟩
 have hv0 : VAt W0 w.heap.size [.int .i64 0, .int .i64 0, .int .i64 0, .int .i64 0, .int .i64 0, .int .i64 0, .int .i64 0, .int .u32 0, .string ⟨#[]⟩] := by
  rw [← hW0]
  exact (vat_alloc w 44 [.int .i64 0, .int .i64 0, .int .i64 0, .int .i64 0, .int .i64 0, .int .i64 0, .int .i64 0, .int .u32 0, .string ⟨#[]⟩]).below ((Below.refl _ _).alloc (Nat.le_refl _) _) (by simp)
 have hq0 : VAt W0 (w.heap.size + 1) [.int .i64 0, .int .i64 0, .int .i64 0] := by
  have := vat_alloc (w.alloc (.cells #[.int .i64 0, .int .i64 0, .int .i64 0, .int .i64 0, .int .i64 0, .int .i64 0, .int .i64 0, .int .u32 0, .string ⟨#[]⟩] 44)) 46 [.int .i64 0, .int .i64 0, .int .i64 0]
  rw [World.size_alloc] at this
  rw [← hW0]
  exact this
 have hb0 : Below w.heap.size w W0 := by rw [← hW0]; exact two_made w _ _
 have hs0 : W0.heap.size = w.heap.size + 1 + 1 := by rw [← hW0]; simp
 obtain ⟨cap0, W1, hcap0, hcv, hbuf, hb1⟩ := buf_of (P := Tryz.prog) W0 (src := 9) (dst := 53) (e := 5) c (by omega) Tryz.underlying9 Tryz.underlying53 Tryz.underlying5
 obtain ⟨G0, hG0⟩ : ∃ G, W0.heap.size = G := ⟨_, rfl⟩
 rw [hG0] at hcv hbuf hb1 hs0
 obtain ⟨n, hn⟩ : ∃ n, c.size = n := ⟨_, rfl⟩
 rw [hn] at hcv hll hs
 have hpk0 := pk_zero c.data.toList
 rw [hll] at hpk0
 have hpl := fun (k : Nat) (h : n ≤ k) => pk_len (c := c.data.toList) (k := k) (by omega)
 have hps := fun (k : Nat) (h : n ≤ k) => pk_step (c := c.data.toList) (k := k) (by omega)
 obtain ⟨pl, hpk⟩ : ∃ pl, pk c.data.toList = pl := ⟨_, rfl⟩
 rw [hpk] at hpk0 hpl hps hfull
 rw [← hpk0] at hbuf
 replace hbuf := Lib.hid hbuf
 replace hb1 : Hid (Below G0 W0 W1) := Lib.hid hb1
 have hG0h := Lib.hid hG0
 have hs0h := Lib.hid hs0
 replace hpl := Lib.hid hpl
 replace hps := Lib.hid hps
 replace hfull := Lib.hid hfull
 replace hgoal := Lib.hid hgoal
 replace hed := Lib.hid hed
 replace cI := Lib.hid cI
 replace cU := Lib.hid cU
 replace cE := Lib.hid cE
 replace cV := Lib.hid cV
 replace cT := Lib.hid cT
 replace cR := Lib.hid cR
 replace hv0 := Lib.hid hv0
 replace hq0 := Lib.hid hq0
 replace hb0 := Lib.hid hb0
 replace hul := Lib.hid hul
 replace hbyl := Lib.hid hbyl
 have hnh := Lib.hid hn
 obtain ⟨X, hX⟩ : ∃ X, xB c = X := ⟨_, rfl⟩
 rw [hX] at *
 obtain ⟨P, hP⟩ : ∃ P, DcP c w = P := ⟨_, rfl⟩
 rw [hP] at hgoal ⊢
 show Calls _ _ _ _ (fun e w' => P e w')
 clear hX hP hG0 hs0 hBY hpk hpk0 hk0 hX836 hXok hXe hds hbs hdS hpE hn hll
 go_enter Tryz.func28, Tryz.ntmps28
 go_wp2_with (go_at_call 56; refine (cK.out _).mono ?_; rintro e w1 ⟨rfl, rfl⟩)
 clear hcv hW0 cK d1
 go_loopw [5] (fun v wr => ∃ k g cap : Nat, n ≤ k ∧ k ≤ 836 ∧ cap ≤ 9223372036854775807 ∧ v = .slice (some ⟨g, 0, none⟩) k cap ∧ Hid (Buf wr g cap (pl k)) ∧ Hid (G0 ≤ g) ∧ Hid (Below G0 W0 wr)) (fun v _ => 836 - lenV v)
 case atStart => exact ⟨n, G0, cap0, Nat.le_refl _, hs, hcap0, rfl, hbuf, Lib.hid (Nat.le_refl _), hb1⟩
 case round =>
  clear hbuf hb1 hcap0
  obtain ⟨k, g, cap, hk, hk8, hcap, rfl, hbuf, hgg, hb⟩ := hrel
  by_cases hlt : k < 836
  ·go_wp2_with (at_builtin; refine wpList_append_buf _ rfl _ _ 53 rfl 5 i0 Tryz.underlying53 hi hz0 hz1 hz2 g k cap (pl k) rfl (hpl.out k hk) (hbuf.out.alloc _) (by omega) ⟨wr.heap.size, 0, none⟩ 63 rfl (by simp) G0 W0 (hb.out.alloc (by have := hb.out.size; rw [hG0h.out] at this; exact this) _) hgg.out ?_)
   intro g' cap' w' hcap' hg' hbuf' hb'
   rw [hps.out k hk] at hbuf'
   replace hbuf' := Lib.hid hbuf'
   replace hg' := Lib.hid hg'
   replace hb' := Lib.hid hb'
   have hcap2 : cap' ≤ 9223372036854775807 := by omega
   clear hbuf hgg hb
   go_wp2
   go_roundw
   case rel => exact ⟨k + 1, g', cap', by omega, by omega, hcap2, rfl, hbuf', hg', hb'⟩
   case measure => simp [lenV]; omega
  ·obtain rfl : k = 836 := by omega
   have hconv := hbuf.out.conv (P := Tryz.prog) (n := 836) (hpl.out 836 hk) Tryz.underlying53 Tryz.underlying5 Tryz.underlying9
   rw [hfull.out] at hconv
   have hb2 := Lib.hid hb.out
   clear hbuf hgg hb hlt
   go_wp2_with fail
   refine (cI.out _).mono ?_
   rintro e w3 ⟨rfl, hb3⟩
   replace hb2 := Lib.hid (hb2.out.trans (hb3.mono (by have := hb2.out.size; rw [hG0h.out] at this; exact this)))
   clear hb3 hconv cI
   go_wp2_with fail
   refine (cU.out _).mono ?_
   rintro e w4 ⟨rfl, rfl⟩
   go_wp2_with fail
   obtain ⟨Q, hQ⟩ : ∃ Q, w3.heap.size = Q := ⟨_, rfl⟩
   obtain ⟨W4, hW4⟩ : ∃ W4, w3.alloc (.cells #[.int .i64 0, .int .i64 (C1.unr (xB c).data.toList : Int), .int .i64 0] 46) = W4 := ⟨_, rfl⟩
   have hb3 := hb2.out
   have hG3 : G0 ≤ Q := by have := hb3.size; rw [hG0h.out, hQ] at this; exact this
   have hq4 : VAt W4 Q [.int .i64 0, .int .i64 (C1.unr (xB c).data.toList : Int), .int .i64 0] := by rw [← hW4, ← hQ]; exact vat_alloc w3 _ _
   have hs4 : W4.heap.size = Q + 1 := by rw [← hW4, ← hQ]; simp
   have hb4 : Below G0 W0 W4 := by rw [← hW4]; exact hb3.alloc (by rw [hQ]; exact hG3) _
   have hBG : w.heap.size < G0 := by have := hs0h.out; omega
   have hCG : w.heap.size + 1 < G0 := by have := hs0h.out; omega
   have hvB : Hid (VAt W4 w.heap.size [.int .i64 0, .int .i64 0, .int .i64 0, .int .i64 0, .int .i64 0, .int .i64 0, .int .i64 0, .int .u32 0, .string ⟨#[]⟩]) := Lib.hid (hv0.out.below hb4 hBG)
   have hvC : Hid (VAt W4 (w.heap.size + 1) [.int .i64 0, .int .i64 0, .int .i64 0]) := Lib.hid (hq0.out.below hb4 hCG)
   have hbw : Hid (Below w.heap.size w W4) := Lib.hid (chain hb0.out (by rw [hG0h.out]; exact hb4))
   have hq4 := Lib.hid hq4
   have hs4 := Lib.hid hs4
   have hBQ := Lib.hid (Nat.lt_of_lt_of_le hBG hG3)
   have hCQ := Lib.hid (Nat.lt_of_lt_of_le hCG hG3)
   rw [hQ, hW4]
   clear hQ hW4 hb3 hG3 hb4 hBG hCG hb2 hv0 hq0 hb0 cU
   refine (cE.out _).mono ?_
   rintro e w5 ⟨S, kx, hE, rfl, hb5⟩
   have hvB5 := Lib.hid (hvB.out.below hb5 (by have := hs4.out; have := hBQ.out; omega))
   have hvC5 := Lib.hid (hvC.out.below hb5 (by have := hs4.out; have := hCQ.out; omega))
   have hvQ5 := hq4.out.below hb5 (by have := hs4.out; omega)
   have hbw5 := Lib.hid (chain hbw.out hb5)
   have hs5 := Lib.hid (show Q < w5.heap.size by have := hs4.out; have := hb5.size; omega)
   clear hvB hvC hq4 hbw hs4 hb5 cE
   by_cases hk0 : kx = 0
   ·obtain ⟨e1, e2⟩ := hed.out S kx hE hk0
    subst hk0
    rw [← e1]
    have hvQ6 : VAt w5 Q [.int .i64 (V10.dN (xB c)), .int .i64 (C1.unr (xB c).data.toList : Int), .int .i64 0] := by rw [e2]; exact hvQ5
    clear hE hvQ5 e1 e2
    obtain ⟨WZ, rfl⟩ : ∃ W, W = w5 := ⟨_, rfl⟩
    have hvB6 := hvB5
    have hvC6 := hvC5
    have hbw6 := hbw5
    have hs6 := hs5
    clear hvB5 hvC5 hbw5 hs5
    go_wp2_with fail
    refine (cT.out _).mono ?_
    rintro e w7 ⟨v, rfl, hown, hb7⟩
    clear hown cT
    go_wp2_with fail
    refine (cR.out _).mono ?_
    rintro e w8 ⟨S2, m, j, hD, rfl, hb8⟩
    have hb78 := chain hb7 hb8
    have hvB8 := hvB6.out.below hb78 (by have := hs6.out; have := hBQ.out; omega)
    have hvC8 := hvC6.out.below hb78 (by have := hs6.out; have := hCQ.out; omega)
    have hvQ8 := hvQ6.below hb78 hs6.out
    have hbw8 := chain hbw6.out hb78
    have hs8 : Q < w8.heap.size := by have := hs6.out; have := hb78.size; omega
    clear hb7 hb8 hb78 hvB6 hvC6 hvQ6 hbw6 hs6 cR hed
    by_cases hj : j = 0
    ·subst hj
     have hS52 : S2.size = 52 := by rw [dec_size hD, hbyl.out]
     have cN := fun W => runmarshal_any (S2.extract 0 44) W (by rw [ByteArray.size_extract]; omega)
     rw [show (S2.extract 0 44).data.toList = S2.data.toList.take 44 by rw [ext_list, List.drop_zero]] at cN
     obtain ⟨F, hF⟩ : ∃ F, unF (S2.data.toList.take 44) = F := ⟨_, rfl⟩
     obtain ⟨k2, hk2⟩ : ∃ k, unE (S2.data.toList.take 44) = k := ⟨_, rfl⟩
     have hfin1 := Lib.hid (fun (h : k2 ≠ 0) w' hb => hgoal.out zeroF 0 0 0 k2 w' ⟨S2, m, 0, hD, fun h' => absurd rfl h', fun _ => ⟨fun _ => ⟨⟨rfl, rfl, rfl, rfl⟩, hk2.symm⟩, fun h' => absurd (hk2.symm.trans h') h⟩⟩ hb)
     have hfin2 := Lib.hid (fun (h : k2 = 0) w' hb => hgoal.out F (V10.dN (xB c)) (C1.unr (xB c).data.toList : Int) m 0 w' ⟨S2, m, 0, hD, fun h' => absurd rfl h', fun _ => ⟨fun h' => absurd (hk2.trans h) h', fun _ => ⟨hF.symm, rfl, rfl, rfl, rfl⟩⟩⟩ hb)
     rw [hF, hk2] at cN
     clear hF hk2 hD
     obtain ⟨kind, reel, sess, idx, len, data, spare, arch, pay⟩ := F
     unfold Fr.val at cN hfin2
     unfold Fr.cells at cN hfin2
     dsimp only at cN hfin2
     replace cN := Lib.hid cN
     have i1 : (44 : Int) ≤ (S2.size : Int) := by omega
     have hvQ9 : VAt (w8.setCell ⟨Q, 2, none⟩ (.int .i64 m)) Q [.int .i64 (V10.dN (xB c)), .int .i64 (C1.unr (xB c).data.toList : Int), .int .i64 m] := hvQ8.set (k := 2) (show 2 < 3 by decide) (.int .i64 m)
     have hvB9 := hvB8.far (Nat.ne_of_gt hBQ.out) (k := 2) (.int .i64 m)
     have hvC9 := hvC8.far (Nat.ne_of_gt hCQ.out) (k := 2) (.int .i64 m)
     have hbw9 := hbw8.setCell (p := ⟨Q, 2, none⟩) (Nat.le_of_lt hBQ.out) (.int .i64 m)
     have hs9 : Q < (w8.setCell ⟨Q, 2, none⟩ (.int .i64 m)).heap.size := by simpa using hs8
     obtain ⟨q0, q1, q2, z0, z1, z2⟩ := cells3 hvQ8
     obtain ⟨W9, hW9⟩ : ∃ W, w8.setCell ⟨Q, 2, none⟩ (.int .i64 m) = W := ⟨_, rfl⟩
     rw [hW9] at hvQ9 hvB9 hvC9 hbw9 hs9
     replace hvQ9 := Lib.hid hvQ9
     replace hvB9 := Lib.hid hvB9
     replace hvC9 := Lib.hid hvC9
     replace hbw9 := Lib.hid hbw9
     replace hs9 := Lib.hid hs9
     clear hvB8 hvC8 hvQ8 hbw8 hs8 hS52
     go_wp2_with fail
     refine (cN.out _).mono ?_
     rintro e w10 ⟨rfl, hb10⟩
     have hvQ10 := hvQ9.out.below hb10 hs9.out
     have hvB10 := hvB9.out.below hb10 (by have := hs9.out; have := hBQ.out; omega)
     have hvC10 := hvC9.out.below hb10 (by have := hs9.out; have := hCQ.out; omega)
     have hbw10 := chain hbw9.out hb10
     have hs10 : Q < w10.heap.size := by have := hs9.out; have := hb10.size; omega
     clear q0 q1 q2 z0 z1 z2 hW9 hvQ9 hvB9 hvC9 hbw9 hs9 hb10 cN
     have hal := (Below.refl w10.heap.size w10).alloc (Nat.le_refl _) (.cells [.int .i64 kind, .int .i64 reel, .int .i64 sess, .int .i64 idx, .int .i64 len, .int .i64 data, .int .i64 spare, .int .u32 (arch.toNat : Int), .string pay].toArray 44)
     have hvT := vat_alloc w10 44 [.int .i64 kind, .int .i64 reel, .int .i64 sess, .int .i64 idx, .int .i64 len, .int .i64 data, .int .i64 spare, .int .u32 (arch.toNat : Int), .string pay]
     obtain ⟨W11, hW11⟩ : ∃ W, w10.alloc (.cells #[.int .i64 kind, .int .i64 reel, .int .i64 sess, .int .i64 idx, .int .i64 len, .int .i64 data, .int .i64 spare, .int .u32 (arch.toNat : Int), .string pay] 44) = W := ⟨_, rfl⟩
     rw [show w10.alloc (.cells [.int .i64 kind, .int .i64 reel, .int .i64 sess, .int .i64 idx, .int .i64 len, .int .i64 data, .int .i64 spare, .int .u32 (arch.toNat : Int), .string pay].toArray 44) = W11 from hW11] at hal hvT
     have hTQ0 : w.heap.size + 1 < w10.heap.size := by have := hCQ.out; omega
     have hvQ11 := hvQ10.below hal hs10
     have hvB11 := hvB10.below hal (by have := hBQ.out; omega)
     have hvC11 := hvC10.below hal (by have := hCQ.out; omega)
     have hbw11 := chain hbw10 hal
     clear hvQ10 hvB10 hvC10 hbw10 hs10 hal
     obtain ⟨t0, t1, t2, t3, t4, t5, t6, t7, t8, _, _, _, _, _, _, _, _, _⟩ := cells9 hvT
     obtain ⟨f0, f1, f2, f3, f4, f5, f6, f7, f8, y0, y1, y2, y3, y4, y5, y6, y7, y8⟩ := cells9 hvB11
     obtain ⟨q0, q1, q2, z0, z1, z2⟩ := cells3 hvC11
     obtain ⟨r0, r1, r2, _, _, _⟩ := cells3 hvQ11
     by_cases hk20 : k2 = 0
     ·have hfin := Lib.hid (hfin2.out hk20)
      have hnBC : w.heap.size ≠ w.heap.size + 1 := by omega
      have hnBQ := hBQ.out
      have hnCQ := hCQ.out
      have hTQ := Lib.hid hTQ0
      obtain ⟨g9, g3, gb⟩ := wrote (l9 := [.int .i64 kind, .int .i64 reel, .int .i64 sess, .int .i64 idx, .int .i64 len, .int .i64 data, .int .i64 spare, .int .u32 (arch.toNat : Int), .string pay]) (l3 := [.int .i64 (V10.dN (xB c)), .int .i64 (C1.unr (xB c).data.toList : Int), .int .i64 m]) hvB11 hvC11 rfl rfl hnBC hbw11 (Nat.le_refl _) (by omega)
      have gB : VAt (putN w.heap.size W11 0 [.int .i64 kind, .int .i64 reel, .int .i64 sess, .int .i64 idx, .int .i64 len, .int .i64 data, .int .i64 spare, .int .u32 (arch.toNat : Int), .string pay]) w.heap.size [.int .i64 kind, .int .i64 reel, .int .i64 sess, .int .i64 idx, .int .i64 len, .int .i64 data, .int .i64 spare, .int .u32 (arch.toNat : Int), .string pay] := putN_all hvB11 rfl
      have gBC : VAt (putN w.heap.size W11 0 [.int .i64 kind, .int .i64 reel, .int .i64 sess, .int .i64 idx, .int .i64 len, .int .i64 data, .int .i64 spare, .int .u32 (arch.toNat : Int), .string pay]) (w.heap.size + 1) [.int .i64 0, .int .i64 0, .int .i64 0] := putN_far hnBC [.int .i64 kind, .int .i64 reel, .int .i64 sess, .int .i64 idx, .int .i64 len, .int .i64 data, .int .i64 spare, .int .u32 (arch.toNat : Int), .string pay] 0 _ hvC11
      have gBQ : VAt (putN w.heap.size W11 0 [.int .i64 kind, .int .i64 reel, .int .i64 sess, .int .i64 idx, .int .i64 len, .int .i64 data, .int .i64 spare, .int .u32 (arch.toNat : Int), .string pay]) Q [.int .i64 (V10.dN (xB c)), .int .i64 (C1.unr (xB c).data.toList : Int), .int .i64 m] := putN_far (by omega) [.int .i64 kind, .int .i64 reel, .int .i64 sess, .int .i64 idx, .int .i64 len, .int .i64 data, .int .i64 spare, .int .u32 (arch.toNat : Int), .string pay] 0 _ hvQ11
      have gCT : VAt (putN (w.heap.size + 1) W11 0 [.int .i64 (V10.dN (xB c)), .int .i64 (C1.unr (xB c).data.toList : Int), .int .i64 m]) w10.heap.size [.int .i64 kind, .int .i64 reel, .int .i64 sess, .int .i64 idx, .int .i64 len, .int .i64 data, .int .i64 spare, .int .u32 (arch.toNat : Int), .string pay] := putN_far (by have := hTQ.out; omega) [.int .i64 (V10.dN (xB c)), .int .i64 (C1.unr (xB c).data.toList : Int), .int .i64 m] 0 _ hvT
      have gCB : VAt (putN (w.heap.size + 1) W11 0 [.int .i64 (V10.dN (xB c)), .int .i64 (C1.unr (xB c).data.toList : Int), .int .i64 m]) w.heap.size [.int .i64 0, .int .i64 0, .int .i64 0, .int .i64 0, .int .i64 0, .int .i64 0, .int .i64 0, .int .u32 0, .string ⟨#[]⟩] := putN_far (Ne.symm hnBC) [.int .i64 (V10.dN (xB c)), .int .i64 (C1.unr (xB c).data.toList : Int), .int .i64 m] 0 _ hvB11
      have gC : VAt (putN (w.heap.size + 1) W11 0 [.int .i64 (V10.dN (xB c)), .int .i64 (C1.unr (xB c).data.toList : Int), .int .i64 m]) (w.heap.size + 1) [.int .i64 (V10.dN (xB c)), .int .i64 (C1.unr (xB c).data.toList : Int), .int .i64 m] := putN_all hvC11 rfl
      have k9 : VAt (putN w.heap.size (putN (w.heap.size + 1) W11 0 [.int .i64 (V10.dN (xB c)), .int .i64 (C1.unr (xB c).data.toList : Int), .int .i64 m]) 0 [.int .i64 kind, .int .i64 reel, .int .i64 sess, .int .i64 idx, .int .i64 len, .int .i64 data, .int .i64 spare, .int .u32 (arch.toNat : Int), .string pay]) w.heap.size [.int .i64 kind, .int .i64 reel, .int .i64 sess, .int .i64 idx, .int .i64 len, .int .i64 data, .int .i64 spare, .int .u32 (arch.toNat : Int), .string pay] := putN_all gCB rfl
      have k3 : VAt (putN w.heap.size (putN (w.heap.size + 1) W11 0 [.int .i64 (V10.dN (xB c)), .int .i64 (C1.unr (xB c).data.toList : Int), .int .i64 m]) 0 [.int .i64 kind, .int .i64 reel, .int .i64 sess, .int .i64 idx, .int .i64 len, .int .i64 data, .int .i64 spare, .int .u32 (arch.toNat : Int), .string pay]) (w.heap.size + 1) [.int .i64 (V10.dN (xB c)), .int .i64 (C1.unr (xB c).data.toList : Int), .int .i64 m] := putN_far hnBC [.int .i64 kind, .int .i64 reel, .int .i64 sess, .int .i64 idx, .int .i64 len, .int .i64 data, .int .i64 spare, .int .u32 (arch.toNat : Int), .string pay] 0 _ gC
      have kb : Below w.heap.size w (putN w.heap.size (putN (w.heap.size + 1) W11 0 [.int .i64 (V10.dN (xB c)), .int .i64 (C1.unr (xB c).data.toList : Int), .int .i64 m]) 0 [.int .i64 kind, .int .i64 reel, .int .i64 sess, .int .i64 idx, .int .i64 len, .int .i64 data, .int .i64 spare, .int .u32 (arch.toNat : Int), .string pay]) := putN_below (Nat.le_refl _) [.int .i64 kind, .int .i64 reel, .int .i64 sess, .int .i64 idx, .int .i64 len, .int .i64 data, .int .i64 spare, .int .u32 (arch.toNat : Int), .string pay] 0 _ (putN_below (by omega) [.int .i64 (V10.dN (xB c)), .int .i64 (C1.unr (xB c).data.toList : Int), .int .i64 m] 0 _ hbw11)
      obtain ⟨WB, hWB⟩ : ∃ W, putN w.heap.size W11 0 [.int .i64 kind, .int .i64 reel, .int .i64 sess, .int .i64 idx, .int .i64 len, .int .i64 data, .int .i64 spare, .int .u32 (arch.toNat : Int), .string pay] = W := ⟨_, rfl⟩
      obtain ⟨WC, hWC⟩ : ∃ W, putN (w.heap.size + 1) W11 0 [.int .i64 (V10.dN (xB c)), .int .i64 (C1.unr (xB c).data.toList : Int), .int .i64 m] = W := ⟨_, rfl⟩
      rw [hWB] at g9 g3 gb gBC gBQ
      rw [hWC] at gCT gCB k9 k3 kb
      obtain ⟨WE, hWE⟩ : ∃ W, putN (w.heap.size + 1) WB 0 [.int .i64 (V10.dN (xB c)), .int .i64 (C1.unr (xB c).data.toList : Int), .int .i64 m] = W := ⟨_, rfl⟩
      obtain ⟨WF, hWF⟩ : ∃ W, putN w.heap.size WC 0 [.int .i64 kind, .int .i64 reel, .int .i64 sess, .int .i64 idx, .int .i64 len, .int .i64 data, .int .i64 spare, .int .u32 (arch.toNat : Int), .string pay] = W := ⟨_, rfl⟩
      rw [hWE] at g9 g3 gb
      rw [hWF] at k9 k3 kb
      simp only [putN, Nat.zero_add, Nat.reduceAdd] at hWB hWC hWE hWF
      obtain ⟨c0, c1, c2, c3, c4, c5, c6, c7, c8, _, _, _, _, _, _, _, _, _⟩ := cells9 g9
      obtain ⟨p0, p1, p2, _, _, _⟩ := cells3 g3
      obtain ⟨c0', c1', c2', c3', c4', c5', c6', c7', c8', _, _, _, _, _, _, _, _, _⟩ := cells9 k9
      obtain ⟨p0', p1', p2', _, _, _⟩ := cells3 k3
      obtain ⟨a0, a1, a2, a3, a4, a5⟩ := cells3 gBC
      obtain ⟨b0, b1, b2, _, _, _⟩ := cells3 gBQ
      obtain ⟨t0', t1', t2', t3', t4', t5', t6', t7', t8', _, _, _, _, _, _, _, _, _⟩ := cells9 gCT
      obtain ⟨f0', f1', f2', f3', f4', f5', f6', f7', f8', y0', y1', y2', y3', y4', y5', y6', y7', y8'⟩ := cells9 gCB
      have gb1 := Lib.hid gb
      have kb1 := Lib.hid kb
      clear hvT hvB11 hvC11 hvQ11 hbw11 hfin1 hfin2 gB gBC gBQ gCT gCB gC g9 g3 k9 k3 gb kb hnBC hnBQ hnCQ
      subst hk20
      go_wp2_with fail
      go_region
      all_goals
       go_wp2
       first
        |(refine bodyPost_ret (v := .tuple #[.agg #[.int .i64 kind, .int .i64 reel, .int .i64 sess, .int .i64 idx, .int .i64 len, .int .i64 data, .int .i64 spare, .int .u32 (arch.toNat : Int), .string pay], qV (V10.dN (xB c)) (C1.unr (xB c).data.toList : Int) m, .int .i64 0]) ?_ rfl (hfin.out _ gb1.out.drew)
          simp [results, Tryz.results28, go_sem, c0, c1, c2, c3, c4, c5, c6, c7, c8, p0, p1, p2]
          rfl)
        |(refine bodyPost_ret (v := .tuple #[.agg #[.int .i64 kind, .int .i64 reel, .int .i64 sess, .int .i64 idx, .int .i64 len, .int .i64 data, .int .i64 spare, .int .u32 (arch.toNat : Int), .string pay], qV (V10.dN (xB c)) (C1.unr (xB c).data.toList : Int) m, .int .i64 0]) ?_ rfl (hfin.out _ kb1.out.drew)
          simp [results, Tryz.results28, go_sem, c0', c1', c2', c3', c4', c5', c6', c7', c8', p0', p1', p2']
          rfl)
     ·have d4 : (k2 != 0) = true := bne_iff_ne.2 hk20
      have hfin := Lib.hid (hfin1.out hk20)
      obtain ⟨g9, g3, gb⟩ := wrote (l9 := [.int .i64 0, .int .i64 0, .int .i64 0, .int .i64 0, .int .i64 0, .int .i64 0, .int .i64 0, .int .u32 0, .string ⟨#[]⟩]) (l3 := [.int .i64 0, .int .i64 0, .int .i64 0]) hvB11 hvC11 rfl rfl (by omega) hbw11 (Nat.le_refl _) (by omega)
      have g9 := cells9 g9
      have g3 := cells3 g3
      obtain ⟨WE, hWE⟩ : ∃ WE, putN (w.heap.size + 1) (putN w.heap.size W11 0 [.int .i64 0, .int .i64 0, .int .i64 0, .int .i64 0, .int .i64 0, .int .i64 0, .int .i64 0, .int .u32 0, .string ⟨#[]⟩]) 0 [.int .i64 0, .int .i64 0, .int .i64 0] = WE := ⟨_, rfl⟩
      rw [hWE] at g9 g3 gb
      simp only [putN] at hWE
      obtain ⟨c0, c1, c2, c3, c4, c5, c6, c7, c8, _, _, _, _, _, _, _, _, _⟩ := g9
      obtain ⟨p0, p1, p2, _, _, _⟩ := g3
      replace gb := Lib.hid gb
      clear hvT hvB11 hvC11 hvQ11 hbw11 hfin1 hfin2 r0 r1 r2 t0 t1 t2 t3 t4 t5 t6 t7 t8
      go_wp2
      refine bodyPost_ret (v := .tuple #[zeroF.val, qV 0 0 0, .int .i64 k2]) ?_ rfl (hfin.out _ gb.out)
      simp [results, Tryz.results28, go_sem, c0, c1, c2, c3, c4, c5, c6, c7, c8, p0, p1, p2]
      exact ⟨rfl, rfl⟩
    ·have d4 : (j != 0) = true := bne_iff_ne.2 hj
     have hfin := Lib.hid (fun w' hb => hgoal.out zeroF 0 0 0 j w' ⟨S2, m, j, hD, fun _ => ⟨⟨rfl, rfl, rfl, rfl⟩, rfl⟩, fun h => absurd h hj⟩ hb)
     obtain ⟨g9, g3, gb⟩ := wrote (l9 := [.int .i64 0, .int .i64 0, .int .i64 0, .int .i64 0, .int .i64 0, .int .i64 0, .int .i64 0, .int .u32 0, .string ⟨#[]⟩]) (l3 := [.int .i64 0, .int .i64 0, .int .i64 0]) hvB8 hvC8 rfl rfl (by omega) hbw8 (Nat.le_refl _) (by omega)
     obtain ⟨f0, f1, f2, f3, f4, f5, f6, f7, f8, y0, y1, y2, y3, y4, y5, y6, y7, y8⟩ := cells9 hvB8
     obtain ⟨q0, q1, q2, z0, z1, z2⟩ := cells3 hvC8
     have g9 := cells9 g9
     have g3 := cells3 g3
     obtain ⟨WE, hWE⟩ : ∃ WE, putN (w.heap.size + 1) (putN w.heap.size w8 0 [.int .i64 0, .int .i64 0, .int .i64 0, .int .i64 0, .int .i64 0, .int .i64 0, .int .i64 0, .int .u32 0, .string ⟨#[]⟩]) 0 [.int .i64 0, .int .i64 0, .int .i64 0] = WE := ⟨_, rfl⟩
     rw [hWE] at g9 g3 gb
     simp only [putN] at hWE
     obtain ⟨c0, c1, c2, c3, c4, c5, c6, c7, c8, _, _, _, _, _, _, _, _, _⟩ := g9
     obtain ⟨p0, p1, p2, _, _, _⟩ := g3
     replace gb := Lib.hid gb
     clear hD hvB8 hvC8 hvQ8 hbw8
     go_wp2
     refine bodyPost_ret (v := .tuple #[zeroF.val, qV 0 0 0, .int .i64 j]) ?_ rfl (hfin.out _ gb.out)
     simp [results, Tryz.results28, go_sem, c0, c1, c2, c3, c4, c5, c6, c7, c8, p0, p1, p2]
     exact ⟨rfl, rfl⟩
   ·have d2 : (kx != 0) = true := bne_iff_ne.2 hk0
    obtain ⟨q0, q1, q2, z0, z1, z2⟩ := cells3 hvQ5
    clear hE
    go_wp2_with fail
    refine (cV.out _).mono ?_
    rintro e w6 ⟨rfl, hb6⟩
    have hvQ5' := hvQ5.below hb6 hs5.out
    have hvQ6 := hvQ5'.set (k := 0) (show 0 < 3 by decide) (.int .i64 (V10.dN (xB c)))
    have hvQ6 : VAt (w6.setCell ⟨Q, 0, none⟩ (.int .i64 (V10.dN (xB c)))) Q [.int .i64 (V10.dN (xB c)), .int .i64 (C1.unr (xB c).data.toList : Int), .int .i64 0] := hvQ6
    have hvB6 : Hid (VAt (w6.setCell ⟨Q, 0, none⟩ (.int .i64 (V10.dN (xB c)))) w.heap.size [.int .i64 0, .int .i64 0, .int .i64 0, .int .i64 0, .int .i64 0, .int .i64 0, .int .i64 0, .int .u32 0, .string ⟨#[]⟩]) := Lib.hid ((hvB5.out.below hb6 (by have := hs5.out; have := hBQ.out; omega)).far (Nat.ne_of_gt hBQ.out) _)
    have hvC6 : Hid (VAt (w6.setCell ⟨Q, 0, none⟩ (.int .i64 (V10.dN (xB c)))) (w.heap.size + 1) [.int .i64 0, .int .i64 0, .int .i64 0]) := Lib.hid ((hvC5.out.below hb6 (by have := hs5.out; have := hCQ.out; omega)).far (Nat.ne_of_gt hCQ.out) _)
    have hbw6 : Hid (Below w.heap.size w (w6.setCell ⟨Q, 0, none⟩ (.int .i64 (V10.dN (xB c))))) := Lib.hid ((chain hbw5.out hb6).setCell (p := ⟨Q, 0, none⟩) (Nat.le_of_lt hBQ.out) _)
    have hs6 : Hid (Q < (w6.setCell ⟨Q, 0, none⟩ (.int .i64 (V10.dN (xB c)))).heap.size) := Lib.hid (by have := hs5.out; have := hb6.size; simp; omega)
    obtain ⟨q0', q1', q2', z0', z1', z2'⟩ := cells3 hvQ5'
    obtain ⟨WZ, hWZ⟩ : ∃ W, w6.setCell ⟨Q, 0, none⟩ (.int .i64 (V10.dN (xB c))) = W := ⟨_, rfl⟩
    rw [hWZ] at hvQ6 hvB6 hvC6 hbw6 hs6
    clear hvB5 hvC5 hbw5 hs5 hvQ5 hvQ5' hb6 q0 q1 q2 z0 z1 z2 d2 cV
    go_wp2_with fail
    refine (cT.out _).mono ?_
    rintro e w7 ⟨v, rfl, hown, hb7⟩
    clear hown cT
    go_wp2_with fail
    refine (cR.out _).mono ?_
    rintro e w8 ⟨S2, m, j, hD, rfl, hb8⟩
    have hb78 := chain hb7 hb8
    have hvB8 := hvB6.out.below hb78 (by have := hs6.out; have := hBQ.out; omega)
    have hvC8 := hvC6.out.below hb78 (by have := hs6.out; have := hCQ.out; omega)
    have hvQ8 := hvQ6.below hb78 hs6.out
    have hbw8 := chain hbw6.out hb78
    have hs8 : Q < w8.heap.size := by have := hs6.out; have := hb78.size; omega
    clear hb7 hb8 hb78 hvB6 hvC6 hvQ6 hbw6 hs6 cR hed
    by_cases hj : j = 0
    ·subst hj
     have hS52 : S2.size = 52 := by rw [dec_size hD, hbyl.out]
     have cN := fun W => runmarshal_any (S2.extract 0 44) W (by rw [ByteArray.size_extract]; omega)
     rw [show (S2.extract 0 44).data.toList = S2.data.toList.take 44 by rw [ext_list, List.drop_zero]] at cN
     obtain ⟨F, hF⟩ : ∃ F, unF (S2.data.toList.take 44) = F := ⟨_, rfl⟩
     obtain ⟨k2, hk2⟩ : ∃ k, unE (S2.data.toList.take 44) = k := ⟨_, rfl⟩
     have hfin1 := Lib.hid (fun (h : k2 ≠ 0) w' hb => hgoal.out zeroF 0 0 0 k2 w' ⟨S2, m, 0, hD, fun h' => absurd rfl h', fun _ => ⟨fun _ => ⟨⟨rfl, rfl, rfl, rfl⟩, hk2.symm⟩, fun h' => absurd (hk2.symm.trans h') h⟩⟩ hb)
     have hfin2 := Lib.hid (fun (h : k2 = 0) w' hb => hgoal.out F (V10.dN (xB c)) (C1.unr (xB c).data.toList : Int) m 0 w' ⟨S2, m, 0, hD, fun h' => absurd rfl h', fun _ => ⟨fun h' => absurd (hk2.trans h) h', fun _ => ⟨hF.symm, rfl, rfl, rfl, rfl⟩⟩⟩ hb)
     rw [hF, hk2] at cN
     clear hF hk2 hD
     obtain ⟨kind, reel, sess, idx, len, data, spare, arch, pay⟩ := F
     unfold Fr.val at cN hfin2
     unfold Fr.cells at cN hfin2
     dsimp only at cN hfin2
     replace cN := Lib.hid cN
     have i1 : (44 : Int) ≤ (S2.size : Int) := by omega
     have hvQ9 : VAt (w8.setCell ⟨Q, 2, none⟩ (.int .i64 m)) Q [.int .i64 (V10.dN (xB c)), .int .i64 (C1.unr (xB c).data.toList : Int), .int .i64 m] := hvQ8.set (k := 2) (show 2 < 3 by decide) (.int .i64 m)
     have hvB9 := hvB8.far (Nat.ne_of_gt hBQ.out) (k := 2) (.int .i64 m)
     have hvC9 := hvC8.far (Nat.ne_of_gt hCQ.out) (k := 2) (.int .i64 m)
     have hbw9 := hbw8.setCell (p := ⟨Q, 2, none⟩) (Nat.le_of_lt hBQ.out) (.int .i64 m)
     have hs9 : Q < (w8.setCell ⟨Q, 2, none⟩ (.int .i64 m)).heap.size := by simpa using hs8
     obtain ⟨q0, q1, q2, z0, z1, z2⟩ := cells3 hvQ8
     obtain ⟨W9, hW9⟩ : ∃ W, w8.setCell ⟨Q, 2, none⟩ (.int .i64 m) = W := ⟨_, rfl⟩
     rw [hW9] at hvQ9 hvB9 hvC9 hbw9 hs9
     replace hvQ9 := Lib.hid hvQ9
     replace hvB9 := Lib.hid hvB9
     replace hvC9 := Lib.hid hvC9
     replace hbw9 := Lib.hid hbw9
     replace hs9 := Lib.hid hs9
     clear hvB8 hvC8 hvQ8 hbw8 hs8 hS52
     go_wp2_with fail
     refine (cN.out _).mono ?_
     rintro e w10 ⟨rfl, hb10⟩
     have hvQ10 := hvQ9.out.below hb10 hs9.out
     have hvB10 := hvB9.out.below hb10 (by have := hs9.out; have := hBQ.out; omega)
     have hvC10 := hvC9.out.below hb10 (by have := hs9.out; have := hCQ.out; omega)
     have hbw10 := chain hbw9.out hb10
     have hs10 : Q < w10.heap.size := by have := hs9.out; have := hb10.size; omega
     clear q0 q1 q2 z0 z1 z2 hW9 hvQ9 hvB9 hvC9 hbw9 hs9 hb10 cN
     have hal := (Below.refl w10.heap.size w10).alloc (Nat.le_refl _) (.cells [.int .i64 kind, .int .i64 reel, .int .i64 sess, .int .i64 idx, .int .i64 len, .int .i64 data, .int .i64 spare, .int .u32 (arch.toNat : Int), .string pay].toArray 44)
     have hvT := vat_alloc w10 44 [.int .i64 kind, .int .i64 reel, .int .i64 sess, .int .i64 idx, .int .i64 len, .int .i64 data, .int .i64 spare, .int .u32 (arch.toNat : Int), .string pay]
     obtain ⟨W11, hW11⟩ : ∃ W, w10.alloc (.cells #[.int .i64 kind, .int .i64 reel, .int .i64 sess, .int .i64 idx, .int .i64 len, .int .i64 data, .int .i64 spare, .int .u32 (arch.toNat : Int), .string pay] 44) = W := ⟨_, rfl⟩
     rw [show w10.alloc (.cells [.int .i64 kind, .int .i64 reel, .int .i64 sess, .int .i64 idx, .int .i64 len, .int .i64 data, .int .i64 spare, .int .u32 (arch.toNat : Int), .string pay].toArray 44) = W11 from hW11] at hal hvT
     have hTQ0 : w.heap.size + 1 < w10.heap.size := by have := hCQ.out; omega
     have hvQ11 := hvQ10.below hal hs10
     have hvB11 := hvB10.below hal (by have := hBQ.out; omega)
     have hvC11 := hvC10.below hal (by have := hCQ.out; omega)
     have hbw11 := chain hbw10 hal
     clear hvQ10 hvB10 hvC10 hbw10 hs10 hal
     obtain ⟨t0, t1, t2, t3, t4, t5, t6, t7, t8, _, _, _, _, _, _, _, _, _⟩ := cells9 hvT
     obtain ⟨f0, f1, f2, f3, f4, f5, f6, f7, f8, y0, y1, y2, y3, y4, y5, y6, y7, y8⟩ := cells9 hvB11
     obtain ⟨q0, q1, q2, z0, z1, z2⟩ := cells3 hvC11
     obtain ⟨r0, r1, r2, _, _, _⟩ := cells3 hvQ11
     by_cases hk20 : k2 = 0
     ·have hfin := Lib.hid (hfin2.out hk20)
      have hnBC : w.heap.size ≠ w.heap.size + 1 := by omega
      have hnBQ := hBQ.out
      have hnCQ := hCQ.out
      have hTQ := Lib.hid hTQ0
      obtain ⟨g9, g3, gb⟩ := wrote (l9 := [.int .i64 kind, .int .i64 reel, .int .i64 sess, .int .i64 idx, .int .i64 len, .int .i64 data, .int .i64 spare, .int .u32 (arch.toNat : Int), .string pay]) (l3 := [.int .i64 (V10.dN (xB c)), .int .i64 (C1.unr (xB c).data.toList : Int), .int .i64 m]) hvB11 hvC11 rfl rfl hnBC hbw11 (Nat.le_refl _) (by omega)
      have gB : VAt (putN w.heap.size W11 0 [.int .i64 kind, .int .i64 reel, .int .i64 sess, .int .i64 idx, .int .i64 len, .int .i64 data, .int .i64 spare, .int .u32 (arch.toNat : Int), .string pay]) w.heap.size [.int .i64 kind, .int .i64 reel, .int .i64 sess, .int .i64 idx, .int .i64 len, .int .i64 data, .int .i64 spare, .int .u32 (arch.toNat : Int), .string pay] := putN_all hvB11 rfl
      have gBC : VAt (putN w.heap.size W11 0 [.int .i64 kind, .int .i64 reel, .int .i64 sess, .int .i64 idx, .int .i64 len, .int .i64 data, .int .i64 spare, .int .u32 (arch.toNat : Int), .string pay]) (w.heap.size + 1) [.int .i64 0, .int .i64 0, .int .i64 0] := putN_far hnBC [.int .i64 kind, .int .i64 reel, .int .i64 sess, .int .i64 idx, .int .i64 len, .int .i64 data, .int .i64 spare, .int .u32 (arch.toNat : Int), .string pay] 0 _ hvC11
      have gBQ : VAt (putN w.heap.size W11 0 [.int .i64 kind, .int .i64 reel, .int .i64 sess, .int .i64 idx, .int .i64 len, .int .i64 data, .int .i64 spare, .int .u32 (arch.toNat : Int), .string pay]) Q [.int .i64 (V10.dN (xB c)), .int .i64 (C1.unr (xB c).data.toList : Int), .int .i64 m] := putN_far (by omega) [.int .i64 kind, .int .i64 reel, .int .i64 sess, .int .i64 idx, .int .i64 len, .int .i64 data, .int .i64 spare, .int .u32 (arch.toNat : Int), .string pay] 0 _ hvQ11
      have gCT : VAt (putN (w.heap.size + 1) W11 0 [.int .i64 (V10.dN (xB c)), .int .i64 (C1.unr (xB c).data.toList : Int), .int .i64 m]) w10.heap.size [.int .i64 kind, .int .i64 reel, .int .i64 sess, .int .i64 idx, .int .i64 len, .int .i64 data, .int .i64 spare, .int .u32 (arch.toNat : Int), .string pay] := putN_far (by have := hTQ.out; omega) [.int .i64 (V10.dN (xB c)), .int .i64 (C1.unr (xB c).data.toList : Int), .int .i64 m] 0 _ hvT
      have gCB : VAt (putN (w.heap.size + 1) W11 0 [.int .i64 (V10.dN (xB c)), .int .i64 (C1.unr (xB c).data.toList : Int), .int .i64 m]) w.heap.size [.int .i64 0, .int .i64 0, .int .i64 0, .int .i64 0, .int .i64 0, .int .i64 0, .int .i64 0, .int .u32 0, .string ⟨#[]⟩] := putN_far (Ne.symm hnBC) [.int .i64 (V10.dN (xB c)), .int .i64 (C1.unr (xB c).data.toList : Int), .int .i64 m] 0 _ hvB11
      have gC : VAt (putN (w.heap.size + 1) W11 0 [.int .i64 (V10.dN (xB c)), .int .i64 (C1.unr (xB c).data.toList : Int), .int .i64 m]) (w.heap.size + 1) [.int .i64 (V10.dN (xB c)), .int .i64 (C1.unr (xB c).data.toList : Int), .int .i64 m] := putN_all hvC11 rfl
      have k9 : VAt (putN w.heap.size (putN (w.heap.size + 1) W11 0 [.int .i64 (V10.dN (xB c)), .int .i64 (C1.unr (xB c).data.toList : Int), .int .i64 m]) 0 [.int .i64 kind, .int .i64 reel, .int .i64 sess, .int .i64 idx, .int .i64 len, .int .i64 data, .int .i64 spare, .int .u32 (arch.toNat : Int), .string pay]) w.heap.size [.int .i64 kind, .int .i64 reel, .int .i64 sess, .int .i64 idx, .int .i64 len, .int .i64 data, .int .i64 spare, .int .u32 (arch.toNat : Int), .string pay] := putN_all gCB rfl
      have k3 : VAt (putN w.heap.size (putN (w.heap.size + 1) W11 0 [.int .i64 (V10.dN (xB c)), .int .i64 (C1.unr (xB c).data.toList : Int), .int .i64 m]) 0 [.int .i64 kind, .int .i64 reel, .int .i64 sess, .int .i64 idx, .int .i64 len, .int .i64 data, .int .i64 spare, .int .u32 (arch.toNat : Int), .string pay]) (w.heap.size + 1) [.int .i64 (V10.dN (xB c)), .int .i64 (C1.unr (xB c).data.toList : Int), .int .i64 m] := putN_far hnBC [.int .i64 kind, .int .i64 reel, .int .i64 sess, .int .i64 idx, .int .i64 len, .int .i64 data, .int .i64 spare, .int .u32 (arch.toNat : Int), .string pay] 0 _ gC
      have kb : Below w.heap.size w (putN w.heap.size (putN (w.heap.size + 1) W11 0 [.int .i64 (V10.dN (xB c)), .int .i64 (C1.unr (xB c).data.toList : Int), .int .i64 m]) 0 [.int .i64 kind, .int .i64 reel, .int .i64 sess, .int .i64 idx, .int .i64 len, .int .i64 data, .int .i64 spare, .int .u32 (arch.toNat : Int), .string pay]) := putN_below (Nat.le_refl _) [.int .i64 kind, .int .i64 reel, .int .i64 sess, .int .i64 idx, .int .i64 len, .int .i64 data, .int .i64 spare, .int .u32 (arch.toNat : Int), .string pay] 0 _ (putN_below (by omega) [.int .i64 (V10.dN (xB c)), .int .i64 (C1.unr (xB c).data.toList : Int), .int .i64 m] 0 _ hbw11)
      obtain ⟨WB, hWB⟩ : ∃ W, putN w.heap.size W11 0 [.int .i64 kind, .int .i64 reel, .int .i64 sess, .int .i64 idx, .int .i64 len, .int .i64 data, .int .i64 spare, .int .u32 (arch.toNat : Int), .string pay] = W := ⟨_, rfl⟩
      obtain ⟨WC, hWC⟩ : ∃ W, putN (w.heap.size + 1) W11 0 [.int .i64 (V10.dN (xB c)), .int .i64 (C1.unr (xB c).data.toList : Int), .int .i64 m] = W := ⟨_, rfl⟩
      rw [hWB] at g9 g3 gb gBC gBQ
      rw [hWC] at gCT gCB k9 k3 kb
      obtain ⟨WE, hWE⟩ : ∃ W, putN (w.heap.size + 1) WB 0 [.int .i64 (V10.dN (xB c)), .int .i64 (C1.unr (xB c).data.toList : Int), .int .i64 m] = W := ⟨_, rfl⟩
      obtain ⟨WF, hWF⟩ : ∃ W, putN w.heap.size WC 0 [.int .i64 kind, .int .i64 reel, .int .i64 sess, .int .i64 idx, .int .i64 len, .int .i64 data, .int .i64 spare, .int .u32 (arch.toNat : Int), .string pay] = W := ⟨_, rfl⟩
      rw [hWE] at g9 g3 gb
      rw [hWF] at k9 k3 kb
      simp only [putN, Nat.zero_add, Nat.reduceAdd] at hWB hWC hWE hWF
      obtain ⟨c0, c1, c2, c3, c4, c5, c6, c7, c8, _, _, _, _, _, _, _, _, _⟩ := cells9 g9
      obtain ⟨p0, p1, p2, _, _, _⟩ := cells3 g3
      obtain ⟨c0', c1', c2', c3', c4', c5', c6', c7', c8', _, _, _, _, _, _, _, _, _⟩ := cells9 k9
      obtain ⟨p0', p1', p2', _, _, _⟩ := cells3 k3
      obtain ⟨a0, a1, a2, a3, a4, a5⟩ := cells3 gBC
      obtain ⟨b0, b1, b2, _, _, _⟩ := cells3 gBQ
      obtain ⟨t0', t1', t2', t3', t4', t5', t6', t7', t8', _, _, _, _, _, _, _, _, _⟩ := cells9 gCT
      obtain ⟨f0', f1', f2', f3', f4', f5', f6', f7', f8', y0', y1', y2', y3', y4', y5', y6', y7', y8'⟩ := cells9 gCB
      have gb1 := Lib.hid gb
      have kb1 := Lib.hid kb
      clear hvT hvB11 hvC11 hvQ11 hbw11 hfin1 hfin2 gB gBC gBQ gCT gCB gC g9 g3 k9 k3 gb kb hnBC hnBQ hnCQ
      subst hk20
      go_wp2_with fail
      go_region
      all_goals
       go_wp2
       first
        |(refine bodyPost_ret (v := .tuple #[.agg #[.int .i64 kind, .int .i64 reel, .int .i64 sess, .int .i64 idx, .int .i64 len, .int .i64 data, .int .i64 spare, .int .u32 (arch.toNat : Int), .string pay], qV (V10.dN (xB c)) (C1.unr (xB c).data.toList : Int) m, .int .i64 0]) ?_ rfl (hfin.out _ gb1.out.drew)
          simp [results, Tryz.results28, go_sem, c0, c1, c2, c3, c4, c5, c6, c7, c8, p0, p1, p2]
          rfl)
        |(refine bodyPost_ret (v := .tuple #[.agg #[.int .i64 kind, .int .i64 reel, .int .i64 sess, .int .i64 idx, .int .i64 len, .int .i64 data, .int .i64 spare, .int .u32 (arch.toNat : Int), .string pay], qV (V10.dN (xB c)) (C1.unr (xB c).data.toList : Int) m, .int .i64 0]) ?_ rfl (hfin.out _ kb1.out.drew)
          simp [results, Tryz.results28, go_sem, c0', c1', c2', c3', c4', c5', c6', c7', c8', p0', p1', p2']
          rfl)
     ·have d4 : (k2 != 0) = true := bne_iff_ne.2 hk20
      have hfin := Lib.hid (hfin1.out hk20)
      obtain ⟨g9, g3, gb⟩ := wrote (l9 := [.int .i64 0, .int .i64 0, .int .i64 0, .int .i64 0, .int .i64 0, .int .i64 0, .int .i64 0, .int .u32 0, .string ⟨#[]⟩]) (l3 := [.int .i64 0, .int .i64 0, .int .i64 0]) hvB11 hvC11 rfl rfl (by omega) hbw11 (Nat.le_refl _) (by omega)
      have g9 := cells9 g9
      have g3 := cells3 g3
      obtain ⟨WE, hWE⟩ : ∃ WE, putN (w.heap.size + 1) (putN w.heap.size W11 0 [.int .i64 0, .int .i64 0, .int .i64 0, .int .i64 0, .int .i64 0, .int .i64 0, .int .i64 0, .int .u32 0, .string ⟨#[]⟩]) 0 [.int .i64 0, .int .i64 0, .int .i64 0] = WE := ⟨_, rfl⟩
      rw [hWE] at g9 g3 gb
      simp only [putN] at hWE
      obtain ⟨c0, c1, c2, c3, c4, c5, c6, c7, c8, _, _, _, _, _, _, _, _, _⟩ := g9
      obtain ⟨p0, p1, p2, _, _, _⟩ := g3
      replace gb := Lib.hid gb
      clear hvT hvB11 hvC11 hvQ11 hbw11 hfin1 hfin2 r0 r1 r2 t0 t1 t2 t3 t4 t5 t6 t7 t8
      go_wp2
      refine bodyPost_ret (v := .tuple #[zeroF.val, qV 0 0 0, .int .i64 k2]) ?_ rfl (hfin.out _ gb.out)
      simp [results, Tryz.results28, go_sem, c0, c1, c2, c3, c4, c5, c6, c7, c8, p0, p1, p2]
      exact ⟨rfl, rfl⟩
    ·have d4 : (j != 0) = true := bne_iff_ne.2 hj
     have hfin := Lib.hid (fun w' hb => hgoal.out zeroF 0 0 0 j w' ⟨S2, m, j, hD, fun _ => ⟨⟨rfl, rfl, rfl, rfl⟩, rfl⟩, fun h => absurd h hj⟩ hb)
     obtain ⟨g9, g3, gb⟩ := wrote (l9 := [.int .i64 0, .int .i64 0, .int .i64 0, .int .i64 0, .int .i64 0, .int .i64 0, .int .i64 0, .int .u32 0, .string ⟨#[]⟩]) (l3 := [.int .i64 0, .int .i64 0, .int .i64 0]) hvB8 hvC8 rfl rfl (by omega) hbw8 (Nat.le_refl _) (by omega)
     obtain ⟨f0, f1, f2, f3, f4, f5, f6, f7, f8, y0, y1, y2, y3, y4, y5, y6, y7, y8⟩ := cells9 hvB8
     obtain ⟨q0, q1, q2, z0, z1, z2⟩ := cells3 hvC8
     have g9 := cells9 g9
     have g3 := cells3 g3
     obtain ⟨WE, hWE⟩ : ∃ WE, putN (w.heap.size + 1) (putN w.heap.size w8 0 [.int .i64 0, .int .i64 0, .int .i64 0, .int .i64 0, .int .i64 0, .int .i64 0, .int .i64 0, .int .u32 0, .string ⟨#[]⟩]) 0 [.int .i64 0, .int .i64 0, .int .i64 0] = WE := ⟨_, rfl⟩
     rw [hWE] at g9 g3 gb
     simp only [putN] at hWE
     obtain ⟨c0, c1, c2, c3, c4, c5, c6, c7, c8, _, _, _, _, _, _, _, _, _⟩ := g9
     obtain ⟨p0, p1, p2, _, _, _⟩ := g3
     replace gb := Lib.hid gb
     clear hD hvB8 hvC8 hvQ8 hbw8
     go_wp2
     refine bodyPost_ret (v := .tuple #[zeroF.val, qV 0 0 0, .int .i64 j]) ?_ rfl (hfin.out _ gb.out)
     simp [results, Tryz.results28, go_sem, c0, c1, c2, c3, c4, c5, c6, c7, c8, p0, p1, p2]
     exact ⟨rfl, rfl⟩
theorem rdecode_any (c : ByteArray) (w : World) (hc : c.size ≤ 1000000) : Calls Tryz.prog 28 #[.string c] w (DcP c w) := by
 rcases C1.chk_cases c.data.toList with h | h
 ·by_cases hs : c.size ≤ 836
  ·exact rdecode_main c w h hs
  ·refine (rdecode_bad c w hc 6 (.inr ⟨h, by omega, rfl⟩)).mono ?_
   rintro e w' ⟨rfl, hb⟩
   exact ⟨zeroF, 0, 0, 0, 6, ⟨fun h' => absurd h h', fun _ => ⟨fun _ => ⟨⟨rfl, rfl, rfl, rfl⟩, rfl⟩, fun h' => absurd h' hs⟩⟩, rfl, hb⟩
 ·refine (rdecode_bad c w hc 3 (.inl ⟨h, rfl⟩)).mono ?_
  rintro e w' ⟨rfl, hb⟩
  exact ⟨zeroF, 0, 0, 0, 3, ⟨fun _ => ⟨⟨rfl, rfl, rfl, rfl⟩, rfl⟩, fun h' => by omega⟩, rfl, hb⟩
end F13
end Go.Proofs.YtiodkllckcpinaaGreatDoor
