/- The walk of the law FrameRoundTrip, under the package's contracts. -/
import Derived.Test.YtgpdfkallgjocaaGreatDoorF13Dev
namespace Go.Proofs.YtgpdfkallgjocaaGreatDoor.F13
set_option maxRecDepth 100000
open Go.RowKit Mem
set_option linter.unusedVariables false
set_option linter.unusedSimpArgs false

theorem chk_il {X : List UInt8} (h : X.all C9.okC = true) : C1.chk (I11.il 8 X) = 0 := by
  rw [chk_okC, List.all_eq_true] at *
  exact fun x hx => h x ((I11.perm_il (by decide) X).mem_iff.1 hx)
theorem xB_il {c : ByteArray} {X : List UInt8} (h : c.data.toList = I11.il 8 X) (hX : X.length = 836) : (xB c).data.toList = X := by
  rw [xB_list, h, padL_full (by rw [I11.il_len, hX]), I11.dl_il (by decide)]
theorem dec_il {f : Fr} {W c : ByteArray} {X : List UInt8} (hv : Valid f) (hW : Word f W) (h : c.data.toList = I11.il 8 X) (hX : X.length = 836) (ho : X.all C9.okC = true) (ha : Apart X (C9.enc (bitsOf W))) {F : Fr} {d u n k : Int} (hD : DcQ c F d u n k) :
    F = f ∧ d = (V10.misL X (C9.enc (bitsOf W)) : Int) ∧ u = (C1.unr X : Int) ∧ n = 0 ∧ k = 0 := by
  have hc : C1.chk c.data.toList = 0 := by rw [h]; exact chk_il ho
  have hs : c.size = 836 := by
    have : c.data.toList.length = 836 := by rw [h, I11.il_len, hX]
    simpa using this
  have hI := (hD.2 hc).2 (by omega)
  have hx := xB_il h hX
  have := inner hv hW (xB_size (by omega)) (by rw [hx]; exact ho) (by rw [hx]; exact ha) hI
  rwa [hx] at this
theorem dec_body {f : Fr} {W : ByteArray} (hv : Valid f) (hW : Word f W) {F : Fr} {d u n k : Int} (hD : DcQ (bodyC W) F d u n k) : F = f ∧ d = 0 ∧ u = 0 ∧ n = 0 ∧ k = 0 := by
  have := dec_il (X := C9.cs (C9.enc (bitsOf W))) hv hW rfl (by rw [C9.cs_len, encL W (hW.size hv)]) (C9.okC_sb _) (Apart.same _) hD
  rw [V10.misL_self, show C1.unr (C9.cs (C9.enc (bitsOf W))) = 0 from V10.unrL_cs _] at this
  exact this
theorem ext_body (W : ByteArray) (hs : W.size = 52) : (M12.mkB ++ bodyC W).extract 16 852 = bodyC W := str_eq (by
  rw [ext_list, app_list]
  have h1 : (bodyC W).data.toList.length = 836 := by have := bodyC_size hs; simpa using this
  have h2 : M12.mkB.data.toList.length = 16 := rfl
  rw [List.take_of_length_le (by rw [List.length_append]; omega), List.drop_left' h2])
set_option maxHeartbeats 8000000 in
theorem walk_roundtrip (D : Dev) (f : Fr) (w : World) (hf : Fit f ∨ 200 < f.pay.size) (hp : f.pay.size ≤ 9223372036854775807) :
    Calls Tryz.prog 6 #[f.val] w fun e w' => e = .returned (.bool true) ∧ Below w.heap.size w w' := by
  have cA := Lib.hid (fun W => alive_any D W)
  have cL := fun W => toolong_any f W hp
  have hbox : Below w.heap.size w (w.alloc (.cells f.cells 26)) := (Below.refl _ _).alloc (Nat.le_refl _) _
  have hvB : VAt (w.alloc (.cells f.cells 26)) w.heap.size f.cells.toList := vat_alloc w _ f.cells.toList
  have hsB : w.heap.size < (w.alloc (.cells f.cells 26)).heap.size := by simp
  by_cases h1 : 200 < f.pay.size
  · rw [decide_eq_true h1] at cL
    replace cL := Lib.hid cL
    obtain ⟨kind, reel, sess, idx, len, data, spare, arch, pay⟩ := f
    unfold Fr.val Fr.cells at *
    dsimp only at *
    clear h1 hf hp
    go_enter Tryz.func6, Tryz.ntmps6
    go_wp2_with fail
    refine (cA.out _).mono ?_
    rintro e w1 ⟨rfl, hb1⟩
    obtain ⟨a0, a1, a2, a3, a4, a5, a6, a7, a8, _, _, _, _, _, _, _, _, _⟩ := cells9 (hvB.below hb1 hsB)
    go_wp2_with fail
    refine (cL.out _).mono ?_
    rintro e w2 ⟨rfl, hb2⟩
    go_wp2
    go_ret
    exact ⟨rfl, chain hbox (chain hb1 hb2)⟩
  · rw [decide_eq_false h1] at cL
    replace cL := Lib.hid cL
    have hfit : Fit f := hf.resolve_right h1
    have cC := fun W => D.check f W hfit
    by_cases h0 : ckE f = 0
    · have hv := (valid_iff f).1 h0
      have cM := fun W => D.marshal f W hfit
      have cE := fun W => D.encode f W hfit
      rw [h0] at cC cM
      rw [mS_ok h0] at cM
      have hms : (⟨(msgL f).toArray⟩ : ByteArray).size = 44 := msgL_len hv
      have cU := fun W => D.unmarshal ⟨(msgL f).toArray⟩ W (by omega)
      rw [show (⟨(msgL f).toArray⟩ : ByteArray).data.toList = msgL f from rfl, unF_msg hv, unE_msg hv] at cU
      obtain ⟨M, hM⟩ : ∃ M, (⟨(msgL f).toArray⟩ : ByteArray) = M := ⟨_, rfl⟩
      rw [hM] at cM cU
      have henc : ∀ S, EncQ f S → ∃ W, Word f W ∧ W.size = 52 ∧ S = M12.mkB ++ bodyC W := fun S h => by
        obtain ⟨W, h1, h2⟩ := h.1 h0
        exact ⟨W, h1, h1.size hv, h2⟩
      have hdec := fun (W : ByteArray) (F : Fr) (d u n k : Int) (hW : Word f W) (h : DcQ (bodyC W) F d u n k) => dec_body hv hW h
      unfold EncP at cE
      rw [h0] at cE
      replace cC := Lib.hid cC
      replace cM := Lib.hid cM
      replace cU := Lib.hid cU
      replace cE := Lib.hid cE
      replace henc := Lib.hid henc
      replace hdec := Lib.hid hdec
      obtain ⟨E, hE⟩ : ∃ E, EncQ f = E := ⟨_, rfl⟩
      obtain ⟨Wd, hWd⟩ : ∃ E, Word f = E := ⟨_, rfl⟩
      rw [hE] at cE henc
      rw [hWd] at henc hdec
      obtain ⟨WB, hWB⟩ : ∃ W, w.alloc (.cells f.cells 26) = W := ⟨_, rfl⟩
      rw [hWB] at hbox hvB hsB
      obtain ⟨kind, reel, sess, idx, len, data, spare, arch, pay⟩ := f
      unfold Fr.val at cM cU cE cC cL ⊢
      unfold Fr.cells at cM cU cE cC cL hvB hWB ⊢
      dsimp only at cM cU cE cC cL hvB hWB ⊢
      have rule := fun (W : World) (h : Below WB.heap.size WB W) => cells9 (hvB.below h hsB)
      have r0 := fun W h => (rule W h).c0
      have r1 := fun W h => (rule W h).c1
      have r2 := fun W h => (rule W h).c2
      have r3 := fun W h => (rule W h).c3
      have r4 := fun W h => (rule W h).c4
      have r5 := fun W h => (rule W h).c5
      have r6 := fun W h => (rule W h).c6
      have r7 := fun W h => (rule W h).c7
      have r8 := fun W h => (rule W h).c8
      clear h1 hf hp h0 hv hms hM hE hWd hfit rule
      go_enter Tryz.func6, Tryz.ntmps6
      go_wp2_with fail
      refine (cA.out _).mono ?_
      rintro e w1 ⟨rfl, hB1⟩
      clear hWB
      go_wp2_with fail
      refine (cL.out _).mono ?_
      rintro e w2 ⟨rfl, hb2⟩
      have hB2 := chain hB1 hb2
      clear hB1 hb2
      go_wp2_with fail
      refine (cC.out _).mono ?_
      rintro e w3 ⟨rfl, hb3⟩
      have hB3 := chain hB2 hb3
      clear hB2 hb3
      go_wp2_with fail
      refine (cM.out _).mono ?_
      rintro e w4 ⟨rfl, hb4⟩
      have hB4 := chain hB3 hb4
      clear hB3 hb4
      go_wp2_with fail
      refine (cU.out _).mono ?_
      rintro e w5 ⟨rfl, hb5⟩
      have hB5 := chain hB4 hb5
      obtain ⟨W6, hW6⟩ : ∃ W, w5.alloc (.cells #[.int .i64 kind, .int .i64 reel, .int .i64 sess, .int .i64 idx, .int .i64 len, .int .i64 data, .int .i64 spare, .int .u32 (arch.toNat : Int), .string pay] 26) = W := ⟨_, rfl⟩
      obtain ⟨T, hT⟩ : ∃ T, w5.heap.size = T := ⟨_, rfl⟩
      have hvT : VAt W6 T [.int .i64 kind, .int .i64 reel, .int .i64 sess, .int .i64 idx, .int .i64 len, .int .i64 data, .int .i64 spare, .int .u32 (arch.toNat : Int), .string pay] := by rw [← hW6, ← hT]; exact vat_alloc w5 _ [.int .i64 kind, .int .i64 reel, .int .i64 sess, .int .i64 idx, .int .i64 len, .int .i64 data, .int .i64 spare, .int .u32 (arch.toNat : Int), .string pay]
      have hB6 : Below WB.heap.size WB W6 := by rw [← hW6]; exact hB5.alloc hB5.size _
      have hT6 : T < W6.heap.size := by rw [← hW6, ← hT]; simp
      clear hB4 hb5
      go_wp2_with fail
      refine (cE.out _).mono ?_
      rintro e w7 ⟨S, hS, rfl, hb7⟩
      have hB7 := chain hB6 hb7
      obtain ⟨t0, t1, t2, t3, t4, t5, t6, t7, t8, _, _, _, _, _, _, _, _, _⟩ := cells9 (hvT.below hb7 hT6)
      have s0 := r0 w7 hB7
      have s1 := r1 w7 hB7
      have s2 := r2 w7 hB7
      have s3 := r3 w7 hB7
      have s4 := r4 w7 hB7
      have s5 := r5 w7 hB7
      have s6 := r6 w7 hB7
      have s7 := r7 w7 hB7
      have s8 := r8 w7 hB7
      obtain ⟨W, hW, hWs, rfl⟩ := henc.out S hS
      have cD := fun W' => D.decode (bodyC W) W' (by rw [bodyC_size hWs]; decide)
      have hex := ext_body W hWs
      have hSs : (M12.mkB ++ bodyC W).size = 852 := by rw [ByteArray.size_append, bodyC_size hWs]; rfl
      have hd := fun F d u n k h => hdec.out W F d u n k hW h
      obtain ⟨Bd, hBd⟩ : ∃ B, bodyC W = B := ⟨_, rfl⟩
      rw [hBd] at cD hex hSs hd ⊢
      obtain ⟨S, hS2⟩ : ∃ S, M12.mkB ++ Bd = S := ⟨_, rfl⟩
      rw [hS2] at hex hSs ⊢
      replace cD := Lib.hid cD
      replace hd := Lib.hid hd
      have i1 : (16 : Int) ≤ (S.size : Int) := by omega
      have i2 : (S.size : Int) = 852 := by omega
      clear hS hW hWs hBd hS2 hb7 hvT hT6 hB5 hB6 hW6 hT cE henc hdec cM cU cC cL cA
      go_wp2_with fail
      refine (cD.out _).mono ?_
      rintro e w8 ⟨F, d, u, n, k, hD, rfl, hb8⟩
      clear s0 s1 s2 s3 s4 s5 s6 s7 s8
      obtain ⟨rfl, rfl, rfl, rfl, rfl⟩ := hd.out F d u n k hD
      have hB8 := chain hB7 hb8
      unfold Fr.val Fr.cells qV
      dsimp only
      obtain ⟨W9, hW9⟩ : ∃ W, (w8.alloc (.cells #[.int .i64 kind, .int .i64 reel, .int .i64 sess, .int .i64 idx, .int .i64 len, .int .i64 data, .int .i64 spare, .int .u32 (arch.toNat : Int), .string pay] 26)).alloc (.cells #[.int .i64 0, .int .i64 0, .int .i64 0] 42) = W := ⟨_, rfl⟩
      obtain ⟨T9, hT9⟩ : ∃ T, w8.heap.size = T := ⟨_, rfl⟩
      have hv9 : VAt W9 T9 [.int .i64 kind, .int .i64 reel, .int .i64 sess, .int .i64 idx, .int .i64 len, .int .i64 data, .int .i64 spare, .int .u32 (arch.toNat : Int), .string pay] := by
        rw [← hW9, ← hT9]
        exact (vat_alloc w8 26 [.int .i64 kind, .int .i64 reel, .int .i64 sess, .int .i64 idx, .int .i64 len, .int .i64 data, .int .i64 spare, .int .u32 (arch.toNat : Int), .string pay]).below ((Below.refl _ _).alloc (Nat.le_refl _) _) (by simp)
      have hq9 : VAt W9 (T9 + 1) [.int .i64 0, .int .i64 0, .int .i64 0] := by
        have := vat_alloc (w8.alloc (.cells #[.int .i64 kind, .int .i64 reel, .int .i64 sess, .int .i64 idx, .int .i64 len, .int .i64 data, .int .i64 spare, .int .u32 (arch.toNat : Int), .string pay] 26)) 42 [.int .i64 0, .int .i64 0, .int .i64 0]
        rw [World.size_alloc] at this
        rw [← hW9, ← hT9]
        exact this
      have hB9 : Below WB.heap.size WB W9 := by
        rw [← hW9]
        exact (hB8.alloc hB8.size _).alloc (by have := hB8.size; simp; omega) _
      have hT9b : WB.heap.size ≤ T9 := by rw [← hT9]; exact hB8.size
      obtain ⟨Wx, hWx⟩ : ∃ W, putN (T9 + 1) W9 0 [.int .i64 0, .int .i64 0, .int .i64 0] = W := ⟨_, rfl⟩
      have hvx : VAt Wx T9 [.int .i64 kind, .int .i64 reel, .int .i64 sess, .int .i64 idx, .int .i64 len, .int .i64 data, .int .i64 spare, .int .u32 (arch.toNat : Int), .string pay] := by rw [← hWx]; exact putN_far (by omega) _ 0 _ hv9
      have hqx : VAt Wx (T9 + 1) [.int .i64 0, .int .i64 0, .int .i64 0] := by rw [← hWx]; exact putN_all hq9 rfl
      have hBx : Below WB.heap.size WB Wx := by rw [← hWx]; exact putN_below (by omega) _ 0 _ hB9
      simp only [putN, Nat.zero_add, Nat.reduceAdd] at hWx
      have hfin := Lib.hid (chain hbox hBx)
      obtain ⟨u0, u1, u2, u3, u4, u5, u6, u7, u8, _, _, _, _, _, _, _, _, _⟩ := cells9 hvx
      obtain ⟨q0, q1, q2, _, _, _⟩ := cells3 hqx
      obtain ⟨p0, p1, p2, p3, p4, p5⟩ := cells3 hq9
      have s0 := r0 Wx hBx
      have s1 := r1 Wx hBx
      have s2 := r2 Wx hBx
      have s3 := r3 Wx hBx
      have s4 := r4 Wx hBx
      have s5 := r5 Wx hBx
      have s6 := r6 Wx hBx
      have s7 := r7 Wx hBx
      have s8 := r8 Wx hBx
      clear hD hd cD hb8 hv9 hq9 hbox hvB hsB t0 t1 t2 t3 t4 t5 t6 t7 t8 hvx hqx hT9b r0 r1 r2 r3 r4 r5 r6 r7 r8
      go_wp2
      go_ret
      exact ⟨rfl, hfin.out⟩
    · obtain ⟨k, hk⟩ : ∃ k, ckE f = k := ⟨_, rfl⟩
      rw [hk] at cC h0
      have d1 : (k != 0) = true := bne_iff_ne.2 h0
      replace cC := Lib.hid cC
      obtain ⟨kind, reel, sess, idx, len, data, spare, arch, pay⟩ := f
      unfold Fr.val Fr.cells at *
      dsimp only at *
      clear h1 hf hp hk h0 hfit
      go_enter Tryz.func6, Tryz.ntmps6
      go_wp2_with fail
      refine (cA.out _).mono ?_
      rintro e w1 ⟨rfl, hb1⟩
      have hv1 := hvB.below hb1 hsB
      have hs1 : w.heap.size < w1.heap.size := Nat.lt_of_lt_of_le hsB hb1.size
      obtain ⟨a0, a1, a2, a3, a4, a5, a6, a7, a8, _, _, _, _, _, _, _, _, _⟩ := cells9 hv1
      go_wp2_with fail
      refine (cL.out _).mono ?_
      rintro e w2 ⟨rfl, hb2⟩
      obtain ⟨b0, b1, b2, b3, b4, b5, b6, b7, b8, _, _, _, _, _, _, _, _, _⟩ := cells9 (hv1.below hb2 hs1)
      go_wp2_with fail
      refine (cC.out _).mono ?_
      rintro e w3 ⟨rfl, hb3⟩
      go_wp2
      go_ret
      exact ⟨rfl, chain hbox (chain hb1 (chain hb2 hb3))⟩
end Go.Proofs.YtgpdfkallgjocaaGreatDoor.F13
