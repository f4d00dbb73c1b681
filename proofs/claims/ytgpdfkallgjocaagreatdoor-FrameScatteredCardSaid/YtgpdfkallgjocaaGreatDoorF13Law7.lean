/- The walk of the law FrameErasures, under the package's contracts (written by gen/f13laws.py). -/
import Derived.Test.YtgpdfkallgjocaaGreatDoorF13Law1
import Derived.Test.YtgpdfkallgjocaaGreatDoorF13Near
import Derived.Test.YtgpdfkallgjocaaGreatDoorF13More
import Derived.Test.YtgpdfkallgjocaaGreatDoorM13AA
import Derived.Test.YtgpdfkallgjocaaGreatDoorM13AI
import Derived.Laws.BitsAllLaws
namespace Go.Proofs.YtgpdfkallgjocaaGreatDoor.F13
set_option maxRecDepth 100000
open Go.RowKit Mem
set_option linter.unusedVariables false
set_option linter.unusedSimpArgs false

set_option maxHeartbeats 16000000 in
theorem walk_erasures (D : Dev) (f : Fr) (at_ : Nat) (w : World) (hat : at_ ≤ 255) (hf : Fit f ∨ 200 < f.pay.size) (hp : f.pay.size ≤ 9223372036854775807) :
    Calls Tryz.prog 9 #[f.val, .int .u8 (at_ : Int)] w fun e w' => e = .returned (.bool true) ∧ Below w.heap.size w w' := by
  have cA := Lib.hid (fun W => alive_any D W)
  have cL := fun W => toolong_any f W hp
  have hbox : Below w.heap.size w (w.alloc (.cells f.cells 26)) := (Below.refl _ _).alloc (Nat.le_refl _) _
  have hvB : VAt (w.alloc (.cells f.cells 26)) w.heap.size f.cells.toList := vat_alloc w _ f.cells.toList
  have hsB : w.heap.size < (w.alloc (.cells f.cells 26)).heap.size := by simp
  by_cases h1 : 200 < f.pay.size
  · rw [decide_eq_true h1] at cL
    replace cL := Lib.hid cL
    obtain ⟨kind, reel, sess, idx, len, data, spare, arch, pay⟩ := f
    unfold Fr.val Fr.cells at *
    dsimp only at *
    clear h1 hf hp
    go_enter Tryz.func9, Tryz.ntmps9
    go_wp2_with fail
    refine (cA.out _).mono ?_
    rintro e w1 ⟨rfl, hb1⟩
    obtain ⟨a0, a1, a2, a3, a4, a5, a6, a7, a8, _, _, _, _, _, _, _, _, _⟩ := cells9 (hvB.below hb1 hsB)
    go_wp2_with fail
    refine (cL.out _).mono ?_
    rintro e w2 ⟨rfl, hb2⟩
    go_wp2
    go_ret
    exact ⟨rfl, chain hbox (chain hb1 hb2)⟩
  · rw [decide_eq_false h1] at cL
    replace cL := Lib.hid cL
    have hfit : Fit f := hf.resolve_right h1
    have cC := fun W => D.check f W hfit
    by_cases h0 : ckE f = 0
    · have hv := (valid_iff f).1 h0
      have cE := fun W => D.encode f W hfit
      rw [h0] at cC
      have henc : ∀ S, EncQ f S → ∃ W, Word f W ∧ W.size = 52 ∧ S = M12.mkB ++ bodyC W := fun S h => by
        obtain ⟨W, h1, h2⟩ := h.1 h0
        exact ⟨W, h1, h1.size hv, h2⟩
      have hdec := fun (W c : ByteArray) (X : List UInt8) (a m e : Nat) (F : Fr) (d u n k : Int) (hW : Word f W) (h1 : Er (C9.enc (bitsOf W)) a X m e) h2 (h : DcQ c F d u n k) => dec_er (c := c) (X := X) hv hW h1 h2 h
      have hfirst := fun (W c O : ByteArray) (F : Fr) (d u n k : Int) (hW : Word f W) hO hc (h : DcQ c F d u n k) => dec_first (c := c) (O := O) hv hW hO hc h
      have hlast := fun (W c : ByteArray) (F : Fr) (d u n k : Int) (hW : Word f W) hc (h : DcQ c F d u n k) => dec_last (c := c) hv hW hc h
      replace hdec := Lib.hid hdec
      replace hfirst := Lib.hid hfirst
      replace hlast := Lib.hid hlast
      unfold EncP at cE
      rw [h0] at cE
      replace cC := Lib.hid cC
      replace cE := Lib.hid cE
      replace henc := Lib.hid henc
      obtain ⟨E, hE⟩ : ∃ E, EncQ f = E := ⟨_, rfl⟩
      obtain ⟨Wd, hWd⟩ : ∃ E, Word f = E := ⟨_, rfl⟩
      rw [hE] at cE henc
      rw [hWd] at henc hdec hfirst hlast
      obtain ⟨WB, hWB⟩ : ∃ W, w.alloc (.cells f.cells 26) = W := ⟨_, rfl⟩
      rw [hWB] at hbox hvB hsB
      obtain ⟨kind, reel, sess, idx, len, data, spare, arch, pay⟩ := f
      unfold Fr.val at cE cC cL ⊢
      unfold Fr.cells at cE cC cL hvB hWB ⊢
      dsimp only at cE cC cL hvB hWB ⊢
      have rule := fun (W : World) (h : Below WB.heap.size WB W) => cells9 (hvB.below h hsB)
      replace rule := Lib.hid rule
      replace hbox := Lib.hid hbox
      clear h1 hf hp h0 hv hE hWd hfit hvB hsB
      go_enter Tryz.func9, Tryz.ntmps9
      go_wp2_with fail
      refine (cA.out _).mono ?_
      rintro e w1 ⟨rfl, hB1⟩
      clear hWB
      obtain ⟨a0, a1, a2, a3, a4, a5, a6, a7, a8, _, _, _, _, _, _, _, _, _⟩ := rule.out w1 hB1
      go_wp2_with fail
      refine (cL.out _).mono ?_
      rintro e w2 ⟨rfl, hb2⟩
      have hB2 := chain hB1 hb2
      clear hB1 hb2 a0 a1 a2 a3 a4 a5 a6 a7 a8
      obtain ⟨a0, a1, a2, a3, a4, a5, a6, a7, a8, _, _, _, _, _, _, _, _, _⟩ := rule.out w2 hB2
      go_wp2_with fail
      refine (cC.out _).mono ?_
      rintro e w3 ⟨rfl, hb3⟩
      have hB3 := chain hB2 hb3
      clear hB2 hb3 a0 a1 a2 a3 a4 a5 a6 a7 a8 cC cL cA
      obtain ⟨a0, a1, a2, a3, a4, a5, a6, a7, a8, _, _, _, _, _, _, _, _, _⟩ := rule.out w3 hB3
      go_wp2_with fail
      refine (cE.out _).mono ?_
      rintro e w4 ⟨S, hS, rfl, hb4⟩
      have hB4 := chain hB3 hb4
      obtain ⟨W, hW, hWs, rfl⟩ := henc.out S hS
      have hex := ext_body W hWs
      have hSs : (M12.mkB ++ bodyC W).size = 852 := by rw [ByteArray.size_append, bodyC_size hWs]; rfl
      have i1 : (16 : Int) ≤ ((M12.mkB ++ bodyC W).size : Int) := by omega
      have i2 : ((M12.mkB ++ bodyC W).size : Int) = 852 := by omega
      clear hb4 hB3 a0 a1 a2 a3 a4 a5 a6 a7 a8 cE henc hS
      have cI := fun W' => I11.dl_own (bodyC W) 8 W' (by rw [bodyC_size hWs]; decide) (by decide) (by decide)
      unfold I11.Dled at cI
      rw [dS_body, show I11.pE 8 = 0 from rfl] at cI
      obtain ⟨L, hL⟩ : ∃ L, C9.sb (C9.enc (bitsOf W)) = L := ⟨_, rfl⟩
      have hLs : L.size = 836 := by rw [← hL, C9.sb_size, encL W hWs]
      have hLl : L.data.toList = C9.cs (C9.enc (bitsOf W)) := by rw [← hL]; rfl
      obtain ⟨r, hr⟩ : ∃ r, at_ % 8 = r := ⟨_, rfl⟩
      have hEr0 := Er.start (C9.enc (bitsOf W)) r r
      rw [← hLl] at hEr0
      have hAl := encL W hWs
      obtain ⟨Ab, hAb⟩ : ∃ A, C9.enc (bitsOf W) = A := ⟨_, rfl⟩
      have hd := fun (c : ByteArray) (X : List UInt8) (m e : Nat) F d u n k (h : Er Ab r X m e) h2 h3 => hdec.out W c X r m e F d u n k hW (by rw [hAb]; exact h) h2 h3
      rw [hAb] at hAl hEr0
      rw [hL] at cI
      have hBs : (bodyC W).size = 836 := bodyC_size hWs
      have hdF := fun (c O : ByteArray) F d u n k hO hc h => hfirst.out W c O F d u n k hW hO hc h
      have hdL := fun (c : ByteArray) F d u n k hc h => hlast.out W c F d u n k hW hc h
      obtain ⟨Bd, hBd⟩ : ∃ B, bodyC W = B := ⟨_, rfl⟩
      rw [hBd] at cI hex hSs i1 i2 hBs hdF hdL ⊢
      obtain ⟨S, hS2⟩ : ∃ S, M12.mkB ++ Bd = S := ⟨_, rfl⟩
      rw [hS2] at hex hSs i1 i2 ⊢
      have cR := fun W => Tryz.strings_Repeat ⟨#[63]⟩ 90 W (by decide) (by decide)
      have hOl : (⟨(Lib.repeatL (ByteArray.mk #[63]).data.toList 90).toArray⟩ : ByteArray).data.toList = List.replicate 90 63 := rep_list 90
      obtain ⟨O, hO⟩ : ∃ S : ByteArray, ⟨(Lib.repeatL (ByteArray.mk #[63]).data.toList 90).toArray⟩ = S := ⟨_, rfl⟩
      rw [hO] at cR hOl
      have hOs : O.size = 90 := by
        have : O.data.toList.length = 90 := by rw [hOl]; simp
        simpa using this
      have c2l : (O ++ Bd.extract 90 Bd.size).data.toList = O.data.toList ++ Bd.data.toList.drop 90 := by
        rw [app_list, ext_list, List.take_of_length_le (by have : Bd.data.toList.length = 836 := by simpa using hBs
                                                           omega)]
      have c3l : (Bd.extract 0 746).data.toList = Bd.data.toList.take 746 := by rw [ext_list, List.drop_zero]
      have c2s : (Bd.extract 90 Bd.size).size = 746 := by rw [ByteArray.size_extract]; omega
      obtain ⟨E2, hE2⟩ : ∃ E, Bd.extract 90 Bd.size = E := ⟨_, rfl⟩
      rw [hE2] at c2l c2s
      have c2z : (O ++ E2).size = 836 := by rw [ByteArray.size_append]; omega
      obtain ⟨Y2, hY2⟩ : ∃ E, O ++ E2 = E := ⟨_, rfl⟩
      rw [hY2] at c2l c2z
      have hd2 := fun F d u n k h => hdF Y2 O F d u n k hOl c2l h
      have c3z : (Bd.extract 0 746).size = 746 := by rw [ByteArray.size_extract]; omega
      obtain ⟨Y3, hY3⟩ : ∃ E, Bd.extract 0 746 = E := ⟨_, rfl⟩
      rw [hY3] at c3l c3z
      have hd3 := fun F d u n k h => hdL Y3 F d u n k c3l h
      have cD2 := fun W' => D.decode Y2 W' (by omega)
      have cD3 := fun W' => D.decode Y3 W' (by omega)
      have i3 : (Bd.size : Int) = 836 := by omega
      have i4 : (O.size : Int) = 90 := by omega
      have i5 : (E2.size : Int) = 746 := by omega
      have i6 : ¬ 9223372036854775807 < O.size + E2.size := by omega
      have r1 : (at_ : Int) % 8 = (r : Int) := by omega
      have r2 : (at_ : Int).tmod 8 = (r : Int) := by rw [Int.tmod_eq_emod_of_nonneg (by omega)]; omega
      have r3 : (at_ : Int) ≤ 255 := by omega
      have r8 : r < 8 := by omega
      replace cI := Lib.hid cI
      replace hd := Lib.hid hd
      replace cR := Lib.hid cR
      replace cD2 := Lib.hid cD2
      replace cD3 := Lib.hid cD3
      replace hd2 := Lib.hid hd2
      replace hd3 := Lib.hid hd3
      clear hBd hS2 hdec hfirst hlast hL hLl hAb hW hWs hdF hdL hO hOl hOs c2l c3l c2s c2z c3z hBs hr
      go_wp2_with fail
      refine (cI.out _).mono ?_
      rintro e w5 ⟨rfl, hb5⟩
      have hB5 := Lib.hid (chain hB4 hb5)
      clear hB4 hb5 cI hex hSs i1 i2
      obtain ⟨C1, cap1, hcap1, hcv1, hat1⟩ := bytes_of (P := Tryz.prog) w5 (src := 9) (dst := 37) (e := 5) L Tryz.underlying9 Tryz.underlying37 Tryz.underlying5
      obtain ⟨G, hG⟩ : ∃ G, w5.heap.size = G := ⟨_, rfl⟩
      obtain ⟨W6, hW6⟩ : ∃ W, w5.drew.alloc (.cells C1 5 (cap1, cap1 + 1)) = W := ⟨_, rfl⟩
      have hb6 : Below G w5 W6 := by rw [← hW6, ← hG]; exact ((Below.refl w5.heap.size w5).drew).alloc (by simp) _
      have hA6 : BAt W6 G L.data.toList := by rw [← hW6, ← hG]; exact hat1
      have hs6 : G < W6.heap.size := by rw [← hW6, ← hG]; simp
      rw [hW6, hG, hLs] at hcv1
      have hcap2 : 836 ≤ cap1 := by omega
      have hEr0 := Lib.hid hEr0
      have hAl := Lib.hid hAl
      have hA6 := Lib.hid hA6
      have hs6 := Lib.hid hs6
      have hb6 := Lib.hid hb6
      have hGh := Lib.hid hG
      have r8h := Lib.hid r8
      clear hW6 hat1 hcap1 hLs
      go_wp2
      clear hcv1 r1 r2
      go_loopw [11, 12] (fun nv iv wr => ∃ (m i : Nat) (X : List UInt8), iv = .int .i64 (i : Int) ∧ nv = .int .i64 (m : Int) ∧ Hid (i = r + 8 * m) ∧ Hid (i ≤ 850) ∧ Hid (Er Ab r X m i) ∧ Hid (BAt wr G X) ∧ Hid (G < wr.heap.size) ∧ Hid (Below G w5 wr)) (fun _ iv _ => 1000 - (intOf iv).toNat)
      case atStart => exact ⟨0, r, L.data.toList, rfl, rfl, Lib.hid rfl, Lib.hid (by have := r8h.out; omega), hEr0, hA6, hs6, hb6⟩
      case round =>
        clear hEr0 hA6 hs6 hb6
        obtain ⟨m, i, X, rfl, rfl, hi, hi8, hEr, hAt, hsz, hb⟩ := hrel
        have hXl : Hid (X.length = 836) := Lib.hid (by rw [hEr.out.len]; exact hAl.out)
        have hBw : Hid (Below WB.heap.size WB wr) := Lib.hid (chain hB5.out (by rw [hGh.out]; exact hb.out))
        have m1 : (m : Int) ≤ 200 := by have := hi.out; have := hi8.out; omega
        have i0 : (0 : Int) ≤ (i : Int) := by omega
        have i9 : (i : Int) ≤ 850 := by have := hi8.out; omega
        by_cases hlt : i < 836
        · have dk : decide ((i : Int) < 836) = true := decide_eq_true (by omega)
          have i1' : (i : Int) < 836 := by omega
          have hXE : i < X.length := by rw [hXl.out]; exact hlt
          obtain ⟨o1, o2⟩ := hAt.out i hXE
          have hset := hAt.out.set hXE 63
          have hst := hEr.out.step hXE (by have := hi.out; have := r8h.out; omega)
          have hsz2 : Hid (G < (wr.setCell ⟨G, i, none⟩ (.int .u8 63)).heap.size) := Lib.hid (by simpa using hsz.out)
          have hb2 := Lib.hid (hb.out.setCell (p := ⟨G, i, none⟩) (Nat.le_refl G) (.int .u8 63))
          have hset : Hid (BAt (wr.setCell ⟨G, i, none⟩ (.int .u8 63)) G (X.set i 63)) := Lib.hid hset
          obtain ⟨x, hx⟩ : ∃ x, X[i] = x := ⟨_, rfl⟩
          rw [hx] at o1
          replace hst := Lib.hid hst
          have hi2 : Hid (i + 8 = r + 8 * (m + 1)) := Lib.hid (by have := hi.out; omega)
          clear hx hXE hAt hsz hb hEr hXl hBw hi hi8
          go_wp2
          go_roundw
          case rel => exact ⟨m + 1, i + 8, X.set i 63, by go_num, by go_num, hi2, Lib.hid (by omega), hst, hset, hsz2, hb2⟩
          case measure => simp [intOf]; omega
        · have dk : decide ((i : Int) < 836) = false := decide_eq_false (by omega)
          have hcv := hAt.out.conv (P := Tryz.prog) (cap := cap1) (n := 836) hXl.out Tryz.underlying37 Tryz.underlying5 Tryz.underlying9
          have hcs : (⟨X.toArray⟩ : ByteArray).size = 836 := hXl.out
          have cJ := fun W' => I11.il_own ⟨X.toArray⟩ 8 W' (by omega) (by decide) (by decide)
          unfold I11.Iled at cJ
          rw [show I11.pE 8 = 0 from rfl] at cJ
          have hds : (I11.iS ⟨X.toArray⟩ 8).size = 836 := by
            show (I11.il 8 X).length = 836
            rw [I11.il_len]
            exact hXl.out
          have cD := fun W' => D.decode (I11.iS ⟨X.toArray⟩ 8) W' (by omega)
          have hdd := fun F d u nn k h => hd.out (I11.iS ⟨X.toArray⟩ 8) X m i F d u nn k hEr.out rfl h
          obtain ⟨V, hV⟩ : ∃ V : ByteArray, ⟨X.toArray⟩ = V := ⟨_, rfl⟩
          rw [hV] at hcv cJ cD hdd
          obtain ⟨Y, hY⟩ : ∃ Y : ByteArray, I11.iS V 8 = Y := ⟨_, rfl⟩
          rw [hY] at cJ cD hdd
          replace cJ := Lib.hid cJ
          replace cD := Lib.hid cD
          replace hdd := Lib.hid hdd
          clear hEr hAt hsz hb hXl hcs hds hV hY hd hi hi8
          go_wp2_with fail
          refine (cJ.out _).mono ?_
          rintro e w7 ⟨rfl, hb7⟩
          have hB7 := chain hBw.out hb7
          go_wp2_with fail
          refine (cR.out _).mono ?_
          rintro e wq ⟨rfl, hbq⟩
          have hBq := chain hB7 hbq
          clear hcv hB7 hb7 hbq hBw
          go_wp2_with fail
          refine (cD.out _).mono ?_
          rintro e w8 ⟨F, d, u, n1, kk, hD, rfl, hb8⟩
          obtain ⟨rfl, rfl, rfl, rfl, rfl⟩ := hdd.out F d u n1 kk hD
          have hB8 := chain hBq hb8
          unfold Fr.val Fr.cells qV
          dsimp only
          clear hD cD cJ hdd hb8 hBq
          obtain ⟨W9, hW9⟩ : ∃ W, (w8.alloc (.cells #[.int .i64 kind, .int .i64 reel, .int .i64 sess, .int .i64 idx, .int .i64 len, .int .i64 data, .int .i64 spare, .int .u32 (arch.toNat : Int), .string pay] 26)).alloc (.cells #[.int .i64 0, .int .i64 0, .int .i64 0] 42) = W := ⟨_, rfl⟩
          obtain ⟨T9, hT9⟩ : ∃ T, w8.heap.size = T := ⟨_, rfl⟩
          have hv9 : VAt W9 T9 [.int .i64 kind, .int .i64 reel, .int .i64 sess, .int .i64 idx, .int .i64 len, .int .i64 data, .int .i64 spare, .int .u32 (arch.toNat : Int), .string pay] := by
            rw [← hW9, ← hT9]
            exact (vat_alloc w8 26 [.int .i64 kind, .int .i64 reel, .int .i64 sess, .int .i64 idx, .int .i64 len, .int .i64 data, .int .i64 spare, .int .u32 (arch.toNat : Int), .string pay]).below ((Below.refl _ _).alloc (Nat.le_refl _) _) (by simp)
          have hq9 : VAt W9 (T9 + 1) [.int .i64 0, .int .i64 0, .int .i64 0] := by
            have := vat_alloc (w8.alloc (.cells #[.int .i64 kind, .int .i64 reel, .int .i64 sess, .int .i64 idx, .int .i64 len, .int .i64 data, .int .i64 spare, .int .u32 (arch.toNat : Int), .string pay] 26)) 42 [.int .i64 0, .int .i64 0, .int .i64 0]
            rw [World.size_alloc] at this
            rw [← hW9, ← hT9]
            exact this
          have hBa9 : Below WB.heap.size WB W9 := by
            rw [← hW9]
            exact (hB8.alloc hB8.size _).alloc (by have := hB8.size; simp; omega) _
          have hTb9 : WB.heap.size ≤ T9 := by rw [← hT9]; exact hB8.size
          obtain ⟨Wx9, hWx9⟩ : ∃ W, putN (T9 + 1) W9 0 [.int .i64 0, .int .i64 (m : Int), .int .i64 0] = W := ⟨_, rfl⟩
          have hvx9 : VAt Wx9 T9 [.int .i64 kind, .int .i64 reel, .int .i64 sess, .int .i64 idx, .int .i64 len, .int .i64 data, .int .i64 spare, .int .u32 (arch.toNat : Int), .string pay] := by rw [← hWx9]; exact putN_far (by omega) _ 0 _ hv9
          have hqx9 : VAt Wx9 (T9 + 1) [.int .i64 0, .int .i64 (m : Int), .int .i64 0] := by rw [← hWx9]; exact putN_all hq9 rfl
          have hBx9 : Below WB.heap.size WB Wx9 := by rw [← hWx9]; exact putN_below (by omega) _ 0 _ hBa9
          have hbd9 : Below w8.heap.size w8 Wx9 := by rw [← hWx9]; exact putN_below (by omega) _ 0 _ (by rw [← hW9]; exact two_made _ _ _)
          have hsx9 : T9 + 1 < Wx9.heap.size := by rw [← hWx9, putN_size, ← hW9, ← hT9]; simp
          simp only [putN, Nat.zero_add, Nat.reduceAdd] at hWx9
          obtain ⟨p09, p19, p29, p39, p49, p59⟩ := cells3 hq9
          clear hv9 hq9 hBa9 hTb9
          clear hbd9 hB8
          have hvx9 := Lib.hid hvx9
          have hqx9 := Lib.hid hqx9
          have hsx9 := Lib.hid hsx9
          go_wp2_with fail
          with_reducible refine (cD2.out _).mono ?_
          rintro e w10 ⟨F, d, u, n1, kk, hD, rfl, hb10⟩
          obtain ⟨rfl, rfl⟩ := hd2.out F d u n1 kk hD
          have hB10 := chain hBx9 hb10
          unfold Fr.val Fr.cells qV
          dsimp only
          clear hD cD2 hd2 hW9 hWx9 p09 p19 p29 p39 p49 p59
          obtain ⟨W11, hW11⟩ : ∃ W, (w10.alloc (.cells #[.int .i64 kind, .int .i64 reel, .int .i64 sess, .int .i64 idx, .int .i64 len, .int .i64 data, .int .i64 spare, .int .u32 (arch.toNat : Int), .string pay] 26)).alloc (.cells #[.int .i64 0, .int .i64 0, .int .i64 0] 42) = W := ⟨_, rfl⟩
          obtain ⟨T11, hT11⟩ : ∃ T, w10.heap.size = T := ⟨_, rfl⟩
          have hv11 : VAt W11 T11 [.int .i64 kind, .int .i64 reel, .int .i64 sess, .int .i64 idx, .int .i64 len, .int .i64 data, .int .i64 spare, .int .u32 (arch.toNat : Int), .string pay] := by
            rw [← hW11, ← hT11]
            exact (vat_alloc w10 26 [.int .i64 kind, .int .i64 reel, .int .i64 sess, .int .i64 idx, .int .i64 len, .int .i64 data, .int .i64 spare, .int .u32 (arch.toNat : Int), .string pay]).below ((Below.refl _ _).alloc (Nat.le_refl _) _) (by simp)
          have hq11 : VAt W11 (T11 + 1) [.int .i64 0, .int .i64 0, .int .i64 0] := by
            have := vat_alloc (w10.alloc (.cells #[.int .i64 kind, .int .i64 reel, .int .i64 sess, .int .i64 idx, .int .i64 len, .int .i64 data, .int .i64 spare, .int .u32 (arch.toNat : Int), .string pay] 26)) 42 [.int .i64 0, .int .i64 0, .int .i64 0]
            rw [World.size_alloc] at this
            rw [← hW11, ← hT11]
            exact this
          have hBa11 : Below WB.heap.size WB W11 := by
            rw [← hW11]
            exact (hB10.alloc hB10.size _).alloc (by have := hB10.size; simp; omega) _
          have hTb11 : WB.heap.size ≤ T11 := by rw [← hT11]; exact hB10.size
          obtain ⟨Wx11, hWx11⟩ : ∃ W, putN (T11 + 1) W11 0 [.int .i64 d, .int .i64 u, .int .i64 n1] = W := ⟨_, rfl⟩
          have hvx11 : VAt Wx11 T11 [.int .i64 kind, .int .i64 reel, .int .i64 sess, .int .i64 idx, .int .i64 len, .int .i64 data, .int .i64 spare, .int .u32 (arch.toNat : Int), .string pay] := by rw [← hWx11]; exact putN_far (by omega) _ 0 _ hv11
          have hqx11 : VAt Wx11 (T11 + 1) [.int .i64 d, .int .i64 u, .int .i64 n1] := by rw [← hWx11]; exact putN_all hq11 rfl
          have hBx11 : Below WB.heap.size WB Wx11 := by rw [← hWx11]; exact putN_below (by omega) _ 0 _ hBa11
          have hbd11 : Below w10.heap.size w10 Wx11 := by rw [← hWx11]; exact putN_below (by omega) _ 0 _ (by rw [← hW11]; exact two_made _ _ _)
          have hsx11 : T11 + 1 < Wx11.heap.size := by rw [← hWx11, putN_size, ← hW11, ← hT11]; simp
          simp only [putN, Nat.zero_add, Nat.reduceAdd] at hWx11
          obtain ⟨p011, p111, p211, p311, p411, p511⟩ := cells3 hq11
          clear hv11 hq11 hBa11 hTb11
          have hvy9 := Lib.hid (hvx9.out.below (chain hb10 hbd11) (by have := hsx9.out; omega))
          have hqy9 := Lib.hid (hqx9.out.below (chain hb10 hbd11) hsx9.out)
          have hsy9 := Lib.hid (show T9 + 1 < Wx11.heap.size by have := hsx9.out; have := (chain hb10 hbd11).size; omega)
          have hvx11 := Lib.hid hvx11
          have hsx11 := Lib.hid hsx11
          clear hb10 hbd11 hB10 hBx9 hqx11 hvx9 hqx9 hsx9
          go_wp2_with fail
          with_reducible refine (cD3.out _).mono ?_
          rintro e w12 ⟨F, d2, u2, n2, kk, hD, rfl, hb12⟩
          obtain ⟨rfl, rfl⟩ := hd3.out F d2 u2 n2 kk hD
          have hB12 := chain hBx11 hb12
          unfold Fr.val Fr.cells qV
          dsimp only
          clear hD cD3 hd3 hW11 hWx11 p011 p111 p211 p311 p411 p511
          obtain ⟨W13, hW13⟩ : ∃ W, (w12.alloc (.cells #[.int .i64 kind, .int .i64 reel, .int .i64 sess, .int .i64 idx, .int .i64 len, .int .i64 data, .int .i64 spare, .int .u32 (arch.toNat : Int), .string pay] 26)).alloc (.cells #[.int .i64 0, .int .i64 0, .int .i64 0] 42) = W := ⟨_, rfl⟩
          obtain ⟨T13, hT13⟩ : ∃ T, w12.heap.size = T := ⟨_, rfl⟩
          have hv13 : VAt W13 T13 [.int .i64 kind, .int .i64 reel, .int .i64 sess, .int .i64 idx, .int .i64 len, .int .i64 data, .int .i64 spare, .int .u32 (arch.toNat : Int), .string pay] := by
            rw [← hW13, ← hT13]
            exact (vat_alloc w12 26 [.int .i64 kind, .int .i64 reel, .int .i64 sess, .int .i64 idx, .int .i64 len, .int .i64 data, .int .i64 spare, .int .u32 (arch.toNat : Int), .string pay]).below ((Below.refl _ _).alloc (Nat.le_refl _) _) (by simp)
          have hq13 : VAt W13 (T13 + 1) [.int .i64 0, .int .i64 0, .int .i64 0] := by
            have := vat_alloc (w12.alloc (.cells #[.int .i64 kind, .int .i64 reel, .int .i64 sess, .int .i64 idx, .int .i64 len, .int .i64 data, .int .i64 spare, .int .u32 (arch.toNat : Int), .string pay] 26)) 42 [.int .i64 0, .int .i64 0, .int .i64 0]
            rw [World.size_alloc] at this
            rw [← hW13, ← hT13]
            exact this
          have hBa13 : Below WB.heap.size WB W13 := by
            rw [← hW13]
            exact (hB12.alloc hB12.size _).alloc (by have := hB12.size; simp; omega) _
          have hTb13 : WB.heap.size ≤ T13 := by rw [← hT13]; exact hB12.size
          obtain ⟨Wx13, hWx13⟩ : ∃ W, putN (T13 + 1) W13 0 [.int .i64 d2, .int .i64 u2, .int .i64 n2] = W := ⟨_, rfl⟩
          have hvx13 : VAt Wx13 T13 [.int .i64 kind, .int .i64 reel, .int .i64 sess, .int .i64 idx, .int .i64 len, .int .i64 data, .int .i64 spare, .int .u32 (arch.toNat : Int), .string pay] := by rw [← hWx13]; exact putN_far (by omega) _ 0 _ hv13
          have hqx13 : VAt Wx13 (T13 + 1) [.int .i64 d2, .int .i64 u2, .int .i64 n2] := by rw [← hWx13]; exact putN_all hq13 rfl
          have hBx13 : Below WB.heap.size WB Wx13 := by rw [← hWx13]; exact putN_below (by omega) _ 0 _ hBa13
          have hbd13 : Below w12.heap.size w12 Wx13 := by rw [← hWx13]; exact putN_below (by omega) _ 0 _ (by rw [← hW13]; exact two_made _ _ _)
          have hsx13 : T13 + 1 < Wx13.heap.size := by rw [← hWx13, putN_size, ← hW13, ← hT13]; simp
          simp only [putN, Nat.zero_add, Nat.reduceAdd] at hWx13
          obtain ⟨p013, p113, p213, p313, p413, p513⟩ := cells3 hq13
          clear hv13 hq13 hBa13 hTb13
          have hvz9 := hvy9.out.below (chain hb12 hbd13) (by have := hsy9.out; omega)
          have hqz9 := hqy9.out.below (chain hb12 hbd13) hsy9.out
          have hvz11 := hvx11.out.below (chain hb12 hbd13) (by have := hsx11.out; omega)
          have hfin := Lib.hid (chain hbox.out hBx13)
          obtain ⟨u0, u1, u2', u3, u4, u5, u6, u7, u8, _, _, _, _, _, _, _, _, _⟩ := cells9 hvz9
          obtain ⟨v0, v1, v2, v3, v4, v5, v6, v7, v8, _, _, _, _, _, _, _, _, _⟩ := cells9 hvz11
          obtain ⟨x0, x1, x2, x3, x4, x5, x6, x7, x8, _, _, _, _, _, _, _, _, _⟩ := cells9 hvx13
          obtain ⟨q0, q1, q2, _, _, _⟩ := cells3 hqz9
          obtain ⟨s0, s1, s2, s3, s4, s5, s6, s7, s8, _, _, _, _, _, _, _, _, _⟩ := rule.out Wx13 hBx13
          clear hvz9 hqz9 hvz11 hvx13 hqx13 hb12 hbd13 hB12 hBx11 hBx13 hsx13 hvy9 hqy9 hsy9 hvx11 hsx11
          go_wp2
          go_ret
          exact ⟨rfl, hfin.out⟩
    · obtain ⟨k, hk⟩ : ∃ k, ckE f = k := ⟨_, rfl⟩
      rw [hk] at cC h0
      have d1 : (k != 0) = true := bne_iff_ne.2 h0
      replace cC := Lib.hid cC
      obtain ⟨kind, reel, sess, idx, len, data, spare, arch, pay⟩ := f
      unfold Fr.val Fr.cells at *
      dsimp only at *
      clear h1 hf hp hk h0 hfit
      go_enter Tryz.func9, Tryz.ntmps9
      go_wp2_with fail
      refine (cA.out _).mono ?_
      rintro e w1 ⟨rfl, hb1⟩
      have hv1 := hvB.below hb1 hsB
      have hs1 : w.heap.size < w1.heap.size := Nat.lt_of_lt_of_le hsB hb1.size
      obtain ⟨a0, a1, a2, a3, a4, a5, a6, a7, a8, _, _, _, _, _, _, _, _, _⟩ := cells9 hv1
      go_wp2_with fail
      refine (cL.out _).mono ?_
      rintro e w2 ⟨rfl, hb2⟩
      obtain ⟨b0, b1, b2, b3, b4, b5, b6, b7, b8, _, _, _, _, _, _, _, _, _⟩ := cells9 (hv1.below hb2 hs1)
      go_wp2_with fail
      refine (cC.out _).mono ?_
      rintro e w3 ⟨rfl, hb3⟩
      go_wp2
      go_ret
      exact ⟨rfl, chain hbox (chain hb1 (chain hb2 hb3))⟩
end Go.Proofs.YtgpdfkallgjocaaGreatDoor.F13
