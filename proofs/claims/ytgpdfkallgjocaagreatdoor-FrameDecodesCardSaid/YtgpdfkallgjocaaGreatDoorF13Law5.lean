/- The walk of the law FrameDecodes, under the package's contracts (written by gen/f13law5.py). -/
import Derived.Test.YtgpdfkallgjocaaGreatDoorF13Dev
import Derived.Test.YtgpdfkallgjocaaGreatDoorF13Chg
import Derived.Test.YtgpdfkallgjocaaGreatDoorM13AX
import Derived.Test.YtgpdfkallgjocaaGreatDoorF13Ref5
namespace Go.Proofs.YtgpdfkallgjocaaGreatDoor.F13
set_option maxRecDepth 100000
open Go.RowKit Mem
set_option linter.unusedVariables false
set_option linter.unusedSimpArgs false

set_option maxHeartbeats 16000000 in
theorem walk_decodes (D : Dev) (f : Fr) (A1 : Option Addr) (n1 c1 : Nat) (z1 : List Nat) (A2 : Option Addr) (n2 c2 : Nat) (z2 : List Nat) (kp : Nat) (s : ByteArray) (w : World) (h1w : IsHw w A1 n1 c1 z1) (h2w : IsBy w A2 n2 c2 z2) (hkp : kp ≤ 65535) (hss : s.size ≤ 9223372036854775807) (hf : Fit f ∨ 200 < f.pay.size) (hp : f.pay.size ≤ 9223372036854775807) :
    Calls Tryz.prog 5 #[f.val, .agg #[.slice A1 n1 c1, .slice A2 n2 c2, .int .u16 (kp : Int)], .string s] w fun e w' => e = .returned (.bool true) ∧ Below w.heap.size w w' := by
  have cA := Lib.hid (fun W => alive_any D W)
  have cL := fun W => toolong_any f W hp
  have hbox : Below w.heap.size w ((w.alloc (.cells f.cells 26)).alloc (.cells #[.slice A1 n1 c1, .slice A2 n2 c2, .int .u16 (kp : Int)] 40)) := two_made w _ _
  have hvB : VAt ((w.alloc (.cells f.cells 26)).alloc (.cells #[.slice A1 n1 c1, .slice A2 n2 c2, .int .u16 (kp : Int)] 40)) w.heap.size f.cells.toList := (vat_alloc w 26 f.cells.toList).below ((Below.refl _ _).alloc (Nat.le_refl _) _) (by simp)
  have hsB : w.heap.size < ((w.alloc (.cells f.cells 26)).alloc (.cells #[.slice A1 n1 c1, .slice A2 n2 c2, .int .u16 (kp : Int)] 40)).heap.size := by simp; omega
  have hvR : VAt ((w.alloc (.cells f.cells 26)).alloc (.cells #[.slice A1 n1 c1, .slice A2 n2 c2, .int .u16 (kp : Int)] 40)) (w.heap.size + 1) [.slice A1 n1 c1, .slice A2 n2 c2, .int .u16 (kp : Int)] := by
    have := vat_alloc (w.alloc (.cells f.cells 26)) 40 [.slice A1 n1 c1, .slice A2 n2 c2, .int .u16 (kp : Int)]
    rw [World.size_alloc] at this
    exact this
  have hsR : w.heap.size + 1 < ((w.alloc (.cells f.cells 26)).alloc (.cells #[.slice A1 n1 c1, .slice A2 n2 c2, .int .u16 (kp : Int)] 40)).heap.size := by simp
  have h1h := Lib.hid h1w
  have h2h := Lib.hid h2w
  clear h1w h2w
  by_cases h1 : 200 < f.pay.size
  · rw [decide_eq_true h1] at cL
    replace cL := Lib.hid cL
    obtain ⟨kind, reel, sess, idx, len, data, spare, arch, pay⟩ := f
    unfold Fr.val Fr.cells at *
    dsimp only at *
    clear h1 hf hp
    go_enter Tryz.func5, Tryz.ntmps5
    go_wp2_with fail
    refine (cA.out _).mono ?_
    rintro e w1 ⟨rfl, hb1⟩
    obtain ⟨a0, a1, a2, a3, a4, a5, a6, a7, a8, _, _, _, _, _, _, _, _, _⟩ := cells9 (hvB.below hb1 hsB)
    go_wp2_with fail
    refine (cL.out _).mono ?_
    rintro e w2 ⟨rfl, hb2⟩
    go_wp2
    go_ret
    exact ⟨rfl, chain hbox (chain hb1 hb2)⟩
  · rw [decide_eq_false h1] at cL
    replace cL := Lib.hid cL
    have hfit : Fit f := hf.resolve_right h1
    have cS1 := fun (hs : s.size ≤ 900) W => D.decode s W (by omega)
    have cS2 := fun (hs : s.size ≤ 900) W => rdecode_any s W (by omega)
    have cE := fun W => rencode_any f W hfit.size
    have cD := fun c W h => D.decode c W h
    have hsize : ∀ S, ckE f = 0 → EncQ f S → S.size = 852 := fun S h0 h => by
      obtain ⟨W, h1, h2⟩ := h.1 h0
      rw [h2, ByteArray.size_append, bodyC_size (h1.size ((valid_iff f).1 h0))]
      rfl
    obtain ⟨ck, hck⟩ : ∃ k, ckE f = k := ⟨_, rfl⟩
    obtain ⟨EQ, hEQ⟩ : ∃ E, EncQ f = E := ⟨_, rfl⟩
    unfold EncP at cE
    rw [hck, hEQ] at cE
    rw [hck, hEQ] at hsize
    replace cE := Lib.hid cE
    replace cS1 := Lib.hid cS1
    replace cS2 := Lib.hid cS2
    replace cD := Lib.hid cD
    replace hsize := Lib.hid hsize
    obtain ⟨WB, hWB⟩ : ∃ W, (w.alloc (.cells f.cells 26)).alloc (.cells #[.slice A1 n1 c1, .slice A2 n2 c2, .int .u16 (kp : Int)] 40) = W := ⟨_, rfl⟩
    rw [hWB] at hbox hvB hsB hvR hsR
    obtain ⟨kind, reel, sess, idx, len, data, spare, arch, pay⟩ := f
    unfold Fr.val at cE cL ⊢
    unfold Fr.cells at cE cL hvB hWB ⊢
    dsimp only at cE cL hvB hWB ⊢
    have rule := fun (W : World) (h : Below WB.heap.size WB W) => cells9 (hvB.below h hsB)
    have rule2 := fun (W : World) (h : Below WB.heap.size WB W) => cells3 (hvR.below h hsR)
    replace rule := Lib.hid rule
    replace rule2 := Lib.hid rule2
    replace hbox := Lib.hid hbox
    clear h1 hf hp hEQ hck hfit hvB hsB hvR hsR
    go_enter Tryz.func5, Tryz.ntmps5
    go_wp2_with fail
    refine (cA.out _).mono ?_
    rintro e w1 ⟨rfl, hB1⟩
    clear hWB
    obtain ⟨a0, a1, a2, a3, a4, a5, a6, a7, a8, _, _, _, _, _, _, _, _, _⟩ := rule.out w1 hB1
    go_wp2_with fail
    refine (cL.out _).mono ?_
    rintro e w2 ⟨rfl, hb2⟩
    have hB2 := chain hB1 hb2
    clear hB1 hb2 a0 a1 a2 a3 a4 a5 a6 a7 a8 cL cA
    obtain ⟨g0, g1, g2, _, _, _⟩ := rule2.out w2 hB2
    by_cases hn : n1 ≤ 300
    · have e5 : decide ((300 : Int) < (n1 : Int)) = false := decide_eq_false (by omega)
      by_cases hs9 : s.size ≤ 900
      · have e6 : decide ((900 : Int) < (s.size : Int)) = false := decide_eq_false (by omega)
        go_wp2_with fail
        refine (cS1.out hs9 _).mono ?_
        rintro e w3 ⟨F, d1, u1, m1, k1, hD1, rfl, hb3⟩
        have hB3 := chain hB2 hb3
        obtain ⟨x0, x1, x2, x3, x4, x5, x6, x7, x8⟩ := F
        unfold Fr.val Fr.cells qV
        dsimp only
        clear hB2 hb3 g0 g1 g2
        obtain ⟨W5, hW5⟩ : ∃ W, (w3.alloc (.cells #[.int .i64 x0, .int .i64 x1, .int .i64 x2, .int .i64 x3, .int .i64 x4, .int .i64 x5, .int .i64 x6, .int .u32 (x7.toNat : Int), .string x8] 26)).alloc (.cells #[.int .i64 0, .int .i64 0, .int .i64 0] 42) = W := ⟨_, rfl⟩
        obtain ⟨T5, hT5⟩ : ∃ T, w3.heap.size = T := ⟨_, rfl⟩
        have hv5 : VAt W5 T5 [.int .i64 x0, .int .i64 x1, .int .i64 x2, .int .i64 x3, .int .i64 x4, .int .i64 x5, .int .i64 x6, .int .u32 (x7.toNat : Int), .string x8] := by
          rw [← hW5, ← hT5]
          exact (vat_alloc w3 26 [.int .i64 x0, .int .i64 x1, .int .i64 x2, .int .i64 x3, .int .i64 x4, .int .i64 x5, .int .i64 x6, .int .u32 (x7.toNat : Int), .string x8]).below ((Below.refl _ _).alloc (Nat.le_refl _) _) (by simp)
        have hq5 : VAt W5 (T5 + 1) [.int .i64 0, .int .i64 0, .int .i64 0] := by
          have := vat_alloc (w3.alloc (.cells #[.int .i64 x0, .int .i64 x1, .int .i64 x2, .int .i64 x3, .int .i64 x4, .int .i64 x5, .int .i64 x6, .int .u32 (x7.toNat : Int), .string x8] 26)) 42 [.int .i64 0, .int .i64 0, .int .i64 0]
          rw [World.size_alloc] at this
          rw [← hW5, ← hT5]
          exact this
        obtain ⟨Wx5, hWx5⟩ : ∃ W, putN (T5 + 1) W5 0 [.int .i64 d1, .int .i64 u1, .int .i64 m1] = W := ⟨_, rfl⟩
        have hvx5 : VAt Wx5 T5 [.int .i64 x0, .int .i64 x1, .int .i64 x2, .int .i64 x3, .int .i64 x4, .int .i64 x5, .int .i64 x6, .int .u32 (x7.toNat : Int), .string x8] := by rw [← hWx5]; exact putN_far (by omega) _ 0 _ hv5
        have hqx5 : VAt Wx5 (T5 + 1) [.int .i64 d1, .int .i64 u1, .int .i64 m1] := by rw [← hWx5]; exact putN_all hq5 rfl
        have hbd5 : Below w3.heap.size w3 Wx5 := by rw [← hWx5]; exact putN_below (by omega) _ 0 _ (by rw [← hW5]; exact two_made _ _ _)
        have hBx5 : Below WB.heap.size WB Wx5 := chain hB3 hbd5
        have hsx5 : T5 + 1 < Wx5.heap.size := by rw [← hWx5, putN_size, ← hW5, ← hT5]; simp
        have hTB5 : WB.heap.size ≤ T5 := by rw [← hT5]; exact hB3.size
        simp only [putN, Nat.zero_add, Nat.reduceAdd] at hWx5
        obtain ⟨p05, p15, p25, p35, p45, p55⟩ := cells3 hq5
        clear hv5 hq5
        clear hbd5 hB3
        have hvx5 := Lib.hid hvx5
        have hqx5 := Lib.hid hqx5
        have hsx5 := Lib.hid hsx5
        have hTB5 := Lib.hid hTB5
        have hD1 := Lib.hid hD1
        go_wp2_with fail
        refine (cS2.out hs9 _).mono ?_
        rintro e w6 ⟨F, d2, u2, m2, k2, hD2, rfl, hb6⟩
        obtain ⟨rfl, rfl, rfl, rfl, rfl⟩ := hD1.out.only hD2
        have hB6 := chain hBx5 hb6
        unfold Fr.val Fr.cells qV
        dsimp only
        clear hD1 hD2 cS1 cS2 hW5 hWx5 p05 p15 p25 p35 p45 p55
        obtain ⟨W7, hW7⟩ : ∃ W, (w6.alloc (.cells #[.int .i64 x0, .int .i64 x1, .int .i64 x2, .int .i64 x3, .int .i64 x4, .int .i64 x5, .int .i64 x6, .int .u32 (x7.toNat : Int), .string x8] 26)).alloc (.cells #[.int .i64 0, .int .i64 0, .int .i64 0] 42) = W := ⟨_, rfl⟩
        obtain ⟨T7, hT7⟩ : ∃ T, w6.heap.size = T := ⟨_, rfl⟩
        have hv7 : VAt W7 T7 [.int .i64 x0, .int .i64 x1, .int .i64 x2, .int .i64 x3, .int .i64 x4, .int .i64 x5, .int .i64 x6, .int .u32 (x7.toNat : Int), .string x8] := by
          rw [← hW7, ← hT7]
          exact (vat_alloc w6 26 [.int .i64 x0, .int .i64 x1, .int .i64 x2, .int .i64 x3, .int .i64 x4, .int .i64 x5, .int .i64 x6, .int .u32 (x7.toNat : Int), .string x8]).below ((Below.refl _ _).alloc (Nat.le_refl _) _) (by simp)
        have hq7 : VAt W7 (T7 + 1) [.int .i64 0, .int .i64 0, .int .i64 0] := by
          have := vat_alloc (w6.alloc (.cells #[.int .i64 x0, .int .i64 x1, .int .i64 x2, .int .i64 x3, .int .i64 x4, .int .i64 x5, .int .i64 x6, .int .u32 (x7.toNat : Int), .string x8] 26)) 42 [.int .i64 0, .int .i64 0, .int .i64 0]
          rw [World.size_alloc] at this
          rw [← hW7, ← hT7]
          exact this
        obtain ⟨Wx7, hWx7⟩ : ∃ W, putN (T7 + 1) W7 0 [.int .i64 d1, .int .i64 u1, .int .i64 m1] = W := ⟨_, rfl⟩
        have hvx7 : VAt Wx7 T7 [.int .i64 x0, .int .i64 x1, .int .i64 x2, .int .i64 x3, .int .i64 x4, .int .i64 x5, .int .i64 x6, .int .u32 (x7.toNat : Int), .string x8] := by rw [← hWx7]; exact putN_far (by omega) _ 0 _ hv7
        have hqx7 : VAt Wx7 (T7 + 1) [.int .i64 d1, .int .i64 u1, .int .i64 m1] := by rw [← hWx7]; exact putN_all hq7 rfl
        have hbd7 : Below w6.heap.size w6 Wx7 := by rw [← hWx7]; exact putN_below (by omega) _ 0 _ (by rw [← hW7]; exact two_made _ _ _)
        have hBx7 : Below WB.heap.size WB Wx7 := chain hB6 hbd7
        have hsx7 : T7 + 1 < Wx7.heap.size := by rw [← hWx7, putN_size, ← hW7, ← hT7]; simp
        have hTB7 : WB.heap.size ≤ T7 := by rw [← hT7]; exact hB6.size
        simp only [putN, Nat.zero_add, Nat.reduceAdd] at hWx7
        obtain ⟨p07, p17, p27, p37, p47, p57⟩ := cells3 hq7
        clear hv7 hq7
        have hvy5 := hvx5.out.below (chain hb6 hbd7) (by have := hsx5.out; omega)
        have hqy5 := hqx5.out.below (chain hb6 hbd7) hsx5.out
        have hT57 : T5 + 1 < T7 := by rw [← hT7]; have := hsx5.out; have := hb6.size; omega
        obtain ⟨v0, v1, v2, v3, v4, v5, v6, v7, v8, _, _, _, _, _, _, _, _, _⟩ := cells9 hvy5
        obtain ⟨q0, q1, q2, _, _, _⟩ := cells3 hqy5
        obtain ⟨y0, y1, y2, y3, y4, y5, y6, y7, y8, _, _, _, _, _, _, _, _, _⟩ := cells9 hvx7
        obtain ⟨r0, r1, r2, _, _, _⟩ := cells3 hqx7
        obtain ⟨a0, a1, a2, a3, a4, a5, a6, a7, a8, _, _, _, _, _, _, _, _, _⟩ := rule.out Wx7 hBx7
        clear hvx5 hqx5 hbd7 hb6 hB6
        have hvy5 := Lib.hid hvy5
        have hqy5 := Lib.hid hqy5
        have hvx7 := Lib.hid hvx7
        have hqx7 := Lib.hid hqx7
        have hsx7 := Lib.hid hsx7
        have hTB7 := Lib.hid hTB7
        have hT57 := Lib.hid hT57
        have hBx7 := Lib.hid hBx7
        have hBx5 := Lib.hid hBx5
        go_wp2_with fail
        refine (cE.out _).mono ?_
        rintro e w8 ⟨S, hS, rfl, hb8⟩
        have hB8 := chain hBx7.out hb8
        have hvz5 := hvy5.out.below hb8 (by have := hsx7.out; have := hT57.out; omega)
        have hqz5 := hqy5.out.below hb8 (by have := hsx7.out; have := hT57.out; omega)
        have hvz7 := hvx7.out.below hb8 (by have := hsx7.out; omega)
        have hqz7 := hqx7.out.below hb8 hsx7.out
        have hs8 : T7 + 1 < w8.heap.size := by have := hsx7.out; have := hb8.size; omega
        clear hW7 hWx7 p07 p17 p27 p37 p47 p57 v0 v1 v2 v3 v4 v5 v6 v7 v8 q0 q1 q2 y0 y1 y2 y3 y4 y5 y6 y7 y8 r0 r1 r2 a0 a1 a2 a3 a4 a5 a6 a7 a8 hvy5 hqy5 hvx7 hqx7 hsx7 hb8 cE hBx5
        by_cases hck0 : ck = 0
        · have hS8 := hsize.out S hck0 hS
          subst hck0
          have cC := fun W (h : Below w.heap.size w W) => changed_any S A1 A2 n1 c1 n2 c2 kp z1 z2 W hS8 hkp (h1h.out.below h) (h2h.out.below h) hn
          obtain ⟨g0, g1, g2, _, _, _⟩ := rule2.out w8 hB8
          have cC8 := Lib.hid (cC w8 (chain hbox.out hB8))
          replace hvz5 := Lib.hid hvz5
          replace hqz5 := Lib.hid hqz5
          replace hvz7 := Lib.hid hvz7
          replace hqz7 := Lib.hid hqz7
          replace hs8 := Lib.hid hs8
          clear cC hS hS8
          go_wp2_with fail
          refine cC8.out.mono ?_
          rintro e w9 ⟨⟨dd, hdd, rfl⟩, hb9⟩
          have hB9 := chain hB8 hb9
          have cD9 := Lib.hid (fun W => cD.out dd W (by omega))
          have cR9 := Lib.hid (fun W => rdecode_any dd W (by omega))
          have hw5 := hvz5.out.below hb9 (by have := hs8.out; have := hT57.out; omega)
          have hr5 := hqz5.out.below hb9 (by have := hs8.out; have := hT57.out; omega)
          have hw7 := hvz7.out.below hb9 (by have := hs8.out; omega)
          have hr7 := hqz7.out.below hb9 hs8.out
          have hs9' : T7 + 1 < w9.heap.size := by have := hs8.out; have := hb9.size; omega
          clear hdd g0 g1 g2 hvz5 hqz5 hvz7 hqz7 hs8 hb9 cD hB8 cC8
          go_wp2_with fail
          refine (cD9.out _).mono ?_
          rintro e wa ⟨F, d2, u2, m2, k2, hD3, rfl, hba⟩
          have hBa := chain hB9 hba
          have ka5 := hw5.below hba (by have := hT57.out; omega)
          have la5 := hr5.below hba (by have := hT57.out; omega)
          have ka7 := hw7.below hba (by omega)
          have la7 := hr7.below hba hs9'
          have hsa : T7 + 1 < wa.heap.size := by have := hba.size; omega
          obtain ⟨t0, t1, t2, t3, t4, t5, t6, t7, t8⟩ := F
          unfold Fr.val Fr.cells qV
          dsimp only
          obtain ⟨w9a, w9b, w9c⟩ := wrote (l9 := [.int .i64 t0, .int .i64 t1, .int .i64 t2, .int .i64 t3, .int .i64 t4, .int .i64 t5, .int .i64 t6, .int .u32 (t7.toNat : Int), .string t8]) (l3 := [.int .i64 d2, .int .i64 u2, .int .i64 m2]) ka5 la5 rfl rfl (by omega) hBa (by have := hTB5.out; omega) (by have := hTB5.out; omega)
          have ka7' : VAt (putN (T5 + 1) (putN T5 wa 0 [.int .i64 t0, .int .i64 t1, .int .i64 t2, .int .i64 t3, .int .i64 t4, .int .i64 t5, .int .i64 t6, .int .u32 (t7.toNat : Int), .string t8]) 0 [.int .i64 d2, .int .i64 u2, .int .i64 m2]) T7 _ := putN_far (by have := hT57.out; omega) [.int .i64 d2, .int .i64 u2, .int .i64 m2] 0 _ (putN_far (by have := hT57.out; omega) [.int .i64 t0, .int .i64 t1, .int .i64 t2, .int .i64 t3, .int .i64 t4, .int .i64 t5, .int .i64 t6, .int .u32 (t7.toNat : Int), .string t8] 0 _ ka7)
          have la7' : VAt (putN (T5 + 1) (putN T5 wa 0 [.int .i64 t0, .int .i64 t1, .int .i64 t2, .int .i64 t3, .int .i64 t4, .int .i64 t5, .int .i64 t6, .int .u32 (t7.toNat : Int), .string t8]) 0 [.int .i64 d2, .int .i64 u2, .int .i64 m2]) (T7 + 1) _ := putN_far (by have := hT57.out; omega) [.int .i64 d2, .int .i64 u2, .int .i64 m2] 0 _ (putN_far (by have := hT57.out; omega) [.int .i64 t0, .int .i64 t1, .int .i64 t2, .int .i64 t3, .int .i64 t4, .int .i64 t5, .int .i64 t6, .int .u32 (t7.toNat : Int), .string t8] 0 _ la7)
          have hsb : T7 + 1 < (putN (T5 + 1) (putN T5 wa 0 [.int .i64 t0, .int .i64 t1, .int .i64 t2, .int .i64 t3, .int .i64 t4, .int .i64 t5, .int .i64 t6, .int .u32 (t7.toNat : Int), .string t8]) 0 [.int .i64 d2, .int .i64 u2, .int .i64 m2]).heap.size := by rw [putN_size, putN_size]; exact hsa
          obtain ⟨wb, hwb⟩ : ∃ W, putN (T5 + 1) (putN T5 wa 0 [.int .i64 t0, .int .i64 t1, .int .i64 t2, .int .i64 t3, .int .i64 t4, .int .i64 t5, .int .i64 t6, .int .u32 (t7.toNat : Int), .string t8]) 0 [.int .i64 d2, .int .i64 u2, .int .i64 m2] = W := ⟨_, rfl⟩
          rw [hwb] at w9a w9b w9c ka7' la7' hsb
          simp only [putN, Nat.zero_add, Nat.reduceAdd] at hwb
          obtain ⟨f0, f1, f2, f3, f4, f5, f6, f7, f8, y0, y1, y2, y3, y4, y5, y6, y7, y8⟩ := cells9 ka5
          obtain ⟨q0, q1, q2, z0, z1', z2'⟩ := cells3 la5
          clear hw5 hr5 hw7 hr7 ka5 la5 ka7 la7 hsa hba hBa cD9
          replace w9a := Lib.hid w9a
          replace w9b := Lib.hid w9b
          replace w9c := Lib.hid w9c
          replace ka7' := Lib.hid ka7'
          replace la7' := Lib.hid la7'
          replace hsb := Lib.hid hsb
          replace hD3 := Lib.hid hD3
          replace hB9 := Lib.hid hB9
          replace hs9' := Lib.hid hs9'
          go_wp2_with fail
          refine (cR9.out _).mono ?_
          rintro e wc ⟨F, d3, u3, m3, k3, hD4, rfl, hbc⟩
          obtain ⟨rfl, rfl, rfl, rfl, rfl⟩ := hD3.out.only hD4
          have hBc := chain w9c.out hbc
          have kc5 := w9a.out.below hbc (by have := hT57.out; have := hsb.out; omega)
          have lc5 := w9b.out.below hbc (by have := hT57.out; have := hsb.out; omega)
          have kc7 := ka7'.out.below hbc (by have := hsb.out; omega)
          have lc7 := la7'.out.below hbc hsb.out
          unfold Fr.val Fr.cells qV
          dsimp only
          clear f0 f1 f2 f3 f4 f5 f6 f7 f8 y0 y1 y2 y3 y4 y5 y6 y7 y8 q0 q1 q2 z0 z1' z2' hwb w9a w9b w9c ka7' la7' hsb hbc hD3 hD4 cR9
          obtain ⟨x9a, x9b, x9c⟩ := wrote (l9 := [.int .i64 t0, .int .i64 t1, .int .i64 t2, .int .i64 t3, .int .i64 t4, .int .i64 t5, .int .i64 t6, .int .u32 (t7.toNat : Int), .string t8]) (l3 := [.int .i64 d2, .int .i64 u2, .int .i64 m2]) kc7 lc7 rfl rfl (by omega) hBc (by have := hTB7.out; omega) (by have := hTB7.out; omega)
          have kc5' : VAt (putN (T7 + 1) (putN T7 wc 0 [.int .i64 t0, .int .i64 t1, .int .i64 t2, .int .i64 t3, .int .i64 t4, .int .i64 t5, .int .i64 t6, .int .u32 (t7.toNat : Int), .string t8]) 0 [.int .i64 d2, .int .i64 u2, .int .i64 m2]) T5 [.int .i64 t0, .int .i64 t1, .int .i64 t2, .int .i64 t3, .int .i64 t4, .int .i64 t5, .int .i64 t6, .int .u32 (t7.toNat : Int), .string t8] := putN_far (by have := hT57.out; omega) [.int .i64 d2, .int .i64 u2, .int .i64 m2] 0 _ (putN_far (by have := hT57.out; omega) [.int .i64 t0, .int .i64 t1, .int .i64 t2, .int .i64 t3, .int .i64 t4, .int .i64 t5, .int .i64 t6, .int .u32 (t7.toNat : Int), .string t8] 0 _ kc5)
          have lc5' : VAt (putN (T7 + 1) (putN T7 wc 0 [.int .i64 t0, .int .i64 t1, .int .i64 t2, .int .i64 t3, .int .i64 t4, .int .i64 t5, .int .i64 t6, .int .u32 (t7.toNat : Int), .string t8]) 0 [.int .i64 d2, .int .i64 u2, .int .i64 m2]) (T5 + 1) [.int .i64 d2, .int .i64 u2, .int .i64 m2] := putN_far (by have := hT57.out; omega) [.int .i64 d2, .int .i64 u2, .int .i64 m2] 0 _ (putN_far (by have := hT57.out; omega) [.int .i64 t0, .int .i64 t1, .int .i64 t2, .int .i64 t3, .int .i64 t4, .int .i64 t5, .int .i64 t6, .int .u32 (t7.toNat : Int), .string t8] 0 _ lc5)
          obtain ⟨wd, hwd⟩ : ∃ W, putN (T7 + 1) (putN T7 wc 0 [.int .i64 t0, .int .i64 t1, .int .i64 t2, .int .i64 t3, .int .i64 t4, .int .i64 t5, .int .i64 t6, .int .u32 (t7.toNat : Int), .string t8]) 0 [.int .i64 d2, .int .i64 u2, .int .i64 m2] = W := ⟨_, rfl⟩
          rw [hwd] at x9a x9b x9c kc5' lc5'
          simp only [putN, Nat.zero_add, Nat.reduceAdd] at hwd
          obtain ⟨f0, f1, f2, f3, f4, f5, f6, f7, f8, y0, y1, y2, y3, y4, y5, y6, y7, y8⟩ := cells9 kc7
          obtain ⟨q0, q1, q2, z0, z1', z2'⟩ := cells3 lc7
          obtain ⟨v0, v1, v2, v3, v4, v5, v6, v7, v8, _, _, _, _, _, _, _, _, _⟩ := cells9 x9a
          obtain ⟨p0, p1, p2, _, _, _⟩ := cells3 x9b
          obtain ⟨b0, b1, b2, b3, b4, b5, b6, b7, b8, _, _, _, _, _, _, _, _, _⟩ := cells9 kc5'
          obtain ⟨r0, r1, r2, _, _, _⟩ := cells3 lc5'
          have hfin := Lib.hid (chain hbox.out x9c)
          clear x9a x9b x9c kc5 lc5 kc7 lc7 kc5' lc5' hBc
          go_wp2
          go_ret
          exact ⟨rfl, hfin.out⟩
        · have dq : (ck != 0) = true := bne_iff_ne.2 hck0
          have hfin := Lib.hid (chain hbox.out hB8)
          clear hS hck0 hvz5 hqz5 hvz7 hqz7
          go_wp2
          go_ret
          exact ⟨rfl, hfin.out⟩
      · have e6 : decide ((900 : Int) < (s.size : Int)) = true := decide_eq_true (by omega)
        go_wp2
        go_ret
        exact ⟨rfl, chain hbox.out hB2⟩
    · have e5 : decide ((300 : Int) < (n1 : Int)) = true := decide_eq_true (by omega)
      go_wp2
      go_ret
      exact ⟨rfl, chain hbox.out hB2⟩
end Go.Proofs.YtgpdfkallgjocaaGreatDoor.F13
