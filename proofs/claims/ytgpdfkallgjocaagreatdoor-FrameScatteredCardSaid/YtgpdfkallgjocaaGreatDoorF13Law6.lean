/- The walk of the law FrameBurst, under the package's contracts (written by gen/f13laws.py). -/
import Derived.Test.YtgpdfkallgjocaaGreatDoorF13Law1
import Derived.Test.YtgpdfkallgjocaaGreatDoorF13Near
import Derived.Test.YtgpdfkallgjocaaGreatDoorF13More
import Derived.Test.YtgpdfkallgjocaaGreatDoorM13AA
import Derived.Test.YtgpdfkallgjocaaGreatDoorM13AI
import Derived.Laws.BitsAllLaws
namespace Go.Proofs.YtgpdfkallgjocaaGreatDoor.F13
set_option maxRecDepth 100000
open Go.RowKit Mem
set_option linter.unusedVariables false
set_option linter.unusedSimpArgs false

set_option maxHeartbeats 16000000 in
theorem walk_burst (D : Dev) (f : Fr) (b0 b1 : Nat) (A : Option Addr) (n cap : Nat) (zs : List Nat) (w : World) (hb0 : b0 ≤ 65535) (hb1' : b1 ≤ 65535) (hrow : IsBy w A n cap zs) (hf : Fit f ∨ 200 < f.pay.size) (hp : f.pay.size ≤ 9223372036854775807) :
    Calls Tryz.prog 8 #[f.val, .agg #[.int .u16 (b0 : Int), .int .u16 (b1 : Int)], .slice A n cap] w fun e w' => e = .returned (.bool true) ∧ Below w.heap.size w w' := by
  have cA := Lib.hid (fun W => alive_any D W)
  have cL := fun W => toolong_any f W hp
  have hbox : Below w.heap.size w ((w.alloc (.cells f.cells 26)).alloc (.cells #[.int .u16 (b0 : Int), .int .u16 (b1 : Int)] 49)) := two_made w _ _
  have hvB : VAt ((w.alloc (.cells f.cells 26)).alloc (.cells #[.int .u16 (b0 : Int), .int .u16 (b1 : Int)] 49)) w.heap.size f.cells.toList := (vat_alloc w 26 f.cells.toList).below ((Below.refl _ _).alloc (Nat.le_refl _) _) (by simp)
  have hsB : w.heap.size < ((w.alloc (.cells f.cells 26)).alloc (.cells #[.int .u16 (b0 : Int), .int .u16 (b1 : Int)] 49)).heap.size := by simp; omega
  have hvR : VAt ((w.alloc (.cells f.cells 26)).alloc (.cells #[.int .u16 (b0 : Int), .int .u16 (b1 : Int)] 49)) (w.heap.size + 1) [.int .u16 (b0 : Int), .int .u16 (b1 : Int)] := by
    have := vat_alloc (w.alloc (.cells f.cells 26)) 49 [.int .u16 (b0 : Int), .int .u16 (b1 : Int)]
    rw [World.size_alloc] at this
    exact this
  have hsR : w.heap.size + 1 < ((w.alloc (.cells f.cells 26)).alloc (.cells #[.int .u16 (b0 : Int), .int .u16 (b1 : Int)] 49)).heap.size := by simp
  have hrowh := Lib.hid hrow
  clear hrow
  obtain ⟨fr, hfr⟩ : ∃ fr, b0 % 836 = fr := ⟨_, rfl⟩
  obtain ⟨q, hq⟩ : ∃ q, b1 % 91 = q := ⟨_, rfl⟩
  by_cases h1 : 200 < f.pay.size
  · rw [decide_eq_true h1] at cL
    replace cL := Lib.hid cL
    obtain ⟨kind, reel, sess, idx, len, data, spare, arch, pay⟩ := f
    unfold Fr.val Fr.cells at *
    dsimp only at *
    clear h1 hf hp
    go_enter Tryz.func8, Tryz.ntmps8
    go_wp2_with fail
    refine (cA.out _).mono ?_
    rintro e w1 ⟨rfl, hb1⟩
    obtain ⟨a0, a1, a2, a3, a4, a5, a6, a7, a8, _, _, _, _, _, _, _, _, _⟩ := cells9 (hvB.below hb1 hsB)
    go_wp2_with fail
    refine (cL.out _).mono ?_
    rintro e w2 ⟨rfl, hb2⟩
    go_wp2
    go_ret
    exact ⟨rfl, chain hbox (chain hb1 hb2)⟩
  · rw [decide_eq_false h1] at cL
    replace cL := Lib.hid cL
    have hfit : Fit f := hf.resolve_right h1
    have cC := fun W => D.check f W hfit
    by_cases h0 : ckE f = 0
    · have hv := (valid_iff f).1 h0
      have cE := fun W => D.encode f W hfit
      rw [h0] at cC
      have henc : ∀ S, EncQ f S → ∃ W, Word f W ∧ W.size = 52 ∧ S = M12.mkB ++ bodyC W := fun S h => by
        obtain ⟨W, h1, h2⟩ := h.1 h0
        exact ⟨W, h1, h1.size hv, h2⟩
      have hdec := fun (W : ByteArray) (X : List UInt8) (a e : Nat) (F : Fr) (d u n k : Int) (hW : Word f W) (h1 : Bu (bodyC W).data.toList a X e) h2 (h : DcQ ⟨X.toArray⟩ F d u n k) => dec_bu (X := X) hv hW h1 h2 h
      replace hdec := Lib.hid hdec
      unfold EncP at cE
      rw [h0] at cE
      replace cC := Lib.hid cC
      replace cE := Lib.hid cE
      replace henc := Lib.hid henc
      obtain ⟨E, hE⟩ : ∃ E, EncQ f = E := ⟨_, rfl⟩
      obtain ⟨Wd, hWd⟩ : ∃ E, Word f = E := ⟨_, rfl⟩
      rw [hE] at cE henc
      rw [hWd] at henc hdec
      obtain ⟨WB, hWB⟩ : ∃ W, (w.alloc (.cells f.cells 26)).alloc (.cells #[.int .u16 (b0 : Int), .int .u16 (b1 : Int)] 49) = W := ⟨_, rfl⟩
      rw [hWB] at hbox hvB hsB hvR hsR
      obtain ⟨kind, reel, sess, idx, len, data, spare, arch, pay⟩ := f
      unfold Fr.val at cE cC cL ⊢
      unfold Fr.cells at cE cC cL hvB hWB ⊢
      dsimp only at cE cC cL hvB hWB ⊢
      have rule := fun (W : World) (h : Below WB.heap.size WB W) => cells9 (hvB.below h hsB)
      replace rule := Lib.hid rule
      have rule2 := fun (W : World) (h : Below WB.heap.size WB W) => (show W.cell? ⟨w.heap.size + 1, 0, none⟩ = some (.int .u16 (b0 : Int)) ∧ W.cell? ⟨w.heap.size + 1, 1, none⟩ = some (.int .u16 (b1 : Int)) from ⟨((hvR.below h hsR) 0 (show 0 < 2 by decide)).1, ((hvR.below h hsR) 1 (show 1 < 2 by decide)).1⟩)
      replace rule2 := Lib.hid rule2
      clear hvR hsR
      replace hbox := Lib.hid hbox
      clear h1 hf hp h0 hv hE hWd hfit hvB hsB
      go_enter Tryz.func8, Tryz.ntmps8
      go_wp2_with fail
      refine (cA.out _).mono ?_
      rintro e w1 ⟨rfl, hB1⟩
      clear hWB
      obtain ⟨a0, a1, a2, a3, a4, a5, a6, a7, a8, _, _, _, _, _, _, _, _, _⟩ := rule.out w1 hB1
      go_wp2_with fail
      refine (cL.out _).mono ?_
      rintro e w2 ⟨rfl, hb2⟩
      have hB2 := chain hB1 hb2
      clear hB1 hb2 a0 a1 a2 a3 a4 a5 a6 a7 a8
      obtain ⟨a0, a1, a2, a3, a4, a5, a6, a7, a8, _, _, _, _, _, _, _, _, _⟩ := rule.out w2 hB2
      go_wp2_with fail
      refine (cC.out _).mono ?_
      rintro e w3 ⟨rfl, hb3⟩
      have hB3 := chain hB2 hb3
      clear hB2 hb3 a0 a1 a2 a3 a4 a5 a6 a7 a8 cC cL cA
      obtain ⟨a0, a1, a2, a3, a4, a5, a6, a7, a8, _, _, _, _, _, _, _, _, _⟩ := rule.out w3 hB3
      by_cases hn : n ≤ 90
      · have d5 : decide ((90 : Int) < (n : Int)) = false := decide_eq_false (by omega)
        go_wp2_with fail
        refine (cE.out _).mono ?_
        rintro e w4 ⟨S, hS, rfl, hb4⟩
        have hB4 := chain hB3 hb4
        obtain ⟨W, hW, hWs, rfl⟩ := henc.out S hS
        have hex := ext_body W hWs
        have hSs : (M12.mkB ++ bodyC W).size = 852 := by rw [ByteArray.size_append, bodyC_size hWs]; rfl
        have i1 : (16 : Int) ≤ ((M12.mkB ++ bodyC W).size : Int) := by omega
        have i2 : ((M12.mkB ++ bodyC W).size : Int) = 852 := by omega
        clear hb4 hB3 a0 a1 a2 a3 a4 a5 a6 a7 a8 cE henc hS
        have hBs : (bodyC W).size = 836 := bodyC_size hWs
        have hC := body_bits W
        have hBu0 := Bu.start (body_ok W) fr (fr + 0)
        have hd := fun (X : List UInt8) (e : Nat) F d u n k (h : Bu (bodyC W).data.toList fr X e) he h3 => hdec.out W X fr e F d u n k hW h he h3
        have hAl := body_len hWs
        obtain ⟨Bd, hBd⟩ : ∃ B, bodyC W = B := ⟨_, rfl⟩
        rw [hBd] at hex hSs i1 i2 hBs hC hBu0 hd hAl ⊢
        obtain ⟨S, hS2⟩ : ∃ S, M12.mkB ++ Bd = S := ⟨_, rfl⟩
        rw [hS2] at hex hSs i1 i2 ⊢
        have hLs := hBs
        obtain ⟨C1, cap1, hcap1, hcv1, hat1⟩ := bytes_of (P := Tryz.prog) w4 (src := 9) (dst := 37) (e := 5) Bd Tryz.underlying9 Tryz.underlying37 Tryz.underlying5
        obtain ⟨G, hG⟩ : ∃ G, w4.heap.size = G := ⟨_, rfl⟩
        obtain ⟨W6, hW6⟩ : ∃ W, w4.drew.alloc (.cells C1 5 (cap1, cap1 + 1)) = W := ⟨_, rfl⟩
        have hb6 : Below G w4 W6 := by rw [← hW6, ← hG]; exact ((Below.refl w4.heap.size w4).drew).alloc (by simp) _
        have hA6 : BAt W6 G Bd.data.toList := by rw [← hW6, ← hG]; exact hat1
        have hs6 : G < W6.heap.size := by rw [← hW6, ← hG]; simp
        rw [hW6, hG, hLs] at hcv1
        have hcap2 : 836 ≤ cap1 := by omega
        obtain ⟨C, hCC⟩ : ∃ C, Bd.data.toList = C := ⟨_, rfl⟩
        rw [hCC] at hC hBu0 hd hA6 hAl
        obtain ⟨g0, g1⟩ := rule2.out W6 (by rw [hG.symm] at hb6; exact chain hB4 hb6)
        have f1 : (b0 : Int) % 836 = (fr : Int) := by omega
        have f2 : (b0 : Int).tmod 836 = (fr : Int) := by rw [Int.tmod_eq_emod_of_nonneg (by omega)]; omega
        have f3 : (b1 : Int) % 91 = (q : Int) := by omega
        have f4 : (b1 : Int).tmod 91 = (q : Int) := by rw [Int.tmod_eq_emod_of_nonneg (by omega)]; omega
        have f5 : (b0 : Int) ≤ 65535 := by omega
        have f6 : (b1 : Int) ≤ 65535 := by omega
        have f7 : fr < 836 := by omega
        have f8 : q ≤ 90 := by omega
        have f9 : (fr : Int) ≤ 835 := by omega
        replace hd := Lib.hid hd
        have hC := Lib.hid hC
        have hBu0 := Lib.hid hBu0
        have hAl := Lib.hid hAl
        have hA6 := Lib.hid hA6
        have hs6 := Lib.hid hs6
        have hb6 := Lib.hid hb6
        have hGh := Lib.hid hG
        have hB4 := Lib.hid hB4
        clear hW6 hat1 hcap1 hLs hBs hBd hS2 hdec hW hWs hCC
        go_wp2
        clear hcv1 f1 f2 hex hSs i1 i2 g0 g1
        go_loopw [11] (fun iv wr => ∃ (i : Nat) (X : List UInt8), iv = .int .i64 (i : Int) ∧ Hid (i ≤ q) ∧ Hid (Bu C fr X (fr + i)) ∧ Hid (BAt wr G X) ∧ Hid (G < wr.heap.size) ∧ Hid (Below G w4 wr)) (fun iv _ => 1000 - (intOf iv).toNat)
        case atStart => exact ⟨0, C, rfl, Lib.hid (Nat.zero_le _), hBu0, hA6, hs6, hb6⟩
        case round =>
          clear hBu0 hA6 hs6 hb6
          obtain ⟨i, X, rfl, hiq, hBu, hAt, hsz, hb⟩ := hrel
          have hXl : Hid (X.length = 836) := Lib.hid (by rw [hBu.out.len]; exact hAl.out)
          have hBw : Hid (Below WB.heap.size WB wr) := Lib.hid (chain hB4.out (by rw [hGh.out]; exact hb.out))
          have hi90 : Hid (fr + i ≤ fr + 90) := Lib.hid (by have := hiq.out; omega)
          obtain ⟨g0, g1⟩ := rule2.out wr hBw.out
          obtain ⟨K, hKK⟩ : ∃ K : Nat, fr + i = K := ⟨_, rfl⟩
          have q2 : (fr : Int) + (i : Int) = (K : Int) := by omega
          have i0 : (0 : Int) ≤ (i : Int) := by omega
          have i9 : (i : Int) ≤ 90 := by have := hiq.out; omega
          have K0 : (0 : Int) ≤ (K : Int) := by omega
          have K9 : (K : Int) ≤ 925 := by have := hiq.out; omega
          by_cases hlt : i < q
          · have dk : decide ((i : Int) < (q : Int)) = true := decide_eq_true (by omega)
            have hq1 : Hid (i + 1 ≤ q) := Lib.hid hlt
            by_cases h8 : K < 836
            · have d8 : decide ((K : Int) < 836) = true := decide_eq_true (by omega)
              have K1 : (K : Int) < 836 := by omega
              have hXE : K < X.length := by rw [hXl.out]; exact h8
              obtain ⟨o1, o2⟩ := hAt.out K hXE
              clear hiq hi90
              by_cases hin : i < n
              · have dn : decide ((i : Int) < (n : Int)) = true := decide_eq_true (by omega)
                have dg : decide ((n : Int) ≤ (i : Int)) = false := decide_eq_false (by omega)
                have i1 : (i : Int) < (n : Int) := by omega
                obtain ⟨bb, oo, rfl, hbb, hce, hz8⟩ := (hrowh.out.below (chain hbox.out hBw.out)).read (k := i) hin
                obtain ⟨z, hz⟩ : ∃ z, zs.getD i 0 = z := ⟨_, rfl⟩
                rw [hz] at hce hz8
                have z0 : (0 : Int) ≤ (z : Int) := by omega
                have z5 : (z : Int) ≤ 255 := by omega
                have hz3 : z % 3 = 0 ∨ z % 3 = 1 ∨ z % 3 = 2 := by omega
                clear hz hbb
                rcases hz3 with hz3 | hz3 | hz3
                · have y1 : (z : Int) % 3 = 0 := by omega
                  have y2 : (z : Int).tmod 3 = 0 := by rw [Int.tmod_eq_emod_of_nonneg (by omega)]; omega
                  clear hz3
                  have hok : C9.okC 63 = true := rfl
                  have hset := hAt.out.set hXE (63)
                  have hst := hBu.out.step (Nat.le_add_right fr i) (63) hok
                  have hsz2 : Hid (G < (wr.setCell ⟨G, K, none⟩ (.int .u8 ((63 : UInt8).toNat : Int))).heap.size) := Lib.hid (by simpa using hsz.out)
                  have hb2 := Lib.hid (hb.out.setCell (p := ⟨G, K, none⟩) (Nat.le_refl G) (.int .u8 ((63 : UInt8).toNat : Int)))
                  rw [hKK] at hst
                  obtain ⟨x, hx⟩ : ∃ x, X[K] = x := ⟨_, rfl⟩
                  rw [hx] at o1
                  have hset : Hid (BAt (wr.setCell ⟨G, K, none⟩ (.int .u8 63)) G (X.set K 63)) := Lib.hid hset
                  have hsz2 : Hid (G < (wr.setCell ⟨G, K, none⟩ (.int .u8 63)).heap.size) := hsz2
                  have hb2 : Hid (Below G w4 (wr.setCell ⟨G, K, none⟩ (.int .u8 63))) := hb2
                  replace hst : Hid (Bu C fr (X.set K 63) (fr + (i + 1))) := Lib.hid (by rw [show fr + (i + 1) = K + 1 by omega]; exact hst)
                  clear hx hXE hAt hsz hb hBu hXl hBw hok hKK hC
                  go_wp2
                  go_roundw
                  case rel => exact ⟨i + 1, X.set K 63, by go_num, hq1, hst, hset, hsz2, hb2⟩
                  case measure => simp [intOf]; omega
                · have y1 : (z : Int) % 3 = 1 := by omega
                  have y2 : (z : Int).tmod 3 = 1 := by rw [Int.tmod_eq_emod_of_nonneg (by omega)]; omega
                  clear hz3
                  have hok0 := hBu.out.flip hC.out (show fr + i < X.length by rw [hKK]; exact hXE)
                  have hx1 : bits .xor .u8 ((X[K]).toNat : Int) 1 = ((X[K] ^^^ 1).toNat : Int) := bxr8 _ 1
                  have hok : C9.okC (X[K] ^^^ 1) = true := by simpa only [hKK] using hok0
                  clear hok0
                  have hset := hAt.out.set hXE (X[K] ^^^ 1)
                  have hst := hBu.out.step (Nat.le_add_right fr i) (X[K] ^^^ 1) hok
                  have hsz2 : Hid (G < (wr.setCell ⟨G, K, none⟩ (.int .u8 ((X[K] ^^^ 1 : UInt8).toNat : Int))).heap.size) := Lib.hid (by simpa using hsz.out)
                  have hb2 := Lib.hid (hb.out.setCell (p := ⟨G, K, none⟩) (Nat.le_refl G) (.int .u8 ((X[K] ^^^ 1 : UInt8).toNat : Int)))
                  rw [hKK] at hst
                  obtain ⟨x, hx⟩ : ∃ x, X[K] = x := ⟨_, rfl⟩
                  rw [hx] at o1 hset hst hsz2 hb2 hx1
                  have x8 : (x.toNat : Int) ≤ 255 := by have := x.toNat_lt; omega
                  replace hset := Lib.hid hset
                  replace hst : Hid (Bu C fr (X.set K (x ^^^ 1)) (fr + (i + 1))) := Lib.hid (by rw [show fr + (i + 1) = K + 1 by omega]; exact hst)
                  clear hx hXE hAt hsz hb hBu hXl hBw hok hKK hC
                  go_wp2
                  go_roundw
                  case rel => exact ⟨i + 1, X.set K (x ^^^ 1), by go_num, hq1, hst, hset, hsz2, hb2⟩
                  case measure => simp [intOf]; omega
                · have y1 : (z : Int) % 3 = 2 := by omega
                  have y2 : (z : Int).tmod 3 = 2 := by rw [Int.tmod_eq_emod_of_nonneg (by omega)]; omega
                  clear hz3
                  have hst := Lib.hid (hBu.out.later (e' := fr + (i + 1)) (by omega))
                  clear hXE hBu hXl hBw hKK hC o1 o2
                  go_wp2
                  go_roundw
                  case rel => exact ⟨i + 1, X, by go_num, hq1, hst, hAt, hsz, hb⟩
                  case measure => simp [intOf]; omega
              · have dn : decide ((i : Int) < (n : Int)) = false := decide_eq_false (by omega)
                have dg : decide ((n : Int) ≤ (i : Int)) = true := decide_eq_true (by omega)
                have hok0 := hBu.out.flip hC.out (show fr + i < X.length by rw [hKK]; exact hXE)
                have hx1 : bits .xor .u8 ((X[K]).toNat : Int) 1 = ((X[K] ^^^ 1).toNat : Int) := bxr8 _ 1
                have hok : C9.okC (X[K] ^^^ 1) = true := by simpa only [hKK] using hok0
                clear hok0
                have hset := hAt.out.set hXE (X[K] ^^^ 1)
                have hst := hBu.out.step (Nat.le_add_right fr i) (X[K] ^^^ 1) hok
                have hsz2 : Hid (G < (wr.setCell ⟨G, K, none⟩ (.int .u8 ((X[K] ^^^ 1 : UInt8).toNat : Int))).heap.size) := Lib.hid (by simpa using hsz.out)
                have hb2 := Lib.hid (hb.out.setCell (p := ⟨G, K, none⟩) (Nat.le_refl G) (.int .u8 ((X[K] ^^^ 1 : UInt8).toNat : Int)))
                rw [hKK] at hst
                obtain ⟨x, hx⟩ : ∃ x, X[K] = x := ⟨_, rfl⟩
                rw [hx] at o1 hset hst hsz2 hb2 hx1
                have x8 : (x.toNat : Int) ≤ 255 := by have := x.toNat_lt; omega
                replace hset := Lib.hid hset
                replace hst : Hid (Bu C fr (X.set K (x ^^^ 1)) (fr + (i + 1))) := Lib.hid (by rw [show fr + (i + 1) = K + 1 by omega]; exact hst)
                clear hx hXE hAt hsz hb hBu hXl hBw hok hKK hC
                go_wp2
                go_roundw
                case rel => exact ⟨i + 1, X.set K (x ^^^ 1), by go_num, hq1, hst, hset, hsz2, hb2⟩
                case measure => simp [intOf]; omega
            · have d8 : decide ((K : Int) < 836) = false := decide_eq_false (by omega)
              clear hC hq1 hiq
              have hcv := hAt.out.conv (P := Tryz.prog) (cap := cap1) (n := 836) hXl.out Tryz.underlying37 Tryz.underlying5 Tryz.underlying9
              have hcs : (⟨X.toArray⟩ : ByteArray).size = 836 := hXl.out
              have cD := fun W' => D.decode ⟨X.toArray⟩ W' (by omega)
              have hdd := fun F d u nn k h => hd.out X (fr + i) F d u nn k hBu.out hi90.out h
              obtain ⟨V, hV⟩ : ∃ V : ByteArray, ⟨X.toArray⟩ = V := ⟨_, rfl⟩
              rw [hV] at hcv cD hdd
              replace cD := Lib.hid cD
              replace hdd := Lib.hid hdd
              clear hBu hAt hsz hb hXl hcs hV hd hi90
              go_wp2_with fail
              with_reducible refine (cD.out _).mono ?_
              rintro e w8 ⟨F, d, u, n1, kk, hD, rfl, hb8⟩
              obtain ⟨rfl, rfl⟩ := hdd.out F d u n1 kk hD
              have hB8 := chain hBw.out hb8
              unfold Fr.val Fr.cells qV
              dsimp only
              obtain ⟨W9, hW9⟩ : ∃ W, (w8.alloc (.cells #[.int .i64 kind, .int .i64 reel, .int .i64 sess, .int .i64 idx, .int .i64 len, .int .i64 data, .int .i64 spare, .int .u32 (arch.toNat : Int), .string pay] 26)).alloc (.cells #[.int .i64 0, .int .i64 0, .int .i64 0] 42) = W := ⟨_, rfl⟩
              obtain ⟨T9, hT9⟩ : ∃ T, w8.heap.size = T := ⟨_, rfl⟩
              have hv9 : VAt W9 T9 [.int .i64 kind, .int .i64 reel, .int .i64 sess, .int .i64 idx, .int .i64 len, .int .i64 data, .int .i64 spare, .int .u32 (arch.toNat : Int), .string pay] := by
                rw [← hW9, ← hT9]
                exact (vat_alloc w8 26 [.int .i64 kind, .int .i64 reel, .int .i64 sess, .int .i64 idx, .int .i64 len, .int .i64 data, .int .i64 spare, .int .u32 (arch.toNat : Int), .string pay]).below ((Below.refl _ _).alloc (Nat.le_refl _) _) (by simp)
              have hq9 : VAt W9 (T9 + 1) [.int .i64 0, .int .i64 0, .int .i64 0] := by
                have := vat_alloc (w8.alloc (.cells #[.int .i64 kind, .int .i64 reel, .int .i64 sess, .int .i64 idx, .int .i64 len, .int .i64 data, .int .i64 spare, .int .u32 (arch.toNat : Int), .string pay] 26)) 42 [.int .i64 0, .int .i64 0, .int .i64 0]
                rw [World.size_alloc] at this
                rw [← hW9, ← hT9]
                exact this
              have hBa9 : Below WB.heap.size WB W9 := by
                rw [← hW9]
                exact (hB8.alloc hB8.size _).alloc (by have := hB8.size; simp; omega) _
              have hTb9 : WB.heap.size ≤ T9 := by rw [← hT9]; exact hB8.size
              obtain ⟨Wx9, hWx9⟩ : ∃ W, putN (T9 + 1) W9 0 [.int .i64 d, .int .i64 u, .int .i64 n1] = W := ⟨_, rfl⟩
              have hvx9 : VAt Wx9 T9 [.int .i64 kind, .int .i64 reel, .int .i64 sess, .int .i64 idx, .int .i64 len, .int .i64 data, .int .i64 spare, .int .u32 (arch.toNat : Int), .string pay] := by rw [← hWx9]; exact putN_far (by omega) _ 0 _ hv9
              have hqx9 : VAt Wx9 (T9 + 1) [.int .i64 d, .int .i64 u, .int .i64 n1] := by rw [← hWx9]; exact putN_all hq9 rfl
              have hBx9 : Below WB.heap.size WB Wx9 := by rw [← hWx9]; exact putN_below (by omega) _ 0 _ hBa9
              have hbd9 : Below w8.heap.size w8 Wx9 := by rw [← hWx9]; exact putN_below (by omega) _ 0 _ (by rw [← hW9]; exact two_made _ _ _)
              have hsx9 : T9 + 1 < Wx9.heap.size := by rw [← hWx9, putN_size, ← hW9, ← hT9]; simp
              simp only [putN, Nat.zero_add, Nat.reduceAdd] at hWx9
              obtain ⟨p09, p19, p29, p39, p49, p59⟩ := cells3 hq9
              clear hv9 hq9 hBa9 hTb9
              have hfin := Lib.hid (chain hbox.out hBx9)
              obtain ⟨u0, u1, u2, u3, u4, u5, u6, u7, u8, _, _, _, _, _, _, _, _, _⟩ := cells9 hvx9
              obtain ⟨q0, q1, q2, _, _, _⟩ := cells3 hqx9
              obtain ⟨s0, s1, s2, s3, s4, s5, s6, s7, s8, _, _, _, _, _, _, _, _, _⟩ := rule.out Wx9 hBx9
              clear hD cD hb8 hvx9 hqx9 hBw hrowh hdd hB8 hBx9 hsx9 hbd9
              go_wp2
              go_ret
              exact ⟨rfl, hfin.out⟩
          · have dk : decide ((i : Int) < (q : Int)) = false := decide_eq_false (by omega)
            clear hC hiq
            have hcv := hAt.out.conv (P := Tryz.prog) (cap := cap1) (n := 836) hXl.out Tryz.underlying37 Tryz.underlying5 Tryz.underlying9
            have hcs : (⟨X.toArray⟩ : ByteArray).size = 836 := hXl.out
            have cD := fun W' => D.decode ⟨X.toArray⟩ W' (by omega)
            have hdd := fun F d u nn k h => hd.out X (fr + i) F d u nn k hBu.out hi90.out h
            obtain ⟨V, hV⟩ : ∃ V : ByteArray, ⟨X.toArray⟩ = V := ⟨_, rfl⟩
            rw [hV] at hcv cD hdd
            replace cD := Lib.hid cD
            replace hdd := Lib.hid hdd
            clear hBu hAt hsz hb hXl hcs hV hd hi90
            go_wp2_with fail
            with_reducible refine (cD.out _).mono ?_
            rintro e w8 ⟨F, d, u, n1, kk, hD, rfl, hb8⟩
            obtain ⟨rfl, rfl⟩ := hdd.out F d u n1 kk hD
            have hB8 := chain hBw.out hb8
            unfold Fr.val Fr.cells qV
            dsimp only
            obtain ⟨W9, hW9⟩ : ∃ W, (w8.alloc (.cells #[.int .i64 kind, .int .i64 reel, .int .i64 sess, .int .i64 idx, .int .i64 len, .int .i64 data, .int .i64 spare, .int .u32 (arch.toNat : Int), .string pay] 26)).alloc (.cells #[.int .i64 0, .int .i64 0, .int .i64 0] 42) = W := ⟨_, rfl⟩
            obtain ⟨T9, hT9⟩ : ∃ T, w8.heap.size = T := ⟨_, rfl⟩
            have hv9 : VAt W9 T9 [.int .i64 kind, .int .i64 reel, .int .i64 sess, .int .i64 idx, .int .i64 len, .int .i64 data, .int .i64 spare, .int .u32 (arch.toNat : Int), .string pay] := by
              rw [← hW9, ← hT9]
              exact (vat_alloc w8 26 [.int .i64 kind, .int .i64 reel, .int .i64 sess, .int .i64 idx, .int .i64 len, .int .i64 data, .int .i64 spare, .int .u32 (arch.toNat : Int), .string pay]).below ((Below.refl _ _).alloc (Nat.le_refl _) _) (by simp)
            have hq9 : VAt W9 (T9 + 1) [.int .i64 0, .int .i64 0, .int .i64 0] := by
              have := vat_alloc (w8.alloc (.cells #[.int .i64 kind, .int .i64 reel, .int .i64 sess, .int .i64 idx, .int .i64 len, .int .i64 data, .int .i64 spare, .int .u32 (arch.toNat : Int), .string pay] 26)) 42 [.int .i64 0, .int .i64 0, .int .i64 0]
              rw [World.size_alloc] at this
              rw [← hW9, ← hT9]
              exact this
            have hBa9 : Below WB.heap.size WB W9 := by
              rw [← hW9]
              exact (hB8.alloc hB8.size _).alloc (by have := hB8.size; simp; omega) _
            have hTb9 : WB.heap.size ≤ T9 := by rw [← hT9]; exact hB8.size
            obtain ⟨Wx9, hWx9⟩ : ∃ W, putN (T9 + 1) W9 0 [.int .i64 d, .int .i64 u, .int .i64 n1] = W := ⟨_, rfl⟩
            have hvx9 : VAt Wx9 T9 [.int .i64 kind, .int .i64 reel, .int .i64 sess, .int .i64 idx, .int .i64 len, .int .i64 data, .int .i64 spare, .int .u32 (arch.toNat : Int), .string pay] := by rw [← hWx9]; exact putN_far (by omega) _ 0 _ hv9
            have hqx9 : VAt Wx9 (T9 + 1) [.int .i64 d, .int .i64 u, .int .i64 n1] := by rw [← hWx9]; exact putN_all hq9 rfl
            have hBx9 : Below WB.heap.size WB Wx9 := by rw [← hWx9]; exact putN_below (by omega) _ 0 _ hBa9
            have hbd9 : Below w8.heap.size w8 Wx9 := by rw [← hWx9]; exact putN_below (by omega) _ 0 _ (by rw [← hW9]; exact two_made _ _ _)
            have hsx9 : T9 + 1 < Wx9.heap.size := by rw [← hWx9, putN_size, ← hW9, ← hT9]; simp
            simp only [putN, Nat.zero_add, Nat.reduceAdd] at hWx9
            obtain ⟨p09, p19, p29, p39, p49, p59⟩ := cells3 hq9
            clear hv9 hq9 hBa9 hTb9
            have hfin := Lib.hid (chain hbox.out hBx9)
            obtain ⟨u0, u1, u2, u3, u4, u5, u6, u7, u8, _, _, _, _, _, _, _, _, _⟩ := cells9 hvx9
            obtain ⟨q0, q1, q2, _, _, _⟩ := cells3 hqx9
            obtain ⟨s0, s1, s2, s3, s4, s5, s6, s7, s8, _, _, _, _, _, _, _, _, _⟩ := rule.out Wx9 hBx9
            clear hD cD hb8 hvx9 hqx9 hBw hrowh hdd hB8 hBx9 hsx9 hbd9
            go_wp2
            go_ret
            exact ⟨rfl, hfin.out⟩
      · have d5 : decide ((90 : Int) < (n : Int)) = true := decide_eq_true (by omega)
        go_wp2
        go_ret
        exact ⟨rfl, chain hbox.out hB3⟩
    · obtain ⟨k, hk⟩ : ∃ k, ckE f = k := ⟨_, rfl⟩
      rw [hk] at cC h0
      have d1 : (k != 0) = true := bne_iff_ne.2 h0
      replace cC := Lib.hid cC
      obtain ⟨kind, reel, sess, idx, len, data, spare, arch, pay⟩ := f
      unfold Fr.val Fr.cells at *
      dsimp only at *
      clear h1 hf hp hk h0 hfit
      go_enter Tryz.func8, Tryz.ntmps8
      go_wp2_with fail
      refine (cA.out _).mono ?_
      rintro e w1 ⟨rfl, hb1⟩
      have hv1 := hvB.below hb1 hsB
      have hs1 : w.heap.size < w1.heap.size := Nat.lt_of_lt_of_le hsB hb1.size
      obtain ⟨a0, a1, a2, a3, a4, a5, a6, a7, a8, _, _, _, _, _, _, _, _, _⟩ := cells9 hv1
      go_wp2_with fail
      refine (cL.out _).mono ?_
      rintro e w2 ⟨rfl, hb2⟩
      obtain ⟨b0, b1, b2, b3, b4, b5, b6, b7, b8, _, _, _, _, _, _, _, _, _⟩ := cells9 (hv1.below hb2 hs1)
      go_wp2_with fail
      refine (cC.out _).mono ?_
      rintro e w3 ⟨rfl, hb3⟩
      go_wp2
      go_ret
      exact ⟨rfl, chain hbox (chain hb1 (chain hb2 hb3))⟩
end Go.Proofs.YtgpdfkallgjocaaGreatDoor.F13
