/- The walk of the law FrameScattered, under the package's contracts (written by gen/f13laws.py). -/
import Derived.Test.YtgpdfkallgjocaaGreatDoorF13Law1
import Derived.Test.YtgpdfkallgjocaaGreatDoorF13Near
import Derived.Test.YtgpdfkallgjocaaGreatDoorF13More
import Derived.Test.YtgpdfkallgjocaaGreatDoorM13AA
import Derived.Test.YtgpdfkallgjocaaGreatDoorM13AI
import Derived.Laws.BitsAllLaws
namespace Go.Proofs.YtgpdfkallgjocaaGreatDoor.F13
set_option maxRecDepth 100000
open Go.RowKit Mem
set_option linter.unusedVariables false
set_option linter.unusedSimpArgs false

set_option maxHeartbeats 16000000 in
theorem walk_scattered (D : Dev) (f : Fr) (A : Option Addr) (n cap : Nat) (zs : List Nat) (w : World) (hrow : IsBy w A n cap zs) (hf : Fit f ∨ 200 < f.pay.size) (hp : f.pay.size ≤ 9223372036854775807) :
    Calls Tryz.prog 7 #[f.val, .slice A n cap] w fun e w' => e = .returned (.bool true) ∧ Below w.heap.size w w' := by
  have cA := Lib.hid (fun W => alive_any D W)
  have cL := fun W => toolong_any f W hp
  have hbox : Below w.heap.size w (w.alloc (.cells f.cells 26)) := (Below.refl _ _).alloc (Nat.le_refl _) _
  have hvB : VAt (w.alloc (.cells f.cells 26)) w.heap.size f.cells.toList := vat_alloc w _ f.cells.toList
  have hsB : w.heap.size < (w.alloc (.cells f.cells 26)).heap.size := by simp
  have hrowh := Lib.hid hrow
  clear hrow
  by_cases h1 : 200 < f.pay.size
  · rw [decide_eq_true h1] at cL
    replace cL := Lib.hid cL
    obtain ⟨kind, reel, sess, idx, len, data, spare, arch, pay⟩ := f
    unfold Fr.val Fr.cells at *
    dsimp only at *
    clear h1 hf hp
    go_enter Tryz.func7, Tryz.ntmps7
    go_wp2_with fail
    refine (cA.out _).mono ?_
    rintro e w1 ⟨rfl, hb1⟩
    obtain ⟨a0, a1, a2, a3, a4, a5, a6, a7, a8, _, _, _, _, _, _, _, _, _⟩ := cells9 (hvB.below hb1 hsB)
    go_wp2_with fail
    refine (cL.out _).mono ?_
    rintro e w2 ⟨rfl, hb2⟩
    go_wp2
    go_ret
    exact ⟨rfl, chain hbox (chain hb1 hb2)⟩
  · rw [decide_eq_false h1] at cL
    replace cL := Lib.hid cL
    have hfit : Fit f := hf.resolve_right h1
    have cC := fun W => D.check f W hfit
    by_cases h0 : ckE f = 0
    · have hv := (valid_iff f).1 h0
      have cE := fun W => D.encode f W hfit
      rw [h0] at cC
      have henc : ∀ S, EncQ f S → ∃ W, Word f W ∧ W.size = 52 ∧ S = M12.mkB ++ bodyC W := fun S h => by
        obtain ⟨W, h1, h2⟩ := h.1 h0
        exact ⟨W, h1, h1.size hv, h2⟩
      have hdec := fun (W c : ByteArray) (X : List UInt8) (m e : Nat) (F : Fr) (d u n k : Int) (hW : Word f W) (h1 : Sc (C9.enc (bitsOf W)) X m e) h2 (h : DcQ c F d u n k) => dec_sc (c := c) (X := X) hv hW h1 h2 h
      replace hdec := Lib.hid hdec
      unfold EncP at cE
      rw [h0] at cE
      replace cC := Lib.hid cC
      replace cE := Lib.hid cE
      replace henc := Lib.hid henc
      obtain ⟨E, hE⟩ : ∃ E, EncQ f = E := ⟨_, rfl⟩
      obtain ⟨Wd, hWd⟩ : ∃ E, Word f = E := ⟨_, rfl⟩
      rw [hE] at cE henc
      rw [hWd] at henc hdec
      obtain ⟨WB, hWB⟩ : ∃ W, w.alloc (.cells f.cells 26) = W := ⟨_, rfl⟩
      rw [hWB] at hbox hvB hsB
      obtain ⟨kind, reel, sess, idx, len, data, spare, arch, pay⟩ := f
      unfold Fr.val at cE cC cL ⊢
      unfold Fr.cells at cE cC cL hvB hWB ⊢
      dsimp only at cE cC cL hvB hWB ⊢
      have rule := fun (W : World) (h : Below WB.heap.size WB W) => cells9 (hvB.below h hsB)
      replace rule := Lib.hid rule
      replace hbox := Lib.hid hbox
      clear h1 hf hp h0 hv hE hWd hfit hvB hsB
      go_enter Tryz.func7, Tryz.ntmps7
      go_wp2_with fail
      refine (cA.out _).mono ?_
      rintro e w1 ⟨rfl, hB1⟩
      clear hWB
      obtain ⟨a0, a1, a2, a3, a4, a5, a6, a7, a8, _, _, _, _, _, _, _, _, _⟩ := rule.out w1 hB1
      go_wp2_with fail
      refine (cL.out _).mono ?_
      rintro e w2 ⟨rfl, hb2⟩
      have hB2 := chain hB1 hb2
      clear hB1 hb2 a0 a1 a2 a3 a4 a5 a6 a7 a8
      obtain ⟨a0, a1, a2, a3, a4, a5, a6, a7, a8, _, _, _, _, _, _, _, _, _⟩ := rule.out w2 hB2
      go_wp2_with fail
      refine (cC.out _).mono ?_
      rintro e w3 ⟨rfl, hb3⟩
      have hB3 := chain hB2 hb3
      clear hB2 hb3 a0 a1 a2 a3 a4 a5 a6 a7 a8 cC cL cA
      obtain ⟨a0, a1, a2, a3, a4, a5, a6, a7, a8, _, _, _, _, _, _, _, _, _⟩ := rule.out w3 hB3
      by_cases hn : n ≤ 120
      · have d5 : decide ((120 : Int) < (n : Int)) = false := decide_eq_false (by omega)
        go_wp2_with fail
        refine (cE.out _).mono ?_
        rintro e w4 ⟨S, hS, rfl, hb4⟩
        have hB4 := chain hB3 hb4
        obtain ⟨W, hW, hWs, rfl⟩ := henc.out S hS
        have hex := ext_body W hWs
        have hSs : (M12.mkB ++ bodyC W).size = 852 := by rw [ByteArray.size_append, bodyC_size hWs]; rfl
        have i1 : (16 : Int) ≤ ((M12.mkB ++ bodyC W).size : Int) := by omega
        have i2 : ((M12.mkB ++ bodyC W).size : Int) = 852 := by omega
        clear hb4 hB3 a0 a1 a2 a3 a4 a5 a6 a7 a8 cE henc hS
        have cI := fun W' => I11.dl_own (bodyC W) 8 W' (by rw [bodyC_size hWs]; decide) (by decide) (by decide)
        unfold I11.Dled at cI
        rw [dS_body, show I11.pE 8 = 0 from rfl] at cI
        obtain ⟨L, hL⟩ : ∃ L, C9.sb (C9.enc (bitsOf W)) = L := ⟨_, rfl⟩
        have hLs : L.size = 836 := by rw [← hL, C9.sb_size, encL W hWs]
        have hLl : L.data.toList = C9.cs (C9.enc (bitsOf W)) := by rw [← hL]; rfl
        have hSc0 := Sc.start (C9.enc (bitsOf W))
        rw [← hLl] at hSc0
        have hAl := encL W hWs
        obtain ⟨Ab, hAb⟩ : ∃ A, C9.enc (bitsOf W) = A := ⟨_, rfl⟩
        have hd := fun (c : ByteArray) (X : List UInt8) (m e : Nat) F d u n k (h : Sc Ab X m e) h2 h3 => hdec.out W c X m e F d u n k hW (by rw [hAb]; exact h) h2 h3
        rw [hAb] at hAl hSc0
        rw [hL] at cI
        obtain ⟨Bd, hBd⟩ : ∃ B, bodyC W = B := ⟨_, rfl⟩
        rw [hBd] at cI hex hSs i1 i2 ⊢
        obtain ⟨S, hS2⟩ : ∃ S, M12.mkB ++ Bd = S := ⟨_, rfl⟩
        rw [hS2] at hex hSs i1 i2 ⊢
        replace cI := Lib.hid cI
        replace hd := Lib.hid hd
        clear hBd hS2 hdec hL hLl hAb hW hWs
        go_wp2_with fail
        refine (cI.out _).mono ?_
        rintro e w5 ⟨rfl, hb5⟩
        have hB5 := Lib.hid (chain hB4 hb5)
        clear hB4 hb5 cI hex hSs i1 i2
        obtain ⟨C1, cap1, hcap1, hcv1, hat1⟩ := bytes_of (P := Tryz.prog) w5 (src := 9) (dst := 37) (e := 5) L Tryz.underlying9 Tryz.underlying37 Tryz.underlying5
        obtain ⟨G, hG⟩ : ∃ G, w5.heap.size = G := ⟨_, rfl⟩
        obtain ⟨W6, hW6⟩ : ∃ W, w5.drew.alloc (.cells C1 5 (cap1, cap1 + 1)) = W := ⟨_, rfl⟩
        have hb6 : Below G w5 W6 := by rw [← hW6, ← hG]; exact ((Below.refl w5.heap.size w5).drew).alloc (by simp) _
        have hA6 : BAt W6 G L.data.toList := by rw [← hW6, ← hG]; exact hat1
        have hs6 : G < W6.heap.size := by rw [← hW6, ← hG]; simp
        rw [hW6, hG, hLs] at hcv1
        have hcap2 : 836 ≤ cap1 := by omega
        have hSc0 := Lib.hid hSc0
        have hAl := Lib.hid hAl
        have hA6 := Lib.hid hA6
        have hs6 := Lib.hid hs6
        have hb6 := Lib.hid hb6
        have hGh := Lib.hid hG
        clear hW6 hat1 hcap1 hLs
        go_wp2
        clear hcv1
        go_loopw [10, 11, 49] (fun av nv iv wr => ∃ (k e m : Nat) (a : Int) (X : List UInt8), k ≤ n ∧ iv = .int .i64 (k : Int) ∧ av = .int .i64 a ∧ nv = .int .i64 (m : Int) ∧ Hid (a + 8 = (e : Int)) ∧ Hid (e ≤ 263 * k) ∧ Hid (m ≤ k) ∧ Hid (Sc Ab X m e) ∧ Hid (BAt wr G X) ∧ Hid (G < wr.heap.size) ∧ Hid (Below G w5 wr)) (fun _ _ iv _ => n - (intOf iv).toNat)
        case atStart => exact ⟨0, 0, 0, -8, L.data.toList, Nat.zero_le _, rfl, rfl, rfl, Lib.hid rfl, Lib.hid (Nat.zero_le _), Lib.hid (Nat.zero_le _), hSc0, hA6, hs6, hb6⟩
        case round =>
          clear hSc0 hA6 hs6 hb6
          obtain ⟨k, ee, m, a, X, hk, rfl, rfl, rfl, ha, he, hm, hSc, hAt, hsz, hb⟩ := hrel
          have hXl : Hid (X.length = 836) := Lib.hid (by rw [hSc.out.len]; exact hAl.out)
          have hBw : Hid (Below WB.heap.size WB wr) := Lib.hid (chain hB5.out (by rw [hGh.out]; exact hb.out))
          by_cases hlt : k < n
          · obtain ⟨bb, oo, rfl, hbb, hce, hz8⟩ := (hrowh.out.below (chain hbox.out hBw.out)).read (k := k) hlt
            obtain ⟨z, hz⟩ : ∃ z, zs.getD k 0 = z := ⟨_, rfl⟩
            rw [hz] at hce hz8
            obtain ⟨z8, hz88⟩ : ∃ z8 : Nat, z8 = 8 + z := ⟨_, rfl⟩
            obtain ⟨E, hE⟩ : ∃ E : Nat, E = ee + z := ⟨_, rfl⟩
            have q1 : (8 : Int) + (z : Int) = (z8 : Int) := by omega
            have q2 : a + (z8 : Int) = (E : Int) := by have := ha.out; omega
            have q3 : -8 ≤ a := by have := ha.out; omega
            have q4 : a ≤ 40000 := by have := ha.out; have := he.out; omega
            have q5 : (z : Int) ≤ 255 := by omega
            have q6 : (z8 : Int) ≤ 263 := by omega
            have q7 : (E : Int) ≤ 40000 := by have := he.out; omega
            have k0 : (0 : Int) ≤ (k : Int) := by omega
            have k1 : (k : Int) < (n : Int) := by omega
            have z0 : (0 : Int) ≤ (z : Int) := by omega
            have E0 : (0 : Int) ≤ (E : Int) := by omega
            have dk : decide ((k : Int) < (n : Int)) = true := decide_eq_true (by omega)
            have ha2 : Hid ((E : Int) + 8 = ((E + 8 : Nat) : Int)) := Lib.hid (by omega)
            have he2 : Hid (E + 8 ≤ 263 * (k + 1)) := Lib.hid (by have := he.out; omega)
            have hEe : Hid (ee ≤ E) := Lib.hid (by omega)
            have m1 : (m : Int) ≤ 120 := by have := hm.out; omega
            clear hz hz88 hE ha he
            by_cases hlE : E < 836
            · have dE : decide ((E : Int) < 836) = true := decide_eq_true (by omega)
              have E1 : (E : Int) < 836 := by omega
              have hXE : E < X.length := by rw [hXl.out]; exact hlE
              obtain ⟨o1, o2⟩ := hAt.out E hXE
              have hset := hAt.out.set hXE (X[E] ^^^ 1)
              have hst := hSc.out.step hXE hEe.out
              have hsz2 : Hid (G < (wr.setCell ⟨G, E, none⟩ (.int .u8 ((X[E] ^^^ 1).toNat : Int))).heap.size) := Lib.hid (by simpa using hsz.out)
              have hb2 := Lib.hid (hb.out.setCell (p := ⟨G, E, none⟩) (Nat.le_refl G) (.int .u8 ((X[E] ^^^ 1).toNat : Int)))
              have hx1 : bits .xor .u8 ((X[E]).toNat : Int) 1 = ((X[E] ^^^ 1).toNat : Int) := bxr8 _ 1
              obtain ⟨x, hx⟩ : ∃ x, X[E] = x := ⟨_, rfl⟩
              rw [hx] at o1 hset hst hsz2 hb2 hx1
              have x8 : (x.toNat : Int) ≤ 255 := by have := x.toNat_lt; omega
              replace hset := Lib.hid hset
              replace hst := Lib.hid hst
              have hm2 : Hid (m + 1 ≤ k + 1) := Lib.hid (by have := hm.out; omega)
              clear hx hXE hAt hsz hb hSc hXl hBw hm hEe hbb
              go_wp2
              go_roundw
              case rel => exact ⟨k + 1, E + 8, m + 1, (E : Int), X.set E (x ^^^ 1), by omega, by go_num, rfl, by go_num, ha2, he2, hm2, hst, hset, hsz2, hb2⟩
              case measure => simp [intOf]; omega
            · have dE : decide ((E : Int) < 836) = false := decide_eq_false (by omega)
              have hst := Lib.hid (hSc.out.later (e' := E + 8) (by have := hEe.out; omega))
              have hm2 : Hid (m ≤ k + 1) := Lib.hid (by have := hm.out; omega)
              clear hSc hXl hBw hm hEe hbb
              go_wp2
              go_roundw
              case rel => exact ⟨k + 1, E + 8, m, (E : Int), X, by omega, by go_num, rfl, rfl, ha2, he2, hm2, hst, hAt, hsz, hb⟩
              case measure => simp [intOf]; omega
          · have dk : decide ((k : Int) < (n : Int)) = false := decide_eq_false (by omega)
            have hcv := hAt.out.conv (P := Tryz.prog) (cap := cap1) (n := 836) hXl.out Tryz.underlying37 Tryz.underlying5 Tryz.underlying9
            have hcs : (⟨X.toArray⟩ : ByteArray).size = 836 := hXl.out
            have cJ := fun W' => I11.il_own ⟨X.toArray⟩ 8 W' (by omega) (by decide) (by decide)
            unfold I11.Iled at cJ
            rw [show I11.pE 8 = 0 from rfl] at cJ
            have hds : (I11.iS ⟨X.toArray⟩ 8).size = 836 := by
              show (I11.il 8 X).length = 836
              rw [I11.il_len]
              exact hXl.out
            have cD := fun W' => D.decode (I11.iS ⟨X.toArray⟩ 8) W' (by omega)
            have hdd := fun F d u nn k h => hd.out (I11.iS ⟨X.toArray⟩ 8) X m ee F d u nn k hSc.out rfl h
            obtain ⟨V, hV⟩ : ∃ V : ByteArray, ⟨X.toArray⟩ = V := ⟨_, rfl⟩
            rw [hV] at hcv cJ cD hdd
            obtain ⟨Y, hY⟩ : ∃ Y : ByteArray, I11.iS V 8 = Y := ⟨_, rfl⟩
            rw [hY] at cJ cD hdd
            replace cJ := Lib.hid cJ
            replace cD := Lib.hid cD
            replace hdd := Lib.hid hdd
            clear hSc hAt hsz hb hXl hcs hds hV hY hd
            go_wp2_with fail
            refine (cJ.out _).mono ?_
            rintro e w7 ⟨rfl, hb7⟩
            have hB7 := chain hBw.out hb7
            go_wp2_with fail
            refine (cD.out _).mono ?_
            rintro e w8 ⟨F, d, u, n1, kk, hD, rfl, hb8⟩
            obtain ⟨rfl, rfl, rfl, rfl, rfl⟩ := hdd.out F d u n1 kk hD
            have hB8 := chain hB7 hb8
            unfold Fr.val Fr.cells qV
            dsimp only
            obtain ⟨W9, hW9⟩ : ∃ W, (w8.alloc (.cells #[.int .i64 kind, .int .i64 reel, .int .i64 sess, .int .i64 idx, .int .i64 len, .int .i64 data, .int .i64 spare, .int .u32 (arch.toNat : Int), .string pay] 26)).alloc (.cells #[.int .i64 0, .int .i64 0, .int .i64 0] 42) = W := ⟨_, rfl⟩
            obtain ⟨T9, hT9⟩ : ∃ T, w8.heap.size = T := ⟨_, rfl⟩
            have hv9 : VAt W9 T9 [.int .i64 kind, .int .i64 reel, .int .i64 sess, .int .i64 idx, .int .i64 len, .int .i64 data, .int .i64 spare, .int .u32 (arch.toNat : Int), .string pay] := by
              rw [← hW9, ← hT9]
              exact (vat_alloc w8 26 [.int .i64 kind, .int .i64 reel, .int .i64 sess, .int .i64 idx, .int .i64 len, .int .i64 data, .int .i64 spare, .int .u32 (arch.toNat : Int), .string pay]).below ((Below.refl _ _).alloc (Nat.le_refl _) _) (by simp)
            have hq9 : VAt W9 (T9 + 1) [.int .i64 0, .int .i64 0, .int .i64 0] := by
              have := vat_alloc (w8.alloc (.cells #[.int .i64 kind, .int .i64 reel, .int .i64 sess, .int .i64 idx, .int .i64 len, .int .i64 data, .int .i64 spare, .int .u32 (arch.toNat : Int), .string pay] 26)) 42 [.int .i64 0, .int .i64 0, .int .i64 0]
              rw [World.size_alloc] at this
              rw [← hW9, ← hT9]
              exact this
            have hBa9 : Below WB.heap.size WB W9 := by
              rw [← hW9]
              exact (hB8.alloc hB8.size _).alloc (by have := hB8.size; simp; omega) _
            have hTb9 : WB.heap.size ≤ T9 := by rw [← hT9]; exact hB8.size
            obtain ⟨Wx9, hWx9⟩ : ∃ W, putN (T9 + 1) W9 0 [.int .i64 (m : Int), .int .i64 0, .int .i64 0] = W := ⟨_, rfl⟩
            have hvx9 : VAt Wx9 T9 [.int .i64 kind, .int .i64 reel, .int .i64 sess, .int .i64 idx, .int .i64 len, .int .i64 data, .int .i64 spare, .int .u32 (arch.toNat : Int), .string pay] := by rw [← hWx9]; exact putN_far (by omega) _ 0 _ hv9
            have hqx9 : VAt Wx9 (T9 + 1) [.int .i64 (m : Int), .int .i64 0, .int .i64 0] := by rw [← hWx9]; exact putN_all hq9 rfl
            have hBx9 : Below WB.heap.size WB Wx9 := by rw [← hWx9]; exact putN_below (by omega) _ 0 _ hBa9
            have hbd9 : Below w8.heap.size w8 Wx9 := by rw [← hWx9]; exact putN_below (by omega) _ 0 _ (by rw [← hW9]; exact two_made _ _ _)
            have hsx9 : T9 + 1 < Wx9.heap.size := by rw [← hWx9, putN_size, ← hW9, ← hT9]; simp
            simp only [putN, Nat.zero_add, Nat.reduceAdd] at hWx9
            obtain ⟨p09, p19, p29, p39, p49, p59⟩ := cells3 hq9
            clear hv9 hq9 hBa9 hTb9
            have hfin := Lib.hid (chain hbox.out hBx9)
            obtain ⟨u0, u1, u2, u3, u4, u5, u6, u7, u8, _, _, _, _, _, _, _, _, _⟩ := cells9 hvx9
            obtain ⟨q0, q1, q2, _, _, _⟩ := cells3 hqx9
            obtain ⟨s0, s1, s2, s3, s4, s5, s6, s7, s8, _, _, _, _, _, _, _, _, _⟩ := rule.out Wx9 hBx9
            clear hD cD cJ hB7 hb7 hb8 hvx9 hqx9 hBw ha he hm hrowh hdd hB8 hBx9 hsx9 hbd9
            go_wp2
            go_ret
            exact ⟨rfl, hfin.out⟩
      · have d5 : decide ((120 : Int) < (n : Int)) = true := decide_eq_true (by omega)
        go_wp2
        go_ret
        exact ⟨rfl, chain hbox.out hB3⟩
    · obtain ⟨k, hk⟩ : ∃ k, ckE f = k := ⟨_, rfl⟩
      rw [hk] at cC h0
      have d1 : (k != 0) = true := bne_iff_ne.2 h0
      replace cC := Lib.hid cC
      obtain ⟨kind, reel, sess, idx, len, data, spare, arch, pay⟩ := f
      unfold Fr.val Fr.cells at *
      dsimp only at *
      clear h1 hf hp hk h0 hfit
      go_enter Tryz.func7, Tryz.ntmps7
      go_wp2_with fail
      refine (cA.out _).mono ?_
      rintro e w1 ⟨rfl, hb1⟩
      have hv1 := hvB.below hb1 hsB
      have hs1 : w.heap.size < w1.heap.size := Nat.lt_of_lt_of_le hsB hb1.size
      obtain ⟨a0, a1, a2, a3, a4, a5, a6, a7, a8, _, _, _, _, _, _, _, _, _⟩ := cells9 hv1
      go_wp2_with fail
      refine (cL.out _).mono ?_
      rintro e w2 ⟨rfl, hb2⟩
      obtain ⟨b0, b1, b2, b3, b4, b5, b6, b7, b8, _, _, _, _, _, _, _, _, _⟩ := cells9 (hv1.below hb2 hs1)
      go_wp2_with fail
      refine (cC.out _).mono ?_
      rintro e w3 ⟨rfl, hb3⟩
      go_wp2
      go_ret
      exact ⟨rfl, chain hbox (chain hb1 (chain hb2 hb3))⟩
end Go.Proofs.YtgpdfkallgjocaaGreatDoor.F13
