/- The walk of the law ScanDamage. -/
import Derived.Test.YtiodkllckcpinaaGreatDoorS14Awake
import Derived.Test.YtiodkllckcpinaaGreatDoorS14Law3
import Derived.Test.YtiodkllckcpinaaGreatDoorS14Cells
set_option linter.unusedVariables false
set_option linter.unusedSimpArgs false
set_option maxRecDepth 100000
namespace Go.Proofs.YtiodkllckcpinaaGreatDoor
namespace S14
open Go.RowKit Mem F13

theorem two_boxes (W : World) (T1 T2 : TypeId) (l1 l2 : List Value) : ∃ WC, World.drew ((W.alloc (.cells l1.toArray T1)).alloc (.cells l2.toArray T2)) = WC ∧ VAt WC W.heap.size l1 ∧ VAt WC (W.heap.size + 1) l2 ∧ W.heap.size < WC.heap.size ∧ W.heap.size + 1 < WC.heap.size ∧ Below W.heap.size W WC := by
 refine ⟨_, rfl, ?_, ?_, ?_, ?_, ?_⟩
 ·exact (vat_alloc W T1 l1).below (chainN ((Below.refl _ _).alloc (Nat.le_refl _) _) 1) (by simp)
 ·have h := vat_alloc (W.alloc (.cells l1.toArray T1)) T2 l2
  rw [show (W.alloc (.cells l1.toArray T1)).heap.size = W.heap.size + 1 by simp] at h
  exact h.below (chainN (Below.refl _ _) 1) (by simp)
 ·show W.heap.size < ((W.alloc (.cells l1.toArray T1)).alloc (.cells l2.toArray T2)).heap.size
  simp
  try omega
 ·show W.heap.size + 1 < ((W.alloc (.cells l1.toArray T1)).alloc (.cells l2.toArray T2)).heap.size
  simp
  try omega
 ·have h1 := (Below.refl W.heap.size W).alloc (Nat.le_refl _) (.cells l1.toArray T1)
  exact chainN (h1.alloc h1.size (.cells l2.toArray T2)) 1
theorem xor_one (x : UInt8) : bits .xor .u8 (x.toNat : Int) 1 = ((x ^^^ 1).toNat : Int) := by
 have h : ∀ n : Fin 256, bits .xor .u8 ((UInt8.ofNat n.1).toNat : Int) 1 = (((UInt8.ofNat n.1) ^^^ 1).toNat : Int) := by decide +kernel
 have := h ⟨x.toNat, x.toNat_lt⟩
 simpa using this
theorem flip_step {w : World} {g : Nat} {l : List UInt8} (h : BAt w g l) {k : Nat} (hk : k < l.length) : BAt (w.setCell ⟨g, k, none⟩ (.int .u8 (bits .xor .u8 ((l[k]'hk).toNat : Int) 1))) g (flip l k) := by
 have e : l.getD k 0 = l[k] := by simp [List.getD_eq_getElem?_getD, hk]
 unfold flip
 rw [xor_one, e]
 exact h.set hk _
theorem conv_at {P : Program} {w : World} {g cap n o : Nat} {src dst e : TypeId} {l : List UInt8} (h : BAt w g l) (hn : o + n ≤ l.length) (hs : P.underlying src = some (.slice e)) (he : P.underlying e = some (.int .u8)) (hd : P.underlying dst = some .string) :
  (convert src dst (.slice (some ⟨g, o, none⟩) n cap)).run P w = .ok (.string ⟨((l.drop o).take n).toArray⟩) w := by
 have hl : ((l.drop o).take n).length = n := by rw [List.length_take, List.length_drop]; omega
 have h2 := run_convert_bytes_back w src dst e ⟨g, o, none⟩ cap ((l.drop o).take n) hs he hd fun j hj => by
  rw [hl] at hj
  have h3 := (h (o + j) (by omega)).1
  rw [List.getElem_take, List.getElem_drop, show (⟨g, o, none⟩ : Addr).add j = ⟨g, o + j, none⟩ by by_cases h : j = 0 <;> simp [Addr.add, h]]
  exact h3
 rw [hl] at h2
 exact h2
def flN (L : List UInt8) (a b : Nat) : Nat → List UInt8
 | 0 => L
 | 1 => flip L a
 | _ => flip (flip L a) b
theorem flN_len (L : List UInt8) (a b k : Nat) : (flN L a b k).length = L.length := by
 match k with
 | 0 => rfl
 | 1 => exact flip_len _ _
 | _ + 2 => exact (flip_len _ _).trans (flip_len _ _)
theorem flip_app (m b : List UInt8) {i : Nat} (h : i < m.length) : flip (m ++ b) i = flip m i ++ b := by
 unfold flip
 rw [List.set_append_left _ _ h, List.getD_eq_getElem?_getD, List.getD_eq_getElem?_getD, List.getElem?_append_left h]
def Front (X B : List UInt8) : Prop := ∃ m, X = m ++ B ∧ m.length = 16 ∧ M12.ds m 0 ≤ 2
theorem front_mark (B : List UInt8) : Front (M12.mk ++ B) B := ⟨M12.mk, rfl, M12.mk_len, by rw [ds_mark]; omega⟩
theorem front_flips {B : List UInt8} {i j : Nat} (hi : i < 16) (hj : j < 16) : Front (flN (M12.mk ++ B) i j 2) B := by
 refine ⟨flip (flip M12.mk i) j, ?_, by rw [flip_len, flip_len]; exact M12.mk_len, two_flips ⟨i, hi⟩ ⟨j, hj⟩⟩
 show flip (flip _ i) j = _
 rw [flip_app _ _ (by rw [M12.mk_len]; exact hi), flip_app _ _ (by rw [flip_len, M12.mk_len]; exact hj)]
theorem damage_one {f : Fr} {W : ByteArray} {X : List UInt8} {Y : ByteArray} {a n : Nat} (hv : Valid f) (hW : Word f W) (hX : Front X (bodyC W).data.toList) (hn : n ≤ 90) (hD : Dm ((X.drop 16).take 836) Y.data.toList a n) {l : List Sg} (hl : Scan (⟨((X.drop 0).take 16).toArray⟩ ++ Y) 0 l) : ∃ d u k, l = [⟨0, f, d, u, k⟩] ∧ True := by
 obtain ⟨m, hXm, hm, hd⟩ := hX
 have hb := body_len (hW.size hv)
 have e1 : (X.drop 16).take 836 = (bodyC W).data.toList := by
  rw [hXm, List.drop_left' hm, List.take_of_length_le (by omega)]
 have e2 : (X.drop 0).take 16 = m := by rw [List.drop_zero, hXm, List.take_left' hm]
 rw [e1] at hD
 have hok : (bodyC W).data.toList.all C9.okC = true := by
  rw [List.all_eq_true]
  intro x hx
  rcases body_bits W x hx with rfl | rfl <;> rfl
 obtain ⟨h1, h2, h3⟩ := damaged_dec hv hW (hD.dm hok) hn
 obtain ⟨d, u, k, rfl, _⟩ := one_sighting (f := f) hm (show Y.data.toList.length ≤ 836 by omega) (by rw [app_list, e2]) hd h2 h3 hl
 exact ⟨d, u, k, rfl, trivial⟩
set_option maxHeartbeats 16000000 in
theorem walk_damage (f : Fr) (m0 m1 a ln y : Nat) (w : World) (hf : FitB f) (hm0 : m0 ≤ 255) (hm1 : m1 ≤ 255) (ha : a ≤ 65535) (hln : ln ≤ 65535) (hy : y ≤ 255) :
  Calls Tryz.prog 7 #[.agg (f.cells ++ #[.int .u8 (m0 : Int), .int .u8 (m1 : Int), .int .u16 (a : Int), .int .u16 (ln : Int), .int .u8 (y : Int)])] w fun e w' => e = .returned (.bool true) ∧ Below w.heap.size w w' := by
 have cA := Lib.hid (fun W => awake_any W)
 have cE := fun W => encode_own f W (fitOf hf)
 obtain ⟨kind, reel, sess, idx, len, data, spare, arch, pay⟩ := f
 unfold EncP at cE
 obtain ⟨FF, hFF⟩ : ∃ F : Fr, (⟨kind, reel, sess, idx, len, data, spare, arch, pay⟩ : Fr) = F := ⟨_, rfl⟩
 have hval : FF.val = .agg #[.int .i64 kind, .int .i64 reel, .int .i64 sess, .int .i64 idx, .int .i64 len, .int .i64 data, .int .i64 spare, .int .u32 (arch.toNat : Int), .string pay] := by rw [← hFF]; rfl
 rw [hFF] at cE
 rw [hval] at cE
 unfold Fr.cells
 show Calls _ _ #[.agg #[.int .i64 kind, .int .i64 reel, .int .i64 sess, .int .i64 idx, .int .i64 len, .int .i64 data, .int .i64 spare, .int .u32 (arch.toNat : Int), .string pay, .int .u8 (m0 : Int), .int .u8 (m1 : Int), .int .u16 (a : Int), .int .u16 (ln : Int), .int .u8 (y : Int)]] _ _
 have hvB := vat_alloc w 51 [.int .i64 kind, .int .i64 reel, .int .i64 sess, .int .i64 idx, .int .i64 len, .int .i64 data, .int .i64 spare, .int .u32 (arch.toNat : Int), .string pay, .int .u8 (m0 : Int), .int .u8 (m1 : Int), .int .u16 (a : Int), .int .u16 (ln : Int), .int .u8 (y : Int)]
 obtain ⟨WB, hWB⟩ : ∃ W, w.alloc (.cells #[.int .i64 kind, .int .i64 reel, .int .i64 sess, .int .i64 idx, .int .i64 len, .int .i64 data, .int .i64 spare, .int .u32 (arch.toNat : Int), .string pay, .int .u8 (m0 : Int), .int .u8 (m1 : Int), .int .u16 (a : Int), .int .u16 (ln : Int), .int .u8 (y : Int)] 51) = W := ⟨_, rfl⟩
 have hsB : w.heap.size < WB.heap.size := by rw [← hWB]; simp
 have hbox : Below w.heap.size w WB := by rw [← hWB]; exact (Below.refl _ _).alloc (Nat.le_refl _) _
 rw [show w.alloc (.cells ([.int .i64 kind, .int .i64 reel, .int .i64 sess, .int .i64 idx, .int .i64 len, .int .i64 data, .int .i64 spare, .int .u32 (arch.toNat : Int), .string pay, .int .u8 (m0 : Int), .int .u8 (m1 : Int), .int .u16 (a : Int), .int .u16 (ln : Int), .int .u8 (y : Int)] : List Value).toArray 51) = WB from hWB] at hvB
 have rule := fun (W : World) (h : Below WB.heap.size WB W) => cells14 (hvB.below h hsB)
 replace rule := Lib.hid rule
 obtain ⟨p0, p1, p2, p3, p4, p5, p6, p7, p8, p9, pa, pb, pc, pd⟩ := rule.out WB (Below.refl _ _)
 go_enter Tryz.func7, Tryz.ntmps7
 go_wp2
 go_region
 all_goals first
 |(
  obtain ⟨WC, hWC, hv3, hv4, h3, h4, hBC⟩ := two_boxes WB 44 49 [.int .i64 kind, .int .i64 reel, .int .i64 sess, .int .i64 idx, .int .i64 len, .int .i64 data, .int .i64 spare, .int .u32 (arch.toNat : Int), .string pay] [.int .u8 (m0 : Int), .int .u8 (m1 : Int)]
  rw [show World.drew ((WB.alloc (.cells #[.int .i64 kind, .int .i64 reel, .int .i64 sess, .int .i64 idx, .int .i64 len, .int .i64 data, .int .i64 spare, .int .u32 (arch.toNat : Int), .string pay] 44)).alloc (.cells #[.int .u8 (m0 : Int), .int .u8 (m1 : Int)] 49)) = WC from hWC]
  obtain ⟨P3, hP3⟩ : ∃ P, WB.heap.size = P := ⟨_, rfl⟩
  obtain ⟨P4, hP4⟩ : ∃ P, WB.heap.size + 1 = P := ⟨_, rfl⟩
  rw [hP4] at hv4 h4 ⊢
  have rule0 := fun (W : World) (h : Below WC.heap.size WC W) => rule.out W (chain hBC h)
  have hB1 := Lib.hid (chain hbox hBC)
  rw [hP3] at hv3 h3 ⊢
  clear hWC hP3 hP4 hBC hbox rule p0 p1 p2 p3 p4 p5 p6 p7 p8 p9 pa pb pc pd hvB hWB hsB)
 |(
  obtain ⟨WC, hWC, hv4, hv3, h4, h3, hBC⟩ := two_boxes WB 49 44 [.int .u8 (m0 : Int), .int .u8 (m1 : Int)] [.int .i64 kind, .int .i64 reel, .int .i64 sess, .int .i64 idx, .int .i64 len, .int .i64 data, .int .i64 spare, .int .u32 (arch.toNat : Int), .string pay]
  rw [show World.drew ((WB.alloc (.cells #[.int .u8 (m0 : Int), .int .u8 (m1 : Int)] 49)).alloc (.cells #[.int .i64 kind, .int .i64 reel, .int .i64 sess, .int .i64 idx, .int .i64 len, .int .i64 data, .int .i64 spare, .int .u32 (arch.toNat : Int), .string pay] 44)) = WC from hWC]
  obtain ⟨P4, hP4⟩ : ∃ P, WB.heap.size = P := ⟨_, rfl⟩
  obtain ⟨P3, hP3⟩ : ∃ P, WB.heap.size + 1 = P := ⟨_, rfl⟩
  rw [hP3] at hv3 h3 ⊢
  have rule0 := fun (W : World) (h : Below WC.heap.size WC W) => rule.out W (chain hBC h)
  have hB1 := Lib.hid (chain hbox hBC)
  rw [hP4] at hv4 h4 ⊢
  clear hWC hP3 hP4 hBC hbox rule p0 p1 p2 p3 p4 p5 p6 p7 p8 p9 pa pb pc pd hvB hWB hsB)
 all_goals
  have rule3 := fun (W : World) (h : Below WC.heap.size WC W) => cells9 (hv3.below h h3)
  have rule4 := fun (W : World) (h : Below WC.heap.size WC W) => (And.intro ((hv4.below h h4) 0 (show 0 < 2 by decide)).1 ((hv4.below h h4) 1 (show 1 < 2 by decide)).1 : W.cell? ⟨P4, 0, none⟩ = some (.int .u8 (m0 : Int)) ∧ W.cell? ⟨P4, 1, none⟩ = some (.int .u8 (m1 : Int)))
  obtain ⟨a0, a1, a2, a3, a4, a5, a6, a7, a8, _, _, _, _, _, _, _, _, _⟩ := rule3 WC (Below.refl _ _)
  replace rule0 := Lib.hid rule0
  replace rule3 := Lib.hid rule3
  replace rule4 := Lib.hid rule4
  replace cE := Lib.hid cE
  clear hv3 hv4 h3 h4
  by_cases h0 : ckE FF = 0
  ·have hv := (valid_iff FF).1 h0
   have henc : ∀ S, EncQ FF S → ∃ W, Word FF W ∧ W.size = 52 ∧ S = M12.mkB ++ bodyC W := fun S h => by
    obtain ⟨W, h1, h2⟩ := h.1 h0
    exact ⟨W, h1, h1.size hv, h2⟩
   replace henc := Lib.hid henc
   replace hv := Lib.hid hv
   replace h0 := Lib.hid h0
   replace hval := Lib.hid hval
   replace hFF := Lib.hid hFF
   clear hf
   go_wp2_with fail
   refine (cE.out _).mono ?_
   rintro e w1 ⟨S, hS, rfl, hb1⟩
   rw [h0.out]
   obtain ⟨W, hW, hWs, hSW⟩ := henc.out S hS
   have hSs : S.size = 852 := by rw [hSW]; exact (enc_list hWs).1
   have hSl : S.data.toList = M12.mk ++ (bodyC W).data.toList := by rw [hSW]; exact (enc_list hWs).2
   have s1 : (S.size : Int) = 852 := by omega
   obtain ⟨C1, cap1, hcap1, hcv1, hat1⟩ := bytes_of (P := Tryz.prog) w1 (src := 9) (dst := 53) (e := 5) S Tryz.underlying9 Tryz.underlying53 Tryz.underlying5
   obtain ⟨G, hG⟩ : ∃ G, w1.heap.size = G := ⟨_, rfl⟩
   obtain ⟨W6, hW6⟩ : ∃ W, w1.drew.alloc (.cells C1 5 (cap1, cap1 + 1)) = W := ⟨_, rfl⟩
   have hb6 : Below G w1 W6 := by rw [← hW6, ← hG]; exact ((Below.refl w1.heap.size w1).drew).alloc (by simp) _
   have hA6 : BAt W6 G S.data.toList := by rw [← hW6, ← hG]; exact hat1
   have hs6 : G < W6.heap.size := by rw [← hW6, ← hG]; simp
   rw [hW6, hG, hSs] at hcv1
   rw [hSs] at hcap1
   have hBW : Below WC.heap.size WC W6 := by rw [← hG] at hb6; exact chain hb1 hb6
   obtain ⟨n0, n1⟩ := rule4.out W6 hBW
   obtain ⟨L, hL⟩ : ∃ L, S.data.toList = L := ⟨_, rfl⟩
   have hLe := Lib.hid hL
   rw [hL] at hA6 hSl
   have hLl : L.length = 852 := by rw [← hL]; simpa using hSs
   have hb1h := Lib.hid hb1
   replace hb6 := Lib.hid hb6
   replace hA6 := Lib.hid hA6
   replace hs6 := Lib.hid hs6
   replace hSl := Lib.hid hSl
   replace hW := Lib.hid hW
   replace hWs := Lib.hid hWs
   have hGh := Lib.hid hG
   obtain ⟨q0, hq0⟩ : ∃ q : Nat, q = m0 % 16 := ⟨_, rfl⟩
   obtain ⟨q1, hq1⟩ : ∃ q : Nat, q = m1 % 16 := ⟨_, rfl⟩
   have x0 : (m0 : Int) % 16 = (q0 : Int) := by omega
   have x1 : (m1 : Int) % 16 = (q1 : Int) := by omega
   have x2 : (m0 : Int).tmod 16 = (q0 : Int) := by rw [Int.tmod_eq_emod_of_nonneg (by omega)]; exact x0
   have x3 : (m1 : Int).tmod 16 = (q1 : Int) := by rw [Int.tmod_eq_emod_of_nonneg (by omega)]; exact x1
   have q0b : q0 < 16 := by omega
   have q1b : q1 < 16 := by omega
   have x4 : (q0 : Int) < 16 := by omega
   have x5 : (q1 : Int) < 16 := by omega
   have x6 : (m0 : Int) ≤ 255 := by omega
   have x7 : (m1 : Int) ≤ 255 := by omega
   clear hat1 hW6 hL hb1 hBW hS hSW hSs hG a0 a1 a2 a3 a4 a5 a6 a7 a8 hq0 hq1 cE henc
   go_wp2
   clear hcv1
   go_loopw [30] (fun iv wr => ∃ (k : Nat) (X : List UInt8), iv = .int .i64 (k : Int) ∧ k ≤ 2 ∧ Hid (X = flN L q0 q1 k) ∧ Hid (BAt wr G X) ∧ Hid (G < wr.heap.size) ∧ Hid (Below G w1 wr)) (fun iv _ => 2 - (intOf iv).toNat)
   case atStart => exact ⟨0, L, rfl, Nat.zero_le _, Lib.hid rfl, hA6, hs6, hb6⟩
   case round =>
    clear hA6 hs6 hb6
    obtain ⟨k, X, rfl, hk, hX, hAt, hsz, hb⟩ := hrel
    by_cases hlt : k < 2
    ·rcases (show k = 0 ∨ k = 1 by omega) with rfl | rfl
     ·have hKX : q0 < X.length := by rw [hX.out, flN_len]; omega
      obtain ⟨o1, o2⟩ := hAt.out q0 hKX
      have hst := flip_step hAt.out hKX
      obtain ⟨ob, hob⟩ : ∃ v : Nat, (X[q0]'hKX).toNat = v := ⟨_, rfl⟩
      rw [hob] at o1 hst
      have ix : ∀ W, (Instr.index 49 (.agg #[.int .u8 (m0 : Int), .int .u8 (m1 : Int)]) (.int .i64 0)).run Tryz.prog W = .ok (.int .u8 (m0 : Int)) W := fun W => rfl
      have kS : (q0 : Int) < 852 := by omega
      have hX2 : flip X q0 = flN L q0 q1 1 := by rw [hX.out]; rfl
      have hsz2 := fun v => Lib.hid (show G < (wr.setCell ⟨G, q0, none⟩ v).heap.size by simpa using hsz.out)
      have hb2 := fun v => Lib.hid (hb.out.setCell (p := ⟨G, q0, none⟩) (Nat.le_refl G) v)
      replace hsz2 := Lib.hid hsz2
      replace hb2 := Lib.hid hb2
      replace hst := Lib.hid hst
      clear hob hKX hAt hsz hb hX
      go_wp2
      go_roundw
      case rel => exact ⟨1, _, rfl, by omega, Lib.hid hX2, hst, hsz2.out _, hb2.out _⟩
      case measure => simp [intOf]
     ·have hKX : q1 < X.length := by rw [hX.out, flN_len]; omega
      obtain ⟨o1, o2⟩ := hAt.out q1 hKX
      have hst := flip_step hAt.out hKX
      obtain ⟨ob, hob⟩ : ∃ v : Nat, (X[q1]'hKX).toNat = v := ⟨_, rfl⟩
      rw [hob] at o1 hst
      have ix : ∀ W, (Instr.index 49 (.agg #[.int .u8 (m0 : Int), .int .u8 (m1 : Int)]) (.int .i64 1)).run Tryz.prog W = .ok (.int .u8 (m1 : Int)) W := fun W => rfl
      have kS : (q1 : Int) < 852 := by omega
      have hX2 : flip X q1 = flN L q0 q1 2 := by rw [hX.out]; rfl
      have hsz2 := fun v => Lib.hid (show G < (wr.setCell ⟨G, q1, none⟩ v).heap.size by simpa using hsz.out)
      have hb2 := fun v => Lib.hid (hb.out.setCell (p := ⟨G, q1, none⟩) (Nat.le_refl G) v)
      replace hsz2 := Lib.hid hsz2
      replace hb2 := Lib.hid hb2
      replace hst := Lib.hid hst
      clear hob hKX hAt hsz hb hX
      go_wp2
      go_roundw
      case rel => exact ⟨2, _, rfl, by omega, Lib.hid hX2, hst, hsz2.out _, hb2.out _⟩
      case measure => simp [intOf]
    ·obtain rfl : k = 2 := by omega
     have hBwr : Below WC.heap.size WC wr := by
      have h := hb.out
      rw [← hGh.out] at h
      exact chain hb1h.out h
     obtain ⟨t0, t1⟩ := rule4.out wr hBwr
     by_cases hqq : q0 = q1
     case' pos =>
      have dq : decide ((q0 : Int) = (q1 : Int)) = true := decide_eq_true (by omega)
      have dq2 : (q0 : Int) = (q1 : Int) := by omega
      obtain ⟨C2, cap2, hcap2, hcv2, hat2⟩ := bytes_of (P := Tryz.prog) wr (src := 9) (dst := 53) (e := 5) S Tryz.underlying9 Tryz.underlying53 Tryz.underlying5
      have hBwh := Lib.hid hBwr
      clear hX hAt hsz hb hlt hBwr
      obtain ⟨g, hg⟩ : ∃ g, wr.heap.size = g := ⟨_, rfl⟩
      obtain ⟨wT, hwT⟩ : ∃ W, wr.drew.alloc (.cells C2 5 (cap2, cap2 + 1)) = W := ⟨_, rfl⟩
      have hbT : Below g wr wT := by rw [← hwT, ← hg]; exact ((Below.refl wr.heap.size wr).drew).alloc (by simp) _
      have hAX : BAt wT g S.data.toList := by rw [← hwT, ← hg]; exact hat2
      have hgl : g < wT.heap.size := by rw [← hwT, ← hg]; simp
      have sN : S.size = 852 := by omega
      rw [hwT, hg, sN] at hcv2
      rw [sN] at hcap2
      have hBT := Lib.hid (show Below WC.heap.size WC wT by rw [← hg] at hbT; exact chain hBwh.out hbT)
      have hXf : Front S.data.toList (bodyC W).data.toList := by rw [hLe.out, hSl.out]; exact front_mark _
      obtain ⟨X2, hX2⟩ : ∃ X, S.data.toList = X := ⟨_, rfl⟩
      rw [hX2] at hAX hXf
      have hXl : X2.length = 852 := by rw [← hX2]; simpa using sN
      obtain ⟨cp, hcp⟩ : ∃ c, cap2 = c := ⟨_, rfl⟩
      have hcapX := hcap2
      rw [hcp] at hcv2 hcapX
      clear hat2 hwT hg hbT hX2 hBwh hcap2 sN
      go_wp2
      clear hcv2
     case' neg =>
      have dq : decide ((q0 : Int) = (q1 : Int)) = false := decide_eq_false (by omega)
      have dq2 : ¬ (q0 : Int) = (q1 : Int) := by omega
      have hBwh := Lib.hid hBwr
      obtain ⟨g, hg⟩ : ∃ g, G = g := ⟨_, rfl⟩
      obtain ⟨wT, hwT⟩ : ∃ W, wr = W := ⟨_, rfl⟩
      have hXf : Front X (bodyC W).data.toList := by rw [hX.out, hSl.out]; exact front_flips q0b q1b
      have hXl : X.length = 852 := by rw [hX.out, flN_len]; exact hLl
      obtain ⟨X2, hX2⟩ : ∃ X', X = X' := ⟨_, rfl⟩
      have hAX := hAt.out
      have hgl := hsz.out
      have hBT := Lib.hid hBwh.out
      rw [hX2] at hAX hXf hXl
      rw [hg] at hAX hgl ⊢
      rw [hwT] at hAX hgl hBT t0 t1 ⊢
      obtain ⟨cp, hcp⟩ : ∃ c, cap1 = c := ⟨_, rfl⟩
      have hcapX := hcap1
      rw [hcp] at hcapX ⊢
      clear hlt hBwr hX hAt hsz hb hX2 hBwh
      go_wp2
     all_goals
      obtain ⟨qn, hqn⟩ : ∃ q : Nat, q = ln % 91 := ⟨_, rfl⟩
      have y1 : (ln : Int) % 91 = (qn : Int) := by omega
      have y2 : (ln : Int).tmod 91 = (qn : Int) := by rw [Int.tmod_eq_emod_of_nonneg (by omega)]; exact y1
      have y3 : qn ≤ 90 := by omega
      have v1 : IntKind.i64.wrap (a : Int) = (a : Int) := IntWalk.i64_in _ (by omega)
      have v2 : IntKind.i64.wrap (ln : Int) = (ln : Int) := IntWalk.i64_in _ (by omega)
      have v3 : (a : Int) ≤ 65535 := by omega
      have v4 : (ln : Int) ≤ 65535 := by omega
      have v5 : (y : Int) ≤ 255 := by omega
      have cv1 := fun (W : World) (h : Below wT.heap.size wT W) => conv_at (P := Tryz.prog) (src := 53) (dst := 9) (cap := cp - 16) (n := 836) (o := 16) (hAX.below h hgl) (by omega) Tryz.underlying53 Tryz.underlying5 Tryz.underlying9
      have cv2 := fun (W : World) (h : Below wT.heap.size wT W) => conv_at (P := Tryz.prog) (src := 53) (dst := 9) (cap := cp) (n := 16) (o := 0) (hAX.below h hgl) (by omega) Tryz.underlying53 Tryz.underlying5 Tryz.underlying9
      have hC16s : (⟨((X2.drop 16).take 836).toArray⟩ : ByteArray).size = 836 := by
       show (((X2.drop 16).take 836).toArray).size = 836
       rw [List.size_toArray, List.length_take, List.length_drop]
       omega
      have hC0s : (⟨((X2.drop 0).take 16).toArray⟩ : ByteArray).size = 16 := by
       show (((X2.drop 0).take 16).toArray).size = 16
       rw [List.size_toArray, List.length_take, List.length_drop]
       omega
      have hone := fun (Y : ByteArray) (hD : Dm ((X2.drop 16).take 836) Y.data.toList (a % 836) qn) (l : List Sg) => damage_one (l := l) hv.out hW.out hXf y3 hD
      have cD := fun W => damaged_any (⟨((X2.drop 16).take 836).toArray⟩) a qn y W (by omega) (by omega) (by omega) (by omega) (by omega)
      rw [hC16s] at cD
      obtain ⟨C16, hC16⟩ : ∃ C : ByteArray, (⟨((X2.drop 16).take 836).toArray⟩ : ByteArray) = C := ⟨_, rfl⟩
      obtain ⟨C0, hC0⟩ : ∃ C : ByteArray, (⟨((X2.drop 0).take 16).toArray⟩ : ByteArray) = C := ⟨_, rfl⟩
      have hone2 : ∀ (Y : ByteArray), Dm C16.data.toList Y.data.toList (a % 836) qn → ∀ (l : List Sg), Scan (C0 ++ Y) 0 l → ∃ d u k, l = [⟨0, FF, d, u, k⟩] ∧ True := by
       rw [← hC16, ← hC0]
       exact hone
      rw [hC16] at cD hC16s
      rw [hC0] at hC0s
      simp only [hC16] at cv1
      simp only [hC0] at cv2
      have kb := fun (W : World) (h : Below wT.heap.size wT W) => (rule0.out W (chain hBT.out h)).cb
      have kc := fun (W : World) (h : Below wT.heap.size wT W) => (rule0.out W (chain hBT.out h)).cc
      have kd := fun (W : World) (h : Below wT.heap.size wT W) => (rule0.out W (chain hBT.out h)).cd
      have keep0 := Below.refl wT.heap.size wT
      have keep1 : ∀ W, Below wT.heap.size wT W → Below wT.heap.size wT (World.drew W) := fun W h => chainN h 1
      have hcI : (852 : Int) ≤ (cp : Int) := by omega
      have hcn : ¬ cp = 16 := by omega
      replace cD := Lib.hid cD
      replace hone2 := Lib.hid hone2
      clear hone hqn hC16 hC0 hXf hXl hAX hgl t0 t1 dq dq2 x0 x1 x2 x3 x4 x5 x6 x7 q0b q1b
      go_region_held3 (fun W => Below wT.heap.size wT W) (first | exact keep0 | exact keep1 _ keep0 | exact chain ‹_› ‹_› | assumption) (first | (go_at_call 22; (with_reducible refine (cD.out _).mono ?_); rintro e3 w10 ⟨Y, hY, rfl, hb3⟩))
      have hBY : Below wT.heap.size wT w10 := by assumption
      have hYs : Y.size = 836 := by
       have h1 := hY.len
       have e1 : Y.data.toList.length = Y.size := by simp
       have e2 : C16.data.toList.length = C16.size := by simp
       omega
      have ad := add_eq C0 Y (by omega)
      have cv3 := cv2 w10 hBY
      have cP := fun W => piece_single (C0 ++ Y) W (by rw [ByteArray.size_append]; omega) (f := FF) (R := fun _ _ _ => True) (hone2.out Y hY)
      obtain ⟨Z, hZ⟩ : ∃ Z, C0 ++ Y = Z := ⟨_, rfl⟩
      rw [hZ] at cP ad
      rw [← hFF.out] at cP
      dsimp only at cP
      replace cP := Lib.hid cP
      have hB10 := Lib.hid (chain hBT.out hBY)
      clear hY hYs hZ hBY hone2 hb3 kb kc kd keep0 keep1 cv1 cv2 cD hC16s hC0s v1 v2 v3 v4 v5 y1 y2
      go_wp2_with fail
      refine (cP.out _).mono ?_
      rintro e w11 ⟨gg, capg, d, u, k, _, rfl, hgl, hc14, hb11⟩
      have hB11 := Lib.hid (chain hB10.out hb11)
      have y0 := fun (W : World) (h : Below w11.heap.size w11 W) => (h.cell (p := ⟨gg, 0, none⟩) hgl).trans hc14.c0
      have y1 := fun (W : World) (h : Below w11.heap.size w11 W) => (h.cell (p := ⟨gg, 1, none⟩) hgl).trans hc14.c1
      have y2 := fun (W : World) (h : Below w11.heap.size w11 W) => (h.cell (p := ⟨gg, 2, none⟩) hgl).trans hc14.c2
      have y3 := fun (W : World) (h : Below w11.heap.size w11 W) => (h.cell (p := ⟨gg, 3, none⟩) hgl).trans hc14.c3
      have y4 := fun (W : World) (h : Below w11.heap.size w11 W) => (h.cell (p := ⟨gg, 4, none⟩) hgl).trans hc14.c4
      have y5 := fun (W : World) (h : Below w11.heap.size w11 W) => (h.cell (p := ⟨gg, 5, none⟩) hgl).trans hc14.c5
      have y6 := fun (W : World) (h : Below w11.heap.size w11 W) => (h.cell (p := ⟨gg, 6, none⟩) hgl).trans hc14.c6
      have y7 := fun (W : World) (h : Below w11.heap.size w11 W) => (h.cell (p := ⟨gg, 7, none⟩) hgl).trans hc14.c7
      have y8 := fun (W : World) (h : Below w11.heap.size w11 W) => (h.cell (p := ⟨gg, 8, none⟩) hgl).trans hc14.c8
      have y9 := fun (W : World) (h : Below w11.heap.size w11 W) => (h.cell (p := ⟨gg, 9, none⟩) hgl).trans hc14.c9
      have y10 := fun (W : World) (h : Below w11.heap.size w11 W) => (h.cell (p := ⟨gg, 10, none⟩) hgl).trans hc14.ca
      have b0 := fun (W : World) (h : Below w11.heap.size w11 W) => (rule3.out W (chain hB11.out h)).c0
      have b1 := fun (W : World) (h : Below w11.heap.size w11 W) => (rule3.out W (chain hB11.out h)).c1
      have b2 := fun (W : World) (h : Below w11.heap.size w11 W) => (rule3.out W (chain hB11.out h)).c2
      have b3 := fun (W : World) (h : Below w11.heap.size w11 W) => (rule3.out W (chain hB11.out h)).c3
      have b4 := fun (W : World) (h : Below w11.heap.size w11 W) => (rule3.out W (chain hB11.out h)).c4
      have b5 := fun (W : World) (h : Below w11.heap.size w11 W) => (rule3.out W (chain hB11.out h)).c5
      have b6 := fun (W : World) (h : Below w11.heap.size w11 W) => (rule3.out W (chain hB11.out h)).c6
      have b7 := fun (W : World) (h : Below w11.heap.size w11 W) => (rule3.out W (chain hB11.out h)).c7
      have b8 := fun (W : World) (h : Below w11.heap.size w11 W) => (rule3.out W (chain hB11.out h)).c8
      have keep0 := Below.refl w11.heap.size w11
      have keep1 : ∀ W, Below w11.heap.size w11 W → Below w11.heap.size w11 (World.drew W) := fun W h => chainN h 1
      clear cP hb11 hgl hc14 cv3 ad hB10
      go_wp2
      go_region_held3 (fun W => Below w11.heap.size w11 W) (first | exact keep0 | exact keep1 _ keep0 | exact chain ‹_› ‹_› | assumption) (first | (go_at_call 12; (with_reducible refine (cA.out _).mono ?_); rintro e3 w12 ⟨rfl, hb3⟩))
      have hBW : Below w11.heap.size w11 w12 := by assumption
      have hfin := Lib.hid (chain hB1.out (chain hB11.out hBW))
      clear hBW hB11 y0 y1 y2 y3 y4 y5 y6 y7 y8 y9 y10 b0 b1 b2 b3 b4 b5 b6 b7 b8 keep0 keep1
      go_wp2
      go_ret
      exact ⟨rfl, hfin.out⟩
  ·obtain ⟨k, hk⟩ : ∃ k, ckE FF = k := ⟨_, rfl⟩
   rw [hk] at cE h0
   have d1 : (k != 0) = true := bne_iff_ne.2 h0
   obtain ⟨Q, hQ⟩ : ∃ E, EncQ FF = E := ⟨_, rfl⟩
   rw [hQ] at cE
   clear hk h0 hQ rule0 rule3 rule4
   go_wp2_with fail
   refine (cE.out _).mono ?_
   rintro e w1 ⟨S, hS, rfl, hb1⟩
   go_wp2_with fail
   refine (cA.out _).mono ?_
   rintro e w2 ⟨rfl, hb2⟩
   go_wp2
   go_ret
   exact ⟨rfl, chain hB1.out (chain hb1 hb2)⟩
end S14
end Go.Proofs.YtiodkllckcpinaaGreatDoor
