/- The walk of the law ScanMark. -/
import Derived.Test.YtiodkllckcpinaaGreatDoorS14Awake
import Derived.Test.YtiodkllckcpinaaGreatDoorS14Law3
import Derived.Test.YtiodkllckcpinaaGreatDoorS14Law6
import Derived.Test.YtiodkllckcpinaaGreatDoorS14Mk
import Derived.Test.YtiodkllckcpinaaGreatDoorG8Map
import Derived.Test.YtiodkllckcpinaaGreatDoorIsBy
set_option linter.unusedVariables false
set_option linter.unusedSimpArgs false
set_option maxRecDepth 100000
namespace Go.Proofs.YtiodkllckcpinaaGreatDoor
namespace S14
open Go.RowKit Mem F13
open Go.Maps
open G8 (setI keyI setI_snoc setI_tidy at_setI has_setI)

theorem zero_bool (w : World) : (zeroValue 4).run Tryz.prog w = .ok (.bool false) w := by kernel_rfl
theorem pe_bool_inv {v : Value} {z : DataW Unit × List MemPlace} (h : plainElem Tryz.prog 4 v = some z) : ∃ b, v = .bool b ∧ z = (.lit (.bool b), []) := by
 unfold plainElem at h
 rw [Tryz.underlying4] at h
 cases v <;> simp at h
 exact ⟨_, rfl, h.symm⟩
theorem look_set {w : World} {B n : Nat} {zs : List Int} (h : w.ownsMap Tryz.prog 3 (plainElem Tryz.prog 4) B n (setI zs)) (z : Int) (hz : (Lit.int .i64 z).wf = true) :
  (Instr.lookup 62 (.map (some B)) (.int .i64 z) false).run Tryz.prog w = .ok (.bool (decide (z ∈ zs))) w := by
 obtain ⟨v, ps, hrun, hv⟩ := h.lookup (int_keyed Tryz.underlying3) Tryz.underlying62 (zero_bool w) (plainElem_bool Tryz.underlying4 false) (keyOf_int_mk Tryz.underlying3 hz)
 obtain ⟨b, rfl, hb⟩ := pe_bool_inv hv
 rw [show (Lit.int .i64 z) = keyI z from rfl, at_setI] at hb
 injection hb with h1 _
 injection h1 with h1
 injection h1 with h1
 rw [hrun, h1]
theorem piece_rows {w : World} {base n : Nat} {e : TypeId} {v : Value} {l : List Sg} (h : w.ownsRow base e 14 v n (sgsC (l.map fun s => ((0 : Nat), s)))) : ∃ A cap, v = .slice A l.length cap ∧ ∀ i (hi : i < l.length), ∃ g, A = some ⟨g, 0, none⟩ ∧ g < w.heap.size ∧ At14 w g (i * 14) (0, l[i]) := by
 obtain ⟨hn, A, cap, h1, _, _, _, h5⟩ := own_at h
 rw [List.length_map] at hn
 subst hn
 refine ⟨A, cap, h1, fun i hi => ?_⟩
 obtain ⟨g, a, _, b, c⟩ := h5 i (by rw [List.length_map]; exact hi)
 rw [List.getElem_map] at c
 exact ⟨g, a, b, c⟩
structure OwnSet (w : World) (B n : Nat) (us : List Int) : Prop where
 own : w.ownsMap Tryz.prog 3 (plainElem Tryz.prog 4) B n (setI us)
 size : Go.Maps.size (setI us) = us.length
theorem OwnSet.below {w w1 : World} {B n : Nat} {us : List Int} (h : OwnSet w B n us) (hb : Below w.heap.size w w1) : OwnSet w1 B n us := by
 obtain ⟨⟨es, clock, hh, hrest⟩, hs⟩ := h
 exact ⟨⟨es, clock, (hb.block B (Array.getElem?_eq_some_iff.1 hh).1).trans hh, hrest⟩, hs⟩
theorem OwnSet.far {w : World} {B n g k : Nat} {us : List Int} (h : OwnSet w B n us) (hne : B ≠ g) (v : Value) : OwnSet (w.setCell ⟨g, k, none⟩ v) B n us := by
 obtain ⟨⟨es, clock, hh, hrest⟩, hs⟩ := h
 exact ⟨⟨es, clock, (Below.heap_setCell _ _ _ _ hne).trans hh, hrest⟩, hs⟩
theorem OwnSet.more {w : World} {B n m : Nat} {us : List Int} (h : OwnSet w B n us) (hm : n ≤ m) : OwnSet w B m us := by
 obtain ⟨⟨es, clock, h1, h2, h3, h4⟩, hs⟩ := h
 exact ⟨⟨es, clock, h1, h2, Nat.le_trans h3 hm, h4⟩, hs⟩
theorem bat_grown {W W' : World} {g : Nat} {l : List UInt8} {row : Option Nat} (h : BAt W g l) (hg : W.grownBy W' row) (hlt : g < W.heap.size) (hne : some g ≠ row) : BAt W' g l := fun j hj => by
 have := h j hj
 exact ⟨(World.cell?_of_block (a := ⟨g, j, none⟩) (hg.block g hlt hne)).trans this.1, (World.frozen?_of_block (a := ⟨g, j, none⟩) (hg.block g hlt hne)).trans this.2⟩
def Fus (X B : List UInt8) (us : List Int) : Prop := ∃ m, X = m ++ B ∧ Mkd m us
theorem Fus.start (B : List UInt8) : Fus (M12.mk ++ B) B [] := ⟨_, rfl, Mkd.start⟩
theorem Fus.step {X B : List UInt8} {us : List Int} (h : Fus X B us) {i : Nat} (hi : i < 16) (hu : (i : Int) ∉ us) : Fus (flip X i) B (us ++ [(i : Int)]) := by
 obtain ⟨m, rfl, hm⟩ := h
 exact ⟨flip m i, flip_app _ _ (by rw [hm.len]; exact hi), hm.step hi hu⟩
theorem mark_few {f : Fr} {W : ByteArray} {X : List UInt8} {us : List Int} (hv : Valid f) (hW : Word f W) (hX : Fus X (bodyC W).data.toList us) (hu : us.length ≤ 2) {l : List Sg} (hl : Scan ⟨X.toArray⟩ 0 l) : ∃ d u k, l = [⟨0, f, d, u, k⟩] := by
 obtain ⟨m, rfl, hm⟩ := hX
 have hok : (bodyC W).data.toList.all C9.okC = true := by
  rw [List.all_eq_true]
  intro x hx
  rcases body_bits W x hx with rfl | rfl <;> rfl
 obtain ⟨h1, h2, h3⟩ := damaged_dec (a := 0) (n := 0) hv hW (Dmg.refl hok 0) (by omega)
 obtain ⟨d, u, k, rfl, _⟩ := one_sighting (f := f) (c := ⟨(m ++ (bodyC W).data.toList).toArray⟩) (b := (bodyC W).data.toList) hm.len (by omega) rfl (by rw [hm.cnt]; exact hu) h2 h3 hl
 exact ⟨d, u, k, rfl⟩
theorem mark_many {B X : List UInt8} {us : List Int} (hX : Fus X B us) (hu : 2 < us.length) {l : List Sg} (hl : Scan ⟨X.toArray⟩ 0 l) (i : Nat) (hi : i < l.length) : l[i].at_ ≠ 0 := by
 obtain ⟨m, rfl, hm⟩ := hX
 intro e
 obtain ⟨_, _, h, _⟩ := hl.places.1 _ (List.getElem_mem hi)
 rw [e] at h
 unfold candB at h
 rw [Bool.and_eq_true, decide_eq_true_eq] at h
 have h1 := h.1
 rw [show (⟨(m ++ B).toArray⟩ : ByteArray).data.toList = m ++ B from rfl, show ((0 : Nat) : Int) = 0 from rfl, ds_front hm.len, hm.cnt] at h1
 omega
set_option maxHeartbeats 16000000 in
theorem walk_mark (f : Fr) (A : Option Addr) (n cap : Nat) (zs : List Nat) (w : World) (hf : FitB f) (hz : IsBy w A n cap zs) :
  Calls Tryz.prog 10 #[f.val, .slice A n cap] w fun e w' => e = .returned (.bool true) ∧ Below w.heap.size w w' := by
 have cA := Lib.hid (fun W => awake_any W)
 have cE := fun W => encode_own f W (fitOf hf)
 have hmm := @run_makeMap Tryz.prog
 have hbox : Below w.heap.size w (w.alloc (.cells f.cells 44)) := (Below.refl _ _).alloc (Nat.le_refl _) _
 have hvB : VAt (w.alloc (.cells f.cells 44)) w.heap.size f.cells.toList := vat_alloc w _ f.cells.toList
 have hsB : w.heap.size < (w.alloc (.cells f.cells 44)).heap.size := by simp
 have hzB := hz.below hbox
 obtain ⟨WB, hWB⟩ : ∃ W, w.alloc (.cells f.cells 44) = W := ⟨_, rfl⟩
 rw [hWB] at hbox hvB hsB hzB
 unfold EncP at cE
 by_cases h0 : ckE f = 0
 ·have hv := (valid_iff f).1 h0
  have henc : ∀ S, EncQ f S → ∃ W, Word f W ∧ W.size = 52 ∧ S = M12.mkB ++ bodyC W := fun S h => by
   obtain ⟨W, h1, h2⟩ := h.1 h0
   exact ⟨W, h1, h1.size hv, h2⟩
  rw [h0] at cE
  obtain ⟨FF, hFF⟩ : ∃ F : Fr, f = F := ⟨_, rfl⟩
  have hFh := Lib.hid hFF
  obtain ⟨Q, hQ⟩ : ∃ E, EncQ f = E := ⟨_, rfl⟩
  rw [hQ] at cE henc
  rw [hFF] at henc hv
  replace cE := Lib.hid cE
  replace henc := Lib.hid henc
  replace hv := Lib.hid hv
  obtain ⟨kind, reel, sess, idx, len, data, spare, arch, pay⟩ := f
  unfold Fr.val at cE ⊢
  unfold Fr.cells at cE hvB hWB ⊢
  dsimp only at cE hvB hWB ⊢
  have rule := fun (W : World) (h : Below WB.heap.size WB W) => cells9 (hvB.below h hsB)
  replace rule := Lib.hid rule
  obtain ⟨a0, a1, a2, a3, a4, a5, a6, a7, a8, _, _, _, _, _, _, _, _, _⟩ := rule.out WB (Below.refl _ _)
  replace hbox := Lib.hid hbox
  replace hzB := Lib.hid hzB
  clear hQ hFF hvB hsB h0 hf hz
  by_cases hn : 20 < n
  ·have d1 : decide ((20 : Int) < (n : Int)) = true := decide_eq_true (by omega)
   have d1' : decide (20 < n) = true := decide_eq_true hn
   clear hn henc hv rule hmm
   go_enter Tryz.func10, Tryz.ntmps10
   go_wp2_with fail
   refine (cE.out _).mono ?_
   rintro e w1 ⟨S, hS, rfl, hb1⟩
   clear hS a0 a1 a2 a3 a4 a5 a6 a7 a8
   go_wp2_with fail
   refine (cA.out _).mono ?_
   rintro e w2 ⟨rfl, hb2⟩
   have hfin := Lib.hid (chain hbox.out (chain hb1 hb2))
   clear hb1 hb2
   go_wp2
   go_ret
   exact ⟨rfl, hfin.out⟩
  ·have d1 : decide ((20 : Int) < (n : Int)) = false := decide_eq_false (by omega)
   have d1' : decide (20 < n) = false := decide_eq_false hn
   have nI : (n : Int) ≤ 20 := by omega
   have hnh := Lib.hid hn
   clear hn
   go_enter Tryz.func10, Tryz.ntmps10
   go_wp2_with fail
   refine (cE.out _).mono ?_
   rintro e w1 ⟨S, hS, rfl, hb1⟩
   obtain ⟨W, hW, hWs, hSW⟩ := henc.out S hS
   have hSs : S.size = 852 := by rw [hSW]; exact (enc_list hWs).1
   have hSl : S.data.toList = M12.mk ++ (bodyC W).data.toList := by rw [hSW]; exact (enc_list hWs).2
   have s1 : (S.size : Int) = 852 := by omega
   obtain ⟨C1, cap1, hcap1, hcv1, hat1⟩ := bytes_of (P := Tryz.prog) w1 (src := 9) (dst := 53) (e := 5) S Tryz.underlying9 Tryz.underlying53 Tryz.underlying5
   obtain ⟨G, hG⟩ : ∃ G, w1.heap.size = G := ⟨_, rfl⟩
   obtain ⟨W6, hW6⟩ : ∃ W, w1.drew.alloc (.cells C1 5 (cap1, cap1 + 1)) = W := ⟨_, rfl⟩
   have hb6 : Below G w1 W6 := by rw [← hW6, ← hG]; exact ((Below.refl w1.heap.size w1).drew).alloc (by simp) _
   have hA6 : BAt W6 G S.data.toList := by rw [← hW6, ← hG]; exact hat1
   have hs6 : W6.heap.size = G + 1 := by rw [← hW6, ← hG]; simp
   rw [hW6, hG, hSs] at hcv1
   rw [hSs] at hcap1
   obtain ⟨L, hL⟩ : ∃ L, S.data.toList = L := ⟨_, rfl⟩
   rw [hL] at hA6 hSl
   have hLl : L.length = 852 := by rw [← hL]; simpa using hSs
   have hm0 : (W6.alloc (.map #[] 0)).ownsMap Tryz.prog 3 (plainElem Tryz.prog 4) W6.heap.size 0 (setI []) := World.ownsMap_made _ _ _ _
   have hb7 : Below G w1 (W6.alloc (.map #[] 0)) := hb6.alloc (by omega) _
   have hA7 : BAt (W6.alloc (.map #[] 0)) G L := hA6.below ((Below.refl _ _).alloc (Nat.le_refl _) _) (by omega)
   have hs7 : (W6.alloc (.map #[] 0)).heap.size = G + 2 := by simp [hs6]
   rw [hs6] at hm0
   obtain ⟨B, hB⟩ : ∃ B, G + 1 = B := ⟨_, rfl⟩
   rw [hB] at hm0
   have hos : OwnSet (W6.alloc (.map #[] 0)) B 0 [] := ⟨hm0, rfl⟩
   have hst : Fus L (bodyC W).data.toList [] := by rw [hSl]; exact Fus.start _
   have hb1h := Lib.hid (show Below WB.heap.size WB w1 from hb1)
   replace hb7 := Lib.hid hb7
   replace hA7 := Lib.hid hA7
   replace hs7 := Lib.hid hs7
   replace hos := Lib.hid hos
   replace hst := Lib.hid hst
   replace hW := Lib.hid hW
   have hGh := Lib.hid hG
   have hBh := Lib.hid hB
   have hs6h := Lib.hid hs6
   rw [hB] at hs6
   clear hat1 hW6 hL hb1 hS hSW hSs hG a0 a1 a2 a3 a4 a5 a6 a7 a8 cE henc hb6 hA6 hm0 hSl hWs hB
   replace hLl := Lib.hid hLl
   go_wp2
   clear hcv1 hmm
   go_loopw [36] (fun iv wr => ∃ (k : Nat) (X : List UInt8) (us : List Int), iv = .int .i64 (k : Int) ∧ k ≤ n ∧ Hid (Fus X (bodyC W).data.toList us) ∧ Hid (X.length = 852) ∧ Hid (BAt wr G X) ∧ Hid (OwnSet wr B k us) ∧ Hid (G + 2 ≤ wr.heap.size) ∧ Hid (Below G w1 wr)) (fun iv _ => n - (intOf iv).toNat)
   case atStart => exact ⟨0, L, [], rfl, Nat.zero_le _, hst, hLl, hA7, hos, Lib.hid (Nat.le_of_eq hs7.out.symm), hb7⟩
   case round =>
    clear hst hA7 hos hs7 hb7
    obtain ⟨k, X, us, rfl, hk, hF, hXl, hAt, hmap, hsz, hb⟩ := hrel
    have hBwr : Below WB.heap.size WB wr := by
     have h := hb.out
     rw [← hGh.out] at h
     exact chain hb1h.out h
    by_cases hlt : k < n
    ·obtain ⟨b, o, rfl, hbs, hc, hz2⟩ := (hzB.out.below hBwr).read hlt
     obtain ⟨z, hz⟩ : ∃ z, zs.getD k 0 = z := ⟨_, rfl⟩
     rw [hz] at hc hz2
     obtain ⟨i, hi⟩ : ∃ i : Nat, i = z % 16 := ⟨_, rfl⟩
     have x0 : (z : Int) % 16 = (i : Int) := by omega
     have x2 : (z : Int).tmod 16 = (i : Int) := by rw [Int.tmod_eq_emod_of_nonneg (by omega)]; exact x0
     have i16 : i < 16 := by omega
     have i16I : (i : Int) < 16 := by omega
     have i0 : (0 : Int) ≤ (i : Int) := by omega
     have z8 : (z : Int) ≤ 255 := by omega
     have k0 : (0 : Int) ≤ (k : Int) := by omega
     have k1 : (k : Int) < (n : Int) := by omega
     have k2 : decide (k < n) = true := decide_eq_true hlt
     have hwf : (Lit.int .i64 (i : Int)).wf = true := (Lit.wf_int_iff .i64 _).2 ⟨by show (-9223372036854775808 : Int) ≤ _; omega, by show _ ≤ (9223372036854775807 : Int); omega⟩
     have hlk := look_set hmap.out.own (i : Int) hwf
     have hkey := Lib.hid (keyOf_int_mk (P := Tryz.prog) (k := 3) Tryz.underlying3 hwf)
     have hlth := Lib.hid hlt
     clear hz hi hwf hbs hBwr hk
     by_cases hu : (i : Int) ∈ us
     ·rw [decide_eq_true hu] at hlk
      clear hu
      go_wp2
      go_roundw
      case rel => exact ⟨k + 1, X, us, by go_num, hlth.out, hF, hXl, hAt, Lib.hid (hmap.out.more (Nat.le_succ k)), hsz, hb⟩
      case measure => have := hlth.out; simp [intOf]; omega
     ·rw [decide_eq_false hu] at hlk
      have hKX : i < X.length := by rw [hXl.out]; omega
      obtain ⟨o1, o2⟩ := hAt.out i hKX
      have hst := flip_step hAt.out hKX
      obtain ⟨ob, hob⟩ : ∃ v : Nat, (X[i]'hKX).toNat = v := ⟨_, rfl⟩
      rw [hob] at o1 hst
      have kS : (i : Int) < 852 := by omega
      have hF2 := Lib.hid (hF.out.step i16 hu)
      have hXl2 := Lib.hid (show (flip X i).length = 852 by rw [flip_len]; exact hXl.out)
      have hBG : B ≠ G := by have := hBh.out; omega
      have hmap2 := fun v => hmap.out.far (k := i) hBG v
      have hsz2 := fun v => Lib.hid (show G + 2 ≤ (wr.setCell ⟨G, i, none⟩ v).heap.size by simpa using hsz.out)
      have hb2 := fun v => Lib.hid (hb.out.setCell (p := ⟨G, i, none⟩) (Nat.le_refl G) v)
      have hsz1 : Go.Maps.size (setI (us ++ [(i : Int)])) = (us ++ [(i : Int)]).length := by
       rw [setI_snoc, Go.Maps.size_put (setI_tidy us), has_setI, decide_eq_false hu, if_neg (by simp), hmap.out.size, List.length_append]
       rfl
      replace hsz2 := Lib.hid hsz2
      replace hb2 := Lib.hid hb2
      replace hst := Lib.hid hst
      replace hmap2 := Lib.hid hmap2
      replace hsz1 := Lib.hid hsz1
      clear hob hKX hAt hsz hb hF hmap hu
      go_wp2_with (at_mapUpdate; refine wpList_mapUpdate_own _ rfl _ _ _ 62 rfl 3 4 (int_keyed Tryz.underlying3) Tryz.underlying62 _ B k _ rfl (hmap2.out _).own (by unfold maxLen; omega) _ _ _ rfl rfl hkey.out _ [] (plainElem_bool Tryz.underlying4 true) ?_)
      intro w4 hown4 hgr
      rw [show (Lit.int .i64 (i : Int)) = keyI (i : Int) from rfl, ← setI_snoc] at hown4
      have hb4 := Lib.hid ((hb2.out _).out.grown hgr (by have := (hsz2.out (Value.int .u8 (bits .xor .u8 (ob : Int) 1))).out; omega) (fun j hj => by cases hj; have := hBh.out; omega))
      have hAt4 := Lib.hid (bat_grown hst.out hgr (by have := (hsz2.out (Value.int .u8 (bits .xor .u8 (ob : Int) 1))).out; omega) (fun e => hBG (by injection e with e; exact e.symm)))
      have hsz4 := Lib.hid (Nat.le_trans (hsz2.out (Value.int .u8 (bits .xor .u8 (ob : Int) 1))).out hgr.size)
      have hos4 := Lib.hid (OwnSet.mk hown4 hsz1.out)
      clear hown4 hgr hst hmap2 hsz2 hb2
      go_wp2
      go_roundw
      case rel => exact ⟨k + 1, _, _, by go_num, hlth.out, hF2, hXl2, hAt4, hos4, hsz4, hb4⟩
      case measure => have := hlth.out; simp [intOf]; omega
    ·obtain rfl : k = n := by omega
     have k1 : ¬ (k : Int) < (k : Int) := by omega
     have k2 : decide (k < k) = false := decide_eq_false (by omega)
     have k3 : decide ((k : Int) < (k : Int)) = false := decide_eq_false (by omega)
     have hcv := hAt.out.conv (P := Tryz.prog) (cap := cap1) (n := 852) hXl.out Tryz.underlying53 Tryz.underlying5 Tryz.underlying9
     have hCs : (⟨X.toArray⟩ : ByteArray).size = 852 := by
      show (X.toArray).size = 852
      rw [List.size_toArray]
      exact hXl.out
     have cP := fun W => piece_own ⟨X.toArray⟩ W (by omega)
     have hfew := fun (hu : us.length ≤ 2) (l : List Sg) => mark_few (l := l) hv.out hW.out hF.out hu
     have hmany := fun (hu : 2 < us.length) (l : List Sg) => mark_many (l := l) hF.out hu
     obtain ⟨C, hC⟩ : ∃ C : ByteArray, (⟨X.toArray⟩ : ByteArray) = C := ⟨_, rfl⟩
     rw [hC] at hcv hCs cP
     simp only [hC] at hfew hmany
     unfold PcP at cP
     replace cP := Lib.hid cP
     replace hfew := Lib.hid hfew
     replace hmany := Lib.hid hmany
     have hBh2 := Lib.hid hBwr
     clear hC hF hXl hAt hsz hb hBwr hzB
     go_wp2_with fail
     refine (cP.out _).mono ?_
     rintro e w3 ⟨l, v, hl, rfl, hr, hb3⟩
     obtain ⟨As, caps, rfl, hrw⟩ := piece_rows hr
     replace hrw := Lib.hid hrw
     have hB3 := Lib.hid (chain hBh2.out hb3)
     have hmap3 := Lib.hid (hmap.out.below hb3)
     have hln := Lib.hid (show l.length ≤ 852 by have := hl.len; omega)
     clear hr hb3 hBh2 hmap hcv cP
     by_cases hul : us.length ≤ 2
     ·obtain ⟨d, u, q, hlq⟩ := hfew.out hul l hl
      have hl1 := Lib.hid (show l.length = 1 by rw [hlq]; rfl)
      have hkind := Lib.hid (show ∀ i (hi : i < l.length), l[i] = ⟨0, FF, d, u, q⟩ from fun i hi => by
       subst hlq
       have h0 : i = 0 := by simpa using hi
       subst h0
       rfl)
      clear hlq hl hfew hmany
      go_wp2
      go_loopw [12, 60] (fun fv iv wq => ∃ (i : Nat) (b : Bool), iv = .int .i64 (i : Int) ∧ fv = .bool b ∧ i ≤ l.length ∧ b = decide (0 < i) ∧ Below w3.heap.size w3 wq) (fun _ iv _ => l.length - (intOf iv).toNat)
      case atStart => exact ⟨0, false, rfl, rfl, Nat.zero_le _, rfl, Below.refl _ _⟩
      case round =>
       obtain ⟨i, bb, rfl, rfl, hi, hbb, hbq⟩ := hrel
       by_cases hlt : i < l.length
       ·obtain ⟨g, rfl, hg, h14⟩ := hrw.out i hlt
        have hone := hkind.out i hlt
        obtain ⟨s, hs⟩ : ∃ s, l[i] = s := ⟨_, rfl⟩
        rw [hs] at h14 hone
        have i0 : (0 : Int) ≤ (i : Int) := by omega
        have i1 : (i : Int) < (l.length : Int) := by omega
        have di : decide ((i : Int) < (l.length : Int)) = true := decide_eq_true (by omega)
        have di' : decide (i < l.length) = true := decide_eq_true hlt
        have ii : (i : Int) ≤ 852 := by have := hln.out; omega
        obtain rfl := hone
        obtain rfl : bb = false := by rw [hbb]; exact decide_eq_false (by have := hl1.out; omega)
        clear hbb
        rw [← hFh.out] at h14
        obtain ⟨c0, c1, c2, c3, c4, c5, c6, c7, c8, c9, ca, cb, cc, cd⟩ := h14.below hbq hg
        dsimp only at c0 c1 c2 c3 c4 c5 c6 c7 c8 c9 ca cb cc cd
        rw [show ((0 : Nat) : Int) = 0 from rfl] at c0 c1
        have hb5 := hbq.alloc hbq.size (.cells #[.int .i64 0, .int .i64 0, .int .i64 kind, .int .i64 reel, .int .i64 sess, .int .i64 idx, .int .i64 len, .int .i64 data, .int .i64 spare, .int .u32 (arch.toNat : Int), .string pay, .int .i64 d, .int .i64 u, .int .i64 q] 48)
        obtain ⟨a0, a1, a2, a3, a4, a5, a6, a7, a8, _, _, _, _, _, _, _, _, _⟩ := rule.out _ (chain hB3.out hb5)
        replace hb5 := Lib.hid hb5
        have hlth := Lib.hid hlt
        clear h14 hbq hlt hi hs
        go_wp2
        go_roundw
        case rel => exact ⟨i + 1, true, by go_num, rfl, hlth.out, (decide_eq_true (Nat.succ_pos i)).symm, hb5.out⟩
        case measure => have := hlth.out; simp [intOf]; omega
       ·obtain rfl : i = l.length := by omega
        have di : decide ((l.length : Int) < (l.length : Int)) = false := decide_eq_false (by omega)
        have di' : decide (l.length < l.length) = false := decide_eq_false (by omega)
        obtain rfl : bb = true := by rw [hbb]; exact decide_eq_true (by have := hl1.out; omega)
        have hml := fun ty => (hmap3.out.below hbq).own.len Tryz.underlying62 ty
        rw [hmap3.out.size] at hml
        obtain ⟨Ln, hLn⟩ : ∃ Ln, us.length = Ln := ⟨_, rfl⟩
        rw [hLn] at hml hul
        have dl : decide ((Ln : Int) ≤ 2) = true := decide_eq_true (by omega)
        have dl' : decide (Ln ≤ 2) = true := decide_eq_true (by omega)
        have hB5 := Lib.hid (chain hB3.out hbq)
        clear hrw hkind hmap3 hB3 hbq hLn hbb hlt hln
        go_wp2_with fail
        refine (cA.out _).mono ?_
        rintro e w6 ⟨rfl, hb6⟩
        have hfin := Lib.hid (chain hbox.out (chain hB5.out hb6))
        clear hB5 hb6
        go_wp2
        go_ret
        exact ⟨rfl, hfin.out⟩
     ·have hul2 : 2 < us.length := by omega
      have hkind := Lib.hid (show ∀ i (hi : i < l.length), l[i].at_ ≠ 0 from hmany.out hul2 l hl)
      clear hl hfew hmany hul2
      go_wp2
      go_loopw [12, 60] (fun fv iv wq => ∃ (i : Nat) (b : Bool), iv = .int .i64 (i : Int) ∧ fv = .bool b ∧ i ≤ l.length ∧ b = false ∧ Below w3.heap.size w3 wq) (fun _ iv _ => l.length - (intOf iv).toNat)
      case atStart => exact ⟨0, false, rfl, rfl, Nat.zero_le _, rfl, Below.refl _ _⟩
      case round =>
       obtain ⟨i, bb, rfl, rfl, hi, hbb, hbq⟩ := hrel
       by_cases hlt : i < l.length
       ·obtain ⟨g, rfl, hg, h14⟩ := hrw.out i hlt
        have hone := hkind.out i hlt
        obtain ⟨s, hs⟩ : ∃ s, l[i] = s := ⟨_, rfl⟩
        rw [hs] at h14 hone
        have i0 : (0 : Int) ≤ (i : Int) := by omega
        have i1 : (i : Int) < (l.length : Int) := by omega
        have di : decide ((i : Int) < (l.length : Int)) = true := decide_eq_true (by omega)
        have di' : decide (i < l.length) = true := decide_eq_true hlt
        have ii : (i : Int) ≤ 852 := by have := hln.out; omega
        obtain ⟨M, ⟨kind2, reel2, sess2, idx2, len2, data2, spare2, arch2, pay2⟩, d, u, q⟩ := s
        dsimp only at hone
        subst hbb
        obtain ⟨c0, c1, c2, c3, c4, c5, c6, c7, c8, c9, ca, cb, cc, cd⟩ := h14.below hbq hg
        dsimp only at c0 c1 c2 c3 c4 c5 c6 c7 c8 c9 ca cb cc cd
        rw [show ((0 : Nat) : Int) = 0 from rfl] at c0
        have m0 : ¬ (M : Int) = 0 := by omega
        have m1 : ((M : Int) == 0) = false := beq_eq_false_iff_ne.2 m0
        have hb5 := hbq.alloc hbq.size (.cells #[.int .i64 0, .int .i64 (M : Int), .int .i64 kind2, .int .i64 reel2, .int .i64 sess2, .int .i64 idx2, .int .i64 len2, .int .i64 data2, .int .i64 spare2, .int .u32 (arch2.toNat : Int), .string pay2, .int .i64 d, .int .i64 u, .int .i64 q] 48)
        replace hb5 := Lib.hid hb5
        have hlth := Lib.hid hlt
        clear h14 hbq hlt hi hs
        go_wp2
        go_roundw
        case rel => exact ⟨i + 1, false, by go_num, rfl, hlth.out, rfl, hb5.out⟩
        case measure => have := hlth.out; simp [intOf]; omega
       ·obtain rfl : i = l.length := by omega
        have di : decide ((l.length : Int) < (l.length : Int)) = false := decide_eq_false (by omega)
        have di' : decide (l.length < l.length) = false := decide_eq_false (by omega)
        obtain rfl : bb = false := hbb
        have hml := fun ty => (hmap3.out.below hbq).own.len Tryz.underlying62 ty
        rw [hmap3.out.size] at hml
        obtain ⟨Ln, hLn⟩ : ∃ Ln, us.length = Ln := ⟨_, rfl⟩
        rw [hLn] at hml hul
        have dl : decide ((Ln : Int) ≤ 2) = false := decide_eq_false (by omega)
        have dl' : decide (Ln ≤ 2) = false := decide_eq_false (by omega)
        have hB5 := Lib.hid (chain hB3.out hbq)
        clear hrw hkind hmap3 hB3 hbq hLn hlt hln
        go_wp2_with fail
        refine (cA.out _).mono ?_
        rintro e w6 ⟨rfl, hb6⟩
        have hfin := Lib.hid (chain hbox.out (chain hB5.out hb6))
        clear hB5 hb6
        go_wp2
        go_ret
        exact ⟨rfl, hfin.out⟩
 ·obtain ⟨k, hk⟩ : ∃ k, ckE f = k := ⟨_, rfl⟩
  rw [hk] at cE h0
  have d1 : (k != 0) = true := bne_iff_ne.2 h0
  obtain ⟨Q, hQ⟩ : ∃ E, EncQ f = E := ⟨_, rfl⟩
  rw [hQ] at cE
  replace cE := Lib.hid cE
  obtain ⟨kind, reel, sess, idx, len, data, spare, arch, pay⟩ := f
  unfold Fr.val Fr.cells at *
  dsimp only at *
  obtain ⟨a0, a1, a2, a3, a4, a5, a6, a7, a8, _, _, _, _, _, _, _, _, _⟩ := cells9 hvB
  clear hf hk h0 hQ hvB hsB hz hzB hmm
  go_enter Tryz.func10, Tryz.ntmps10
  go_wp2_with fail
  refine (cE.out _).mono ?_
  rintro e w1 ⟨S, hS, rfl, hb1⟩
  clear a0 a1 a2 a3 a4 a5 a6 a7 a8
  go_wp2_with fail
  refine (cA.out _).mono ?_
  rintro e w2 ⟨rfl, hb2⟩
  go_wp2
  go_ret
  exact ⟨rfl, chain hbox (chain hb1 hb2)⟩
end S14
end Go.Proofs.YtiodkllckcpinaaGreatDoor
