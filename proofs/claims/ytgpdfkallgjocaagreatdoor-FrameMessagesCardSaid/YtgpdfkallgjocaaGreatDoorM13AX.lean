/- Facts and contracts that the walks of this layer use, merged: F13Own5, F13Own6, F13Own, F13Ref4. -/
import Derived.Test.YtgpdfkallgjocaaGreatDoorM13AQ
import Derived.Test.YtgpdfkallgjocaaGreatDoorM13AG
import Derived.Test.YtgpdfkallgjocaaGreatDoorM13AF
import Derived.Test.YtgpdfkallgjocaaGreatDoorM13AN
import Derived.Test.YtgpdfkallgjocaaGreatDoorM13AI
import Derived.Test.YtgpdfkallgjocaaGreatDoorM13AK
import Derived.Test.YtgpdfkallgjocaaGreatDoorF13Dev
import Derived.Test.YtgpdfkallgjocaaGreatDoorF13OwnB
import Derived.Test.YtgpdfkallgjocaaGreatDoorM13AE
import Derived.Test.YtgpdfkallgjocaaGreatDoorM13AW
import Derived.Test.YtgpdfkallgjocaaGreatDoorM13AO
namespace Go.Proofs.YtgpdfkallgjocaaGreatDoor.F13
set_option maxRecDepth 100000
open Go.RowKit Mem
set_option linter.unusedVariables false
set_option linter.unusedSimpArgs false

def WdM (M W : ByteArray) : Prop := ∃ t, G7.IsEnc 8 (G7.el M) t ∧ W = G7.str (G7.el M ++ t)
theorem WdM.size {M W : ByteArray} (h : WdM M W) (hM : M.size = 44) : W.size = 52 := by
  obtain ⟨t, h1, rfl⟩ := h
  rw [G7.size_str, List.length_append, G7.el_len, hM, h1.1]
def StE (M : ByteArray) : Nat → ByteArray → Prop
  | 0, s => s = M
  | 1, s => WdM M s
  | 2, s => ∃ W, WdM M W ∧ s = C9.sb (bitsOf W)
  | 3, s => ∃ W, WdM M W ∧ s = C9.sb (C9.enc (bitsOf W))
  | 4, s => ∃ W, WdM M W ∧ s = bodyC W
  | _, s => ∃ W, WdM M W ∧ s = M12.mkB ++ bodyC W
def StepE (M : ByteArray) (k : Nat) (w : World) (e : Ending) (w' : World) : Prop := ∃ s, StE M (k + 1) s ∧ e = .returned (.tuple #[.string s, .int .i64 0]) ∧ Below w.heap.size w w'
theorem stepE0 {M s : ByteArray} (w : World) (hM : M.size = 44) (h : StE M 0 s) : Calls Tryz.prog 37 #[.string s] w (StepE M 0 w) := by
  have h : s = M := h
  subst h
  have cE := Lib.hid (fun W => G7.enc_own s 8 W (by decide) (by decide) (by omega))
  have hgo : ∀ w' t, G7.IsEnc 8 (G7.el s) t → Below w.heap.size w w' → StepE s 0 w (.returned (.tuple #[.string (G7.str (G7.el s ++ t)), .int .i64 0])) w' := fun w' t h hb => ⟨_, ⟨t, h, rfl⟩, rfl, hb⟩
  replace hgo := Lib.hid hgo
  obtain ⟨P, hP⟩ : ∃ P, StepE s 0 w = P := ⟨_, rfl⟩
  rw [hP] at hgo ⊢
  show Calls _ _ _ _ (fun e w' => P e w')
  clear hP
  go_enter Tryz.func37, Tryz.ntmps37
  go_wp2_with fail
  refine (cE.out _).mono ?_
  rintro e w1 ⟨t, ht, rfl, hb⟩
  go_wp2
  first | go_ret2 | skip
  exact hgo.out _ t ht hb
theorem stepE1 {M s : ByteArray} (w : World) (hM : M.size = 44) (h : StE M 1 s) : Calls Tryz.prog 39 #[.string s] w (StepE M 1 w) := by
  have hs := WdM.size h hM
  have cF := fun W' => C1.fromBytes_any s W' (by omega)
  rw [← sb_bitsOf s] at cF
  have hgo : ∀ w', Below w.heap.size w w' → StepE M 1 w (.returned (.tuple #[.string (C9.sb (bitsOf s)), .int .i64 0])) w' := fun w' hb => ⟨_, ⟨s, h, rfl⟩, rfl, hb⟩
  obtain ⟨S, hS⟩ : ∃ S, C9.sb (bitsOf s) = S := ⟨_, rfl⟩
  rw [hS] at cF hgo
  replace hgo := Lib.hid hgo
  replace cF := Lib.hid cF
  obtain ⟨P, hP⟩ : ∃ P, StepE M 1 w = P := ⟨_, rfl⟩
  rw [hP] at hgo ⊢
  show Calls _ _ _ _ (fun e w' => P e w')
  clear hP hS h hs
  go_enter Tryz.func39, Tryz.ntmps39
  go_wp2_with fail
  refine (cF.out _).mono ?_
  rintro e w1 ⟨rfl, hb⟩
  go_wp2
  first | go_ret2 | skip
  exact hgo.out _ hb
theorem stepE2 {M s : ByteArray} (w : World) (hM : M.size = 44) (h : StE M 2 s) : Calls Tryz.prog 41 #[.string s] w (StepE M 2 w) := by
  obtain ⟨W, hW, rfl⟩ := h
  have hs := WdM.size hW hM
  have hbl : (bitsOf W).length = 416 := by rw [bitsOf_len, hs]
  refine (C9.encode_good (bitsOf W) w (by omega)).mono ?_
  rintro e w' ⟨rfl, hb⟩
  exact ⟨_, ⟨W, hW, rfl⟩, rfl, hb⟩
theorem stepE3 {M s : ByteArray} (w : World) (hM : M.size = 44) (h : StE M 3 s) : Calls Tryz.prog 42 #[.string s] w (StepE M 3 w) := by
  obtain ⟨W, hW, rfl⟩ := h
  have hs := WdM.size hW hM
  have hes : (C9.sb (C9.enc (bitsOf W))).size = 836 := by rw [C9.sb_size, encL W hs]
  have cI := fun W' => I11.il_own (C9.sb (C9.enc (bitsOf W))) 8 W' (by omega) (by decide) (by decide)
  have hiS : I11.iS (C9.sb (C9.enc (bitsOf W))) 8 = bodyC W := rfl
  unfold I11.Iled at cI
  rw [hiS, show I11.pE 8 = 0 from rfl] at cI
  have hgo : ∀ w', Below w.heap.size w w' → StepE M 3 w (.returned (.tuple #[.string (bodyC W), .int .i64 0])) w' := fun w' hb => ⟨_, ⟨W, hW, rfl⟩, rfl, hb⟩
  obtain ⟨S, hS⟩ : ∃ S, bodyC W = S := ⟨_, rfl⟩
  obtain ⟨s, hss⟩ : ∃ S, C9.sb (C9.enc (bitsOf W)) = S := ⟨_, rfl⟩
  rw [hS] at cI hgo
  rw [hss] at cI ⊢
  replace hgo := Lib.hid hgo
  replace cI := Lib.hid cI
  obtain ⟨P, hP⟩ : ∃ P, StepE M 3 w = P := ⟨_, rfl⟩
  rw [hP] at hgo ⊢
  show Calls _ _ _ _ (fun e w' => P e w')
  clear hP hS hss hes hiS
  go_enter Tryz.func42, Tryz.ntmps42
  go_wp2_with fail
  refine (cI.out _).mono ?_
  rintro e w1 ⟨rfl, hb⟩
  go_wp2
  first | go_ret2 | skip
  exact hgo.out _ hb
theorem stepE4 {M s : ByteArray} (w : World) (hM : M.size = 44) (h : StE M 4 s) : Calls Tryz.prog 43 #[.string s] w (StepE M 4 w) := by
  obtain ⟨W, hW, rfl⟩ := h
  have hbo := bodyC_size (WdM.size hW hM)
  have hgo : ∀ w', Below w.heap.size w w' → StepE M 4 w (.returned (.tuple #[.string (M12.mkB ++ bodyC W), .int .i64 0])) w' := fun w' hb => ⟨_, ⟨W, hW, rfl⟩, rfl, hb⟩
  have cK := fun W' => M12.mark_any W'
  have hmk : M12.mkB.size = 16 := rfl
  obtain ⟨K, hK⟩ : ∃ K, M12.mkB = K := ⟨_, rfl⟩
  obtain ⟨B, hB⟩ : ∃ K, bodyC W = K := ⟨_, rfl⟩
  rw [hK] at cK hgo hmk
  rw [hB] at hgo hbo ⊢
  replace hgo := Lib.hid hgo
  replace cK := Lib.hid cK
  have s1 : (K.size : Int) ≤ 16 := by omega
  have s2 : (B.size : Int) ≤ 836 := by omega
  have s3 : ¬ 9223372036854775807 < K.size + B.size := by omega
  obtain ⟨P, hP⟩ : ∃ P, StepE M 4 w = P := ⟨_, rfl⟩
  rw [hP] at hgo ⊢
  show Calls _ _ _ _ (fun e w' => P e w')
  clear hP hK hB hbo hmk
  go_enter Tryz.func43, Tryz.ntmps43
  go_wp2_with fail
  refine (cK.out _).mono ?_
  rintro e w1 ⟨rfl, rfl⟩
  go_wp2
  first | go_ret2 | skip
  exact hgo.out _ (Below.refl _ _)
def stepsE : List Value := [.func (.func 37) #[] #[], .func (.func 39) #[] #[], .func (.func 41) #[] #[], .func (.func 42) #[] #[], .func (.func 43) #[] #[]]
set_option maxHeartbeats 8000000 in
theorem applyE {M : ByteArray} {A : Nat} (w : World) (hM : M.size = 44) (hA : VAt w A stepsE) (hs : A < w.heap.size) : Calls Tryz.prog 36 #[.string M, .slice (some ⟨A, 0, none⟩) 5 5] w (StepE M 4 w) := by
  have r0 : ∀ W, Below w.heap.size w W → W.cell? ⟨A, 0, none⟩ = some (.func (.func 37) #[] #[]) := fun W h => ((hA.below h hs) 0 (show 0 < 5 by decide)).1
  have r1 : ∀ W, Below w.heap.size w W → W.cell? ⟨A, 1, none⟩ = some (.func (.func 39) #[] #[]) := fun W h => ((hA.below h hs) 1 (show 1 < 5 by decide)).1
  have r2 : ∀ W, Below w.heap.size w W → W.cell? ⟨A, 2, none⟩ = some (.func (.func 41) #[] #[]) := fun W h => ((hA.below h hs) 2 (show 2 < 5 by decide)).1
  have r3 : ∀ W, Below w.heap.size w W → W.cell? ⟨A, 3, none⟩ = some (.func (.func 42) #[] #[]) := fun W h => ((hA.below h hs) 3 (show 3 < 5 by decide)).1
  have r4 : ∀ W, Below w.heap.size w W → W.cell? ⟨A, 4, none⟩ = some (.func (.func 43) #[] #[]) := fun W h => ((hA.below h hs) 4 (show 4 < 5 by decide)).1
  replace r0 := Lib.hid r0
  replace r1 := Lib.hid r1
  replace r2 := Lib.hid r2
  replace r3 := Lib.hid r3
  replace r4 := Lib.hid r4
  have c0 := Lib.hid (fun s W h => stepE0 (M := M) (s := s) W hM h)
  have c1 := Lib.hid (fun s W h => stepE1 (M := M) (s := s) W hM h)
  have c2 := Lib.hid (fun s W h => stepE2 (M := M) (s := s) W hM h)
  have c3 := Lib.hid (fun s W h => stepE3 (M := M) (s := s) W hM h)
  have c4 := Lib.hid (fun s W h => stepE4 (M := M) (s := s) W hM h)
  have hgo : ∀ s w', StE M 5 s → Below w.heap.size w w' → StepE M 4 w (.returned (.tuple #[.string s, .int .i64 0])) w' := fun s w' h hb => ⟨s, h, rfl, hb⟩
  replace hgo := Lib.hid hgo
  obtain ⟨P, hP⟩ : ∃ P, StepE M 4 w = P := ⟨_, rfl⟩
  rw [hP] at hgo ⊢
  show Calls _ _ _ _ (fun e w' => P e w')
  clear hP hA hs
  go_enter Tryz.func36, Tryz.ntmps36
  go_wp2
  go_loopw [0, 11] (fun sv iv wr => ∃ (k : Nat) (s : ByteArray), k ≤ 5 ∧ iv = .int .i64 (k : Int) ∧ sv = .string s ∧ Hid (StE M k s) ∧ Hid (Below w.heap.size w wr)) (fun _ iv _ => 5 - (intOf iv).toNat)
  case atStart => exact ⟨0, M, by decide, rfl, rfl, Lib.hid rfl, Lib.hid (Below.refl _ _)⟩
  case round =>
    obtain ⟨k, s, hk, rfl, rfl, hst, hb⟩ := hrel
    rcases k with _ | _ | _ | _ | _ | k
    · have l0 := r0.out wr hb.out
      have cS := Lib.hid (c0.out s wr hst.out)
      go_wp2_with fail
      refine cS.out.mono ?_
      rintro e w1 ⟨s', hs', rfl, hb1⟩
      replace hs' := Lib.hid hs'
      have hb2 := Lib.hid (chain hb.out hb1)
      clear hst hb l0 hb1 cS
      go_wp2
      go_roundw
      case rel => exact ⟨1, s', by decide, by go_num, rfl, hs', hb2⟩
      case measure => simp [intOf]
    · have l0 := r1.out wr hb.out
      have cS := Lib.hid (c1.out s wr hst.out)
      go_wp2_with fail
      refine cS.out.mono ?_
      rintro e w1 ⟨s', hs', rfl, hb1⟩
      replace hs' := Lib.hid hs'
      have hb2 := Lib.hid (chain hb.out hb1)
      clear hst hb l0 hb1 cS
      go_wp2
      go_roundw
      case rel => exact ⟨2, s', by decide, by go_num, rfl, hs', hb2⟩
      case measure => simp [intOf]
    · have l0 := r2.out wr hb.out
      have cS := Lib.hid (c2.out s wr hst.out)
      go_wp2_with fail
      refine cS.out.mono ?_
      rintro e w1 ⟨s', hs', rfl, hb1⟩
      replace hs' := Lib.hid hs'
      have hb2 := Lib.hid (chain hb.out hb1)
      clear hst hb l0 hb1 cS
      go_wp2
      go_roundw
      case rel => exact ⟨3, s', by decide, by go_num, rfl, hs', hb2⟩
      case measure => simp [intOf]
    · have l0 := r3.out wr hb.out
      have cS := Lib.hid (c3.out s wr hst.out)
      go_wp2_with fail
      refine cS.out.mono ?_
      rintro e w1 ⟨s', hs', rfl, hb1⟩
      replace hs' := Lib.hid hs'
      have hb2 := Lib.hid (chain hb.out hb1)
      clear hst hb l0 hb1 cS
      go_wp2
      go_roundw
      case rel => exact ⟨4, s', by decide, by go_num, rfl, hs', hb2⟩
      case measure => simp [intOf]
    · have l0 := r4.out wr hb.out
      have cS := Lib.hid (c4.out s wr hst.out)
      go_wp2_with fail
      refine cS.out.mono ?_
      rintro e w1 ⟨s', hs', rfl, hb1⟩
      replace hs' := Lib.hid hs'
      have hb2 := Lib.hid (chain hb.out hb1)
      clear hst hb l0 hb1 cS
      go_wp2
      go_roundw
      case rel => exact ⟨5, s', by decide, by go_num, rfl, hs', hb2⟩
      case measure => simp [intOf]
    · obtain rfl : k = 0 := by omega
      have hf := Lib.hid (hgo.out s wr hst.out hb.out)
      clear hst hb hgo
      go_wp2
      first | go_ret2 | skip
      exact hf.out
end Go.Proofs.YtgpdfkallgjocaaGreatDoor.F13
namespace Go.Proofs.YtgpdfkallgjocaaGreatDoor.F13
set_option maxRecDepth 100000
open Go.RowKit Mem
set_option linter.unusedVariables false
set_option linter.unusedSimpArgs false

set_option maxHeartbeats 4000000 in
theorem encode_own (f : Fr) (w : World) (hf : Fit f) : Calls Tryz.prog 18 #[f.val] w (EncP f w) := by
  have hb0 : Below w.heap.size w (w.alloc (.cells f.cells 26)) := (Below.refl _ _).alloc (Nat.le_refl _) _
  have cM := Lib.hid (fun W => marshal_own f W hf)
  by_cases h0 : ckE f = 0
  · have hv := (valid_iff f).1 h0
    rw [mS_ok h0, h0] at cM
    have hms : (⟨(msgL f).toArray⟩ : ByteArray).size = 44 := msgL_len hv
    have hgoal : ∀ w' s, StE ⟨(msgL f).toArray⟩ 5 s → Below w.heap.size w w' → EncP f w (.returned (.tuple #[.string s, .int .i64 0])) w' := fun w' s h hb =>
      ⟨s, ⟨fun _ => h, fun h => absurd h0 h⟩, by rw [h0], hb⟩
    obtain ⟨M, hM⟩ : ∃ M, (⟨(msgL f).toArray⟩ : ByteArray) = M := ⟨_, rfl⟩
    rw [hM] at cM hms hgoal
    replace hgoal := Lib.hid hgoal
    have hmsh := Lib.hid hms
    obtain ⟨P, hP⟩ : ∃ P, EncP f w = P := ⟨_, rfl⟩
    rw [hP] at hgoal ⊢
    show Calls _ _ _ _ (fun e w' => P e w')
    obtain ⟨kind, reel, sess, idx, len, data, spare, arch, pay⟩ := f
    unfold Fr.val at *
    unfold Fr.cells at *
    dsimp only at *
    clear h0 hM hms hv hP hf
    go_enter Tryz.func18, Tryz.ntmps18
    go_wp2_with fail
    refine (cM.out _).mono ?_
    rintro e w1 ⟨rfl, hB⟩
    replace hB := chain hb0 hB
    have hA := vat_alloc w1 96 stepsE
    have hB2 := hB.alloc hB.size (.cells stepsE.toArray 96)
    obtain ⟨W2, hW2⟩ : ∃ W, w1.alloc (.cells stepsE.toArray 96) = W := ⟨_, rfl⟩
    have hs : w1.heap.size < W2.heap.size := by rw [← hW2]; simp
    rw [hW2] at hA hB2
    unfold stepsE at hW2
    have cA := Lib.hid (applyE W2 hmsh.out hA hs)
    replace hB2 := Lib.hid hB2
    clear hb0 cM hA hs hB
    go_wp2_with fail
    refine cA.out.mono ?_
    rintro e w3 ⟨s, hst, rfl, hb3⟩
    have hfin := Lib.hid (hgoal.out w3 s hst (chain hB2.out hb3))
    clear hst hgoal hb3 cA
    go_wp2
    first | go_ret2 | skip
    exact hfin.out
  · rw [mS_no h0] at cM
    have hgoal : ∀ w', Below w.heap.size w w' → EncP f w (.returned (.tuple #[.string ⟨#[]⟩, .int .i64 (ckE f)])) w' := fun w' h => ⟨⟨#[]⟩, ⟨fun h => absurd h h0, fun _ => rfl⟩, rfl, h⟩
    obtain ⟨k, hk⟩ : ∃ k, ckE f = k := ⟨_, rfl⟩
    rw [hk] at cM h0 hgoal
    have d1 : (k != 0) = true := bne_iff_ne.2 h0
    replace hgoal := Lib.hid hgoal
    replace cM := Lib.hid cM.out
    obtain ⟨P, hP⟩ : ∃ P, EncP f w = P := ⟨_, rfl⟩
    rw [hP] at hgoal ⊢
    show Calls _ _ _ _ (fun e w' => P e w')
    obtain ⟨kind, reel, sess, idx, len, data, spare, arch, pay⟩ := f
    unfold Fr.val at *
    unfold Fr.cells at *
    dsimp only at *
    clear hk h0 hf hP
    go_enter Tryz.func18, Tryz.ntmps18
    go_wp2_with fail
    refine (cM.out _).mono ?_
    rintro e w1 ⟨rfl, hB⟩
    go_wp2
    first | go_ret2 | skip
    exact hgoal.out _ (chain hb0 hB)
end Go.Proofs.YtgpdfkallgjocaaGreatDoor.F13
namespace Go.Proofs.YtgpdfkallgjocaaGreatDoor.F13
theorem dev : Dev := ⟨check_own, marshal_own, unmarshal_own, encode_own, decode_own⟩
end Go.Proofs.YtgpdfkallgjocaaGreatDoor.F13
namespace Go.Proofs.YtgpdfkallgjocaaGreatDoor.F13
set_option maxRecDepth 100000
open Go.RowKit Mem
set_option linter.unusedVariables false
set_option linter.unusedSimpArgs false

set_option maxHeartbeats 4000000 in
theorem rencode_any (f : Fr) (w : World) (hp : f.pay.size ≤ 1000000) : Calls Tryz.prog 19 #[f.val] w (EncP f w) := by
  have hb0 : Below w.heap.size w (w.alloc (.cells f.cells 26)) := (Below.refl _ _).alloc (Nat.le_refl _) _
  have cM := Lib.hid (fun W => rmarshal_any f W hp)
  by_cases h0 : ckE f = 0
  · have hv := (valid_iff f).1 h0
    rw [mS_ok h0, h0] at cM
    have hms : (⟨(msgL f).toArray⟩ : ByteArray).size = 44 := msgL_len hv
    obtain ⟨M, hM⟩ : ∃ M, (⟨(msgL f).toArray⟩ : ByteArray) = M := ⟨_, rfl⟩
    rw [hM] at cM hms
    have cE := fun W => G7.renc_any M 8 W (by decide) (by decide) (by omega)
    have hgoal : ∀ w' S t, G7.IsEnc 8 (G7.el M) t → S = M12.mkB ++ bodyC (G7.str (G7.el M ++ t)) → Below w.heap.size w w' → EncP f w (.returned (.tuple #[.string S, .int .i64 0])) w' := fun w' S t h1 h2 h3 =>
      ⟨S, ⟨fun _ => ⟨_, ⟨t, by rw [hM]; exact h1, rfl⟩, by rw [hM]; exact h2⟩, fun h => absurd h0 h⟩, by rw [h0], h3⟩
    replace hgoal := Lib.hid hgoal
    replace cM := Lib.hid cM.out
    replace cE := Lib.hid cE
    have hmel : (G7.el M).length = 44 := by rw [G7.el_len, hms]
    obtain ⟨P, hP⟩ : ∃ P, EncP f w = P := ⟨_, rfl⟩
    rw [hP] at hgoal ⊢
    show Calls _ _ _ _ (fun e w' => P e w')
    obtain ⟨kind, reel, sess, idx, len, data, spare, arch, pay⟩ := f
    unfold Fr.val at *
    dsimp only at *
    unfold Fr.cells at *
    dsimp only at *
    clear h0 hM hms hv hP hp
    go_enter Tryz.func19, Tryz.ntmps19
    go_wp2_with fail
    refine (cM.out _).mono ?_
    rintro e w1 ⟨rfl, hB⟩
    replace hB := chain hb0 hB
    clear hb0 cM
    go_wp2_with fail
    refine (cE.out _).mono ?_
    rintro e w2 ⟨t, ht, rfl, hb⟩
    replace hB := chain hB hb
    obtain ⟨W, hW⟩ : ∃ W, G7.str (G7.el M ++ t) = W := ⟨_, rfl⟩
    have hWs : W.size = 52 := by rw [← hW, G7.size_str, List.length_append, hmel, ht.1]
    have hgo := fun w' S (h : S = M12.mkB ++ bodyC W) (hb : Below w.heap.size w w') => hgoal.out w' S t ht (by rw [hW]; exact h) hb
    replace hgo := Lib.hid hgo
    rw [hW]
    have cF := fun W' => C1.rfromBytes_any W W' (by omega)
    rw [← sb_bitsOf W] at cF
    have hbl : (bitsOf W).length = 416 := by rw [bitsOf_len, hWs]
    have hbs : (C9.sb (bitsOf W)).size = 416 := by rw [C9.sb_size, hbl]
    have cC := fun W' => (C9.rencode_any (C9.sb (bitsOf W)) W' (by omega)).mono fun e w' h => C9.enco_good h (by omega)
    have hes : (C9.sb (C9.enc (bitsOf W))).size = 836 := by rw [C9.sb_size, encL W hWs]
    have cI := fun W' => I11.rinter_any (C9.sb (C9.enc (bitsOf W))) 8 W' (by omega) (by decide)
    have hiS : I11.iS (C9.sb (C9.enc (bitsOf W))) 8 = bodyC W := rfl
    unfold I11.Iled at cI
    rw [hiS] at cI
    have hbo := bodyC_size hWs
    obtain ⟨B, hBo⟩ : ∃ B, bodyC W = B := ⟨_, rfl⟩
    rw [hBo] at hgo cI hbo
    obtain ⟨b1, hb1⟩ : ∃ b, C9.sb (bitsOf W) = b := ⟨_, rfl⟩
    obtain ⟨b2, hb2⟩ : ∃ b, C9.sb (C9.enc (bitsOf W)) = b := ⟨_, rfl⟩
    rw [hb1] at cF cC
    rw [hb2] at cC cI
    have hpE : I11.pE 8 = 0 := rfl
    rw [hpE] at cI
    have cK := fun W' => M12.rmark_any W'
    have hmk : M12.mkB.size = 16 := rfl
    obtain ⟨K, hK⟩ : ∃ K, M12.mkB = K := ⟨_, rfl⟩
    rw [hK] at hgo cK hmk
    replace cF := Lib.hid cF
    replace cC := Lib.hid cC
    replace cI := Lib.hid cI
    replace cK := Lib.hid cK
    have s1 : (K.size : Int) ≤ 16 := by omega
    have s2 : (B.size : Int) ≤ 836 := by omega
    have s3 : ¬ 9223372036854775807 < K.size + B.size := by omega
    clear hb ht hW hWs hbl hbs hes hiS hbo hBo hb1 hb2 hmk hK hgoal hmel hpE cE
    go_wp2_with fail
    refine (cF.out _).mono ?_
    rintro e w3 ⟨rfl, hb⟩
    replace hB := chain hB hb
    clear hb
    go_wp2_with fail
    refine (cC.out _).mono ?_
    rintro e w4 ⟨rfl, hb⟩
    replace hB := chain hB hb
    clear hb
    go_wp2_with fail
    refine (cI.out _).mono ?_
    rintro e w5 ⟨rfl, hb⟩
    replace hB := chain hB hb
    clear hb
    go_wp2_with (go_at_call 49; refine (cK.out _).mono ?_; rintro e w6 ⟨rfl, rfl⟩)
    first | go_ret2 | skip
    exact hgo.out _ _ rfl hB
  · rw [mS_no h0] at cM
    have hgoal : ∀ w', Below w.heap.size w w' → EncP f w (.returned (.tuple #[.string ⟨#[]⟩, .int .i64 (ckE f)])) w' := fun w' h => ⟨⟨#[]⟩, ⟨fun h => absurd h h0, fun _ => rfl⟩, rfl, h⟩
    obtain ⟨k, hk⟩ : ∃ k, ckE f = k := ⟨_, rfl⟩
    rw [hk] at cM h0 hgoal
    have d1 : (k != 0) = true := bne_iff_ne.2 h0
    replace hgoal := Lib.hid hgoal
    replace cM := Lib.hid cM.out
    obtain ⟨P, hP⟩ : ∃ P, EncP f w = P := ⟨_, rfl⟩
    rw [hP] at hgoal ⊢
    show Calls _ _ _ _ (fun e w' => P e w')
    obtain ⟨kind, reel, sess, idx, len, data, spare, arch, pay⟩ := f
    unfold Fr.val at *
    dsimp only at *
    unfold Fr.cells at *
    dsimp only at *
    clear hk h0 hp hP
    go_enter Tryz.func19, Tryz.ntmps19
    go_wp2_with fail
    refine (cM.out _).mono ?_
    rintro e w1 ⟨rfl, hB⟩
    go_wp2
    first | go_ret2 | skip
    exact hgoal.out _ (chain hb0 hB)
end Go.Proofs.YtgpdfkallgjocaaGreatDoor.F13
