/- What the laws of layer 13 take of the package's own functions, as one structure; the laws' helpers alive and tooLong. -/
import Derived.DataShut
import Derived.Test.YtgpdfkallgjocaaGreatDoorF13Ref3
import Derived.Test.YtgpdfkallgjocaaGreatDoorM13AQ
import Derived.Test.YtgpdfkallgjocaaGreatDoorM13AC
import Derived.Test.YtgpdfkallgjocaaGreatDoorM13AI
import Derived.Test.YtgpdfkallgjocaaGreatDoorShelf
import Derived.Test.YtgpdfkallgjocaaGreatDoorM13AK
import Derived.Lib.BufferWrite
namespace Go.Proofs.YtgpdfkallgjocaaGreatDoor.F13
set_option maxRecDepth 100000
open Go.RowKit Mem
set_option linter.unusedVariables false
set_option linter.unusedSimpArgs false

structure Dev : Prop where
  check : ∀ (f : Fr) (w : World), Fit f → Calls Tryz.prog 16 #[f.val] w fun e w' => e = .returned (.int .i64 (ckE f)) ∧ Below w.heap.size w w'
  marshal : ∀ (f : Fr) (w : World), Fit f → Calls Tryz.prog 12 #[f.val] w fun e w' => e = .returned (.tuple #[.string (mS f), .int .i64 (ckE f)]) ∧ Below w.heap.size w w'
  unmarshal : ∀ (b : ByteArray) (w : World), b.size ≤ 1000000 → Calls Tryz.prog 14 #[.string b] w fun e w' => e = .returned (.tuple #[(unF b.data.toList).val, .int .i64 (unE b.data.toList)]) ∧ Below w.heap.size w w'
  encode : ∀ (f : Fr) (w : World), Fit f → Calls Tryz.prog 18 #[f.val] w (EncP f w)
  decode : ∀ (c : ByteArray) (w : World), c.size ≤ 1000000 → Calls Tryz.prog 20 #[.string c] w (DcP c w)

/-! ### the example of the chapter -/
def f0 : Fr := ⟨66, 0, 1, 0, 0, 1, 0, 0#32, ⟨(List.replicate 28 (0 : UInt8)).toArray⟩⟩
theorem f0_ck : ckE f0 = 0 := by decide +kernel
theorem f0_size : (mS f0).size = 44 := by
  rw [mS_ok f0_ck]
  exact msgL_len ((valid_iff f0).1 f0_ck)
theorem f0_head : (mS f0).data.toList.take 9 = [66, 0, 0, 1, 0, 0, 0, 16, 0] := by
  rw [mS_ok f0_ck]
  show (msgL f0).take 9 = _
  unfold msgL bodyL
  rw [List.append_assoc, List.take_append_of_le_length (by rw [hdL_len]; decide)]
  decide +kernel
theorem rep_list : ∀ n : Nat, Lib.repeatL (ByteArray.mk #[63]).data.toList n = List.replicate n 63
  | 0 => rfl
  | n + 1 => by
    show [63] ++ Lib.repeatL (ByteArray.mk #[63]).data.toList n = _
    rw [rep_list n]
    rfl
theorem qs_dec {c : ByteArray} (h : c.data.toList = List.replicate 836 63) {F : Fr} {d u n k : Int} (hD : DcQ c F d u n k) : k = 5 := by
  have hs : c.size = 836 := by
    have : c.data.toList.length = 836 := by rw [h]; simp
    simpa using this
  have hok : C1.chk c.data.toList = 0 := by
    rw [chk_okC, h, List.all_eq_true]
    intro x hx
    rw [(List.mem_replicate.1 hx).2]
    rfl
  have hI := (hD.2 hok).2 (by omega)
  obtain ⟨g, hg⟩ := V10.good (xB_eB hok (by omega)) (n := 416) (xB_size (by omega))
  have hX : ∀ x ∈ (xB c).data.toList, x = 63 := by
    intro x hx
    rw [xB_list, padL_full (by rw [h]; simp), h] at hx
    have := (I11.perm_il (r := 8) (by decide) (I11.dl 8 (List.replicate 836 63))).mem_iff.2 hx
    rw [I11.il_dl (by decide)] at this
    exact (List.mem_replicate.1 this).2
  have hm : ∀ (X : List UInt8) (A : List Bool), (∀ x ∈ X, x = 63) → V10.misL X A = 0 := by
    intro X
    induction X with
    | nil => intro A _; cases A <;> rfl
    | cons x X ih =>
      intro A h
      cases A with
      | nil => rfl
      | cons a A =>
        show V10.mis x a + V10.misL X A = 0
        rw [ih A (fun y hy => h y (List.mem_cons_of_mem _ hy)), h x List.mem_cons_self, V10.mis_q]
  have hz : g = List.replicate 416 false := by
    have h1 := hg.lex (List.replicate 416 false) (by simp) (by rw [hm _ _ hX, hm _ _ hX])
    have hlx : ∀ (l : List Bool), V10.lxle l (List.replicate l.length false) = true → l = List.replicate l.length false := by
      intro l
      induction l with
      | nil => intro _; rfl
      | cons b l ih =>
        intro h
        cases b
        · have : V10.lxle l (List.replicate l.length false) = true := h
          show false :: l = false :: List.replicate l.length false
          rw [← ih this]
        · exact absurd h (by simp [List.replicate, V10.lxle])
    have h2 := hlx g (by rw [hg.len]; exact h1)
    rw [hg.len] at h2
    exact h2
  have hby : byB (xB c) = ⟨(List.replicate 52 (0 : UInt8)).toArray⟩ := by
    unfold byB
    rw [hg.str, hz]
    have e : (C9.sb (List.replicate 416 false)).data.toList = C1.fromB (List.replicate 52 0) := by decide +kernel
    rw [e, C1.tbS_fromB]
  obtain ⟨S, m, j, h1, h2, h3⟩ := hI
  rw [hby] at h1
  have hel : G7.el ⟨(List.replicate 52 (0 : UInt8)).toArray⟩ = List.replicate 52 0 := by decide +kernel
  rw [hel] at h1
  have hcw : G7.Cw 8 (List.replicate 52 0) := by
    intro i hi
    have : ∀ i : Fin 8, G7.vl (List.replicate 52 0) (G5.it i.1 1) = 0 := by decide +kernel
    exact this ⟨i, hi⟩
  have hnb : ¬ G8.Bad (List.replicate 52 (0 : G5.R)).length 8 [] := by
    rw [List.length_replicate]
    rintro (h | h | h | h | ⟨z, hz, _⟩)
    · omega
    · omega
    · omega
    · omega
    · cases hz
  obtain ⟨rfl, _, rfl⟩ := (h1.2 hnb).1 _ (G8.Within.self hcw (by decide))
  have hu : unE ((G7.str (List.replicate 52 0)).data.toList.take 44) = 5 := by decide +kernel
  have := ((h3 rfl).1 (by rw [hu]; decide)).2
  rw [this, hu]
set_option maxHeartbeats 4000000 in
theorem make_f0 (w : World) : Calls Tryz.prog 26 #[.int .i64 0, .int .i64 1, .int .i64 0, .agg #[.int .i64 1, .int .i64 0], .int .u32 0, .string ⟨#[]⟩] w fun e w' => e = .returned f0.val ∧ Below w.heap.size w w' := by
  obtain ⟨W0, hW0⟩ : ∃ W0, (w.alloc (.cells #[.int .i64 1, .int .i64 0] 23)).alloc (.cells #[.int .i64 0, .int .i64 0, .int .i64 0, .int .i64 0, .int .i64 0, .int .i64 0, .int .i64 0, .int .u32 0, .string ⟨#[]⟩] 26) = W0 := ⟨_, rfl⟩
  have hb0 : Below w.heap.size w W0 := by rw [← hW0]; exact two_made w _ _
  have hvF : VAt W0 (w.heap.size + 1) [.int .i64 0, .int .i64 0, .int .i64 0, .int .i64 0, .int .i64 0, .int .i64 0, .int .i64 0, .int .u32 0, .string ⟨#[]⟩] := by
    have := vat_alloc (w.alloc (.cells #[.int .i64 1, .int .i64 0] 23)) 26 [.int .i64 0, .int .i64 0, .int .i64 0, .int .i64 0, .int .i64 0, .int .i64 0, .int .i64 0, .int .u32 0, .string ⟨#[]⟩]
    rw [World.size_alloc] at this
    rw [← hW0]
    exact this
  have hvL : VAt W0 w.heap.size [.int .i64 1, .int .i64 0] := by
    rw [← hW0]
    exact (vat_alloc w 23 [.int .i64 1, .int .i64 0]).below ((Below.refl _ _).alloc (Nat.le_refl _) _) (by simp)
  have hs0 : W0.heap.size = w.heap.size + 1 + 1 := by rw [← hW0]; simp
  obtain ⟨l, hl, hmk⟩ := I11.make_bytesI W0 28 (by decide)
  have hmk : (Instr.makeSlice 37 (.int .i64 28) (.int .i64 28)).run Tryz.prog W0 = .ok (.slice (some ⟨W0.heap.size, 0, none⟩) 28 28) (W0.alloc (.cells l.toArray 5)) := hmk
  have hat := I11.made_at W0 5 (List.replicate 28 0)
  rw [← hl] at hat
  obtain ⟨W1, hW1⟩ : ∃ W1, W0.alloc (.cells l.toArray 5) = W1 := ⟨_, rfl⟩
  rw [hW1] at hmk hat
  have hal : Below W0.heap.size W0 W1 := by rw [← hW1]; exact (Below.refl _ _).alloc (Nat.le_refl _) _
  have hcv := hat.conv (P := Tryz.prog) (cap := 28) (n := 28) (by simp) Tryz.underlying37 Tryz.underlying5 Tryz.underlying9
  have hvF1 := hvF.below hal (by omega)
  have hvL1 := hvL.below hal (by omega)
  have hb1 := chain hb0 hal
  obtain ⟨f0', f1', f2', f3', f4', f5', f6', f7', f8', y0, y1, y2, y3, y4, y5, y6, y7, y8⟩ := cells9 hvF1
  have l0 := (hvL1 0 (show 0 < 2 by decide)).1
  have l1 := (hvL1 1 (show 1 < 2 by decide)).1
  obtain ⟨Z, hZ⟩ : ∃ Z : ByteArray, ⟨(List.replicate 28 (0 : UInt8)).toArray⟩ = Z := ⟨_, rfl⟩
  rw [hZ] at hcv
  have hval : f0.val = .agg #[.int .i64 66, .int .i64 0, .int .i64 1, .int .i64 0, .int .i64 0, .int .i64 1, .int .i64 0, .int .u32 0, .string Z] := by rw [← hZ]; rfl
  have g9 := cells9 (putN_all (l := [.int .i64 66, .int .i64 0, .int .i64 1, .int .i64 0, .int .i64 0, .int .i64 1, .int .i64 0, .int .u32 0, .string Z]) hvF1 rfl)
  have gb := putN_below (Nat.le_succ _) [.int .i64 66, .int .i64 0, .int .i64 1, .int .i64 0, .int .i64 0, .int .i64 1, .int .i64 0, .int .u32 0, .string Z] 0 _ hb1
  obtain ⟨WE, hWE⟩ : ∃ WE, putN (w.heap.size + 1) W1 0 [.int .i64 66, .int .i64 0, .int .i64 1, .int .i64 0, .int .i64 0, .int .i64 1, .int .i64 0, .int .u32 0, .string Z] = WE := ⟨_, rfl⟩
  rw [hWE] at g9
  rw [hWE] at gb
  simp only [putN, Nat.zero_add, Nat.reduceAdd] at hWE
  obtain ⟨c0, c1, c2, c3, c4, c5, c6, c7, c8, _, _, _, _, _, _, _, _, _⟩ := g9
  replace hval := Lib.hid hval
  replace gb := Lib.hid gb
  obtain ⟨G, hG⟩ : ∃ G, W0.heap.size = G := ⟨_, rfl⟩
  have hcp := Lib.run_copy_empty_string (P := Tryz.prog) W1 37 9 3 5 (some ⟨W0.heap.size, 0, none⟩) 28 28 ⟨#[]⟩ Tryz.underlying37 (by kernel_rfl) rfl
  rw [hG] at hmk hcv hcp
  clear hvF hvL hvF1 hvL1 hl hat hal hb0 hb1 hZ hs0 hG hW1
  go_enter Tryz.func26, Tryz.ntmps26
  go_wp2
  all_goals
    refine bodyPost_ret (v := f0.val) ?_ rfl ⟨rfl, gb.out⟩
    rw [hval.out]
    simp [results, Tryz.results26, go_sem, c0, c1, c2, c3, c4, c5, c6, c7, c8]
theorem toolong_any (f : Fr) (w : World) (hp : f.pay.size ≤ 9223372036854775807) : Calls Tryz.prog 11 #[f.val] w fun e w' => e = .returned (.bool (decide (200 < f.pay.size))) ∧ Below w.heap.size w w' := by
  have e : decide ((200 : Int) < (f.pay.size : Int)) = decide (200 < f.pay.size) := by rw [decide_eq_decide]; omega
  obtain ⟨B, hB⟩ : ∃ B, decide (200 < f.pay.size) = B := ⟨_, rfl⟩
  rw [hB] at e ⊢
  obtain ⟨kind, reel, sess, idx, len, data, spare, arch, pay⟩ := f
  unfold Fr.val Fr.cells
  dsimp only at *
  go_enter Tryz.func11, Tryz.ntmps11
  go_wp2
  go_ret
  exact ⟨rfl, (Below.refl _ _).alloc (Nat.le_refl _) _⟩
theorem f0_fit : Fit f0 := ⟨by decide, by decide, by decide, by decide, by decide, by decide, by decide, by decide⟩
set_option maxHeartbeats 4000000 in
theorem alive_any (D : Dev) (w : World) : Calls Tryz.prog 10 #[] w fun e w' => e = .returned (.bool true) ∧ Below w.heap.size w w' := by
  have cK := Lib.hid (fun W => make_f0 W)
  have cM := fun W => D.marshal f0 W f0_fit
  rw [f0_ck] at cM
  have hsz := f0_size
  have hhd := f0_head
  obtain ⟨M, hM⟩ : ∃ M, mS f0 = M := ⟨_, rfl⟩
  rw [hM] at cM hsz hhd
  have cP := fun W => M12.has_prefix M ⟨#[66, 0, 0, 1, 0, 0, 0, 16, 0]⟩ W (by omega) (by decide)
  rw [show (ByteArray.mk #[66, 0, 0, 1, 0, 0, 0, 16, 0]).size = 9 from rfl, show (ByteArray.mk #[66, 0, 0, 1, 0, 0, 0, 16, 0]).data.toList = [66, 0, 0, 1, 0, 0, 0, 16, 0] from rfl, hhd, decide_eq_true rfl] at cP
  have cR := fun W => Tryz.strings_Repeat ⟨#[63]⟩ 836 W (by decide) (by decide)
  obtain ⟨S, hS⟩ : ∃ S : ByteArray, ⟨(Lib.repeatL (ByteArray.mk #[63]).data.toList 836).toArray⟩ = S := ⟨_, rfl⟩
  rw [hS] at cR
  have hSl : S.data.toList = List.replicate 836 63 := by
    rw [← hS]
    exact rep_list 836
  have hSs : S.size = 836 := by
    have : S.data.toList.length = 836 := by rw [hSl]; simp
    simpa using this
  have cD := fun W => D.decode S W (by omega)
  have hq := fun (F : Fr) (d u n k : Int) (h : DcQ S F d u n k) => qs_dec hSl h
  replace cM := Lib.hid cM
  replace cP := Lib.hid cP
  replace cR := Lib.hid cR
  replace cD := Lib.hid cD
  replace hq := Lib.hid hq
  have hs1 : (M.size : Int) = 44 := by omega
  obtain ⟨Z, hZ⟩ : ∃ Z : ByteArray, ⟨(List.replicate 28 (0 : UInt8)).toArray⟩ = Z := ⟨_, rfl⟩
  have hval : f0.val = .agg #[.int .i64 66, .int .i64 0, .int .i64 1, .int .i64 0, .int .i64 0, .int .i64 1, .int .i64 0, .int .u32 0, .string Z] := by rw [← hZ]; rfl
  rw [hval] at cK cM
  clear hM hhd hS hSl hSs hsz hZ hval
  go_enter Tryz.func10, Tryz.ntmps10
  go_wp2_with fail
  refine (cK.out _).mono ?_
  rintro e w1 ⟨rfl, hB⟩
  clear cK
  go_wp2_with fail
  refine (cM.out _).mono ?_
  rintro e w2 ⟨rfl, hb2⟩
  replace hB := chain hB (chain ((Below.refl _ _).alloc (Nat.le_refl _) _) hb2)
  clear hb2 cM
  go_wp2_with fail
  refine (cR.out _).mono ?_
  rintro e w3 ⟨rfl, hb3⟩
  replace hB := chain hB hb3
  clear hb3 cR
  go_wp2_with fail
  refine (cD.out _).mono ?_
  rintro e w4 ⟨F, d, u, n, k, hD, rfl, hb4⟩
  obtain rfl := hq.out F d u n k hD
  replace hB := chain hB hb4
  clear hb4 cD hD hq
  obtain ⟨kind, reel, sess, idx, len, data, spare, arch, pay⟩ := F
  unfold Fr.val Fr.cells qV
  dsimp only
  have hB2 := chain hB (two_made w4 (.cells #[.int .i64 kind, .int .i64 reel, .int .i64 sess, .int .i64 idx, .int .i64 len, .int .i64 data, .int .i64 spare, .int .u32 (arch.toNat : Int), .string pay] 26) (.cells #[.int .i64 d, .int .i64 u, .int .i64 n] 42))
  replace hB2 := Lib.hid hB2
  go_wp2_with (go_at_call 27; refine (cP.out _).mono ?_; rintro e w6 ⟨rfl, rfl⟩)
  go_ret
  exact ⟨rfl, hB2.out⟩
end Go.Proofs.YtgpdfkallgjocaaGreatDoor.F13
