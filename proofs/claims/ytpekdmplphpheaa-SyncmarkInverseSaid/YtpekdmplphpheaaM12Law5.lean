/- The walk of the law SyncmarkInverse, under the package's contracts and that of layer 1's Invert. -/
import Derived.Test.YtpekdmplphpheaaM12Law2
import Derived.Test.YtpekdmplphpheaaC1OwnInv
namespace Go.Proofs.Ytpekdmplphpheaa.M12
open Go.RowKit Mem
set_option linter.unusedVariables false
set_option linter.unusedSimpArgs false

theorem inv_mark : C1.inv mkB.data.toList = plB.data.toList := by decide
theorem tmod16 (y : UInt8) : ∃ j : Nat, j < 16 ∧ (y.toNat : Int).tmod 16 = (j : Int) ∧ (y.toNat : Int) % 16 = (j : Int) :=
  ⟨y.toNat % 16, Nat.mod_lt _ (by decide), by rw [Int.tmod_eq_emod_of_nonneg (by omega)]; rfl, rfl⟩
/-- What the law asks of the strip S, which holds the plain mark at A, and of the strip with the cell at I replaced. -/
theorem inv_facts {b f S : ByteArray} {j : Nat} (hj : j < 16) (hS : b ++ plB ++ f = S) (x : UInt8) : ∃ (I : Nat) (hI : I < S.size) (q : Bool), b.size + j = I ∧ S.size = b.size + 16 + f.size ∧
    pp S.data.toList (b.size : Int) = true ∧ ds S.data.toList (b.size : Int) = 16 ∧
    pp (S.data.toList.set I x) (b.size : Int) = q ∧ (((x.toNat : Int)) == (((S[I]'hI).toNat : Nat) : Int)) = q ∧ pp (S.extract 0 (b.size + 15)).data.toList (b.size : Int) = false := by
  have hsz : S.size = b.size + 16 + f.size := by rw [← hS, ByteArray.size_append, ByteArray.size_append]; rfl
  have hL : S.data.toList = b.data.toList ++ pl ++ f.data.toList := by rw [← hS, app_list, app_list]; rfl
  have hI : b.size + j < S.size := by omega
  refine ⟨b.size + j, hI, (x == pl[j]'hj), rfl, hsz, ?_, ?_, ?_, ?_, ?_⟩
  · rw [hL, ← size_list, pp_mid _ _ _ rfl]
    exact (pp_all rfl).2 rfl
  · rw [hL, ← size_list, ds_mid _ _ _ rfl]
    exact ds_pl
  · rw [hL, ← size_list]
    exact pp_set hj x
  · have e : S[b.size + j]'hI = pl[j]'hj := by
      have h1 : S[b.size + j]'hI = S.data.toList[b.size + j]'(by rw [size_list]; exact hI) := rfl
      rw [h1]
      have h2 : S.data.toList[b.size + j]? = some (pl[j]'hj) := by
        rw [hL, ← size_list, List.append_assoc, List.getElem?_append_right (by omega), Nat.add_sub_cancel_left, List.getElem?_append_left (show j < pl.length from hj)]
        exact List.getElem?_eq_getElem (show j < pl.length from hj)
      rw [List.getElem?_eq_getElem (by rw [size_list]; exact hI)] at h2
      exact Option.some.inj h2
    rw [e, Bool.eq_iff_iff, beq_iff_eq, beq_iff_eq, ← UInt8.toNat_inj]
    omega
  · rw [ext_list, List.drop_zero, hL, ← size_list, List.append_assoc]
    exact pp_short _ _
set_option maxRecDepth 100000 in
set_option maxHeartbeats 600000 in
theorem walk_inverse (D : Dev) (b f : ByteArray) (y x : Int) (w : World) (hb0 : b.size ≤ 140737488351232) (hf0 : f.size ≤ 140737488351232) (wy : (Lit.int .u8 y).wf = true) (wx : (Lit.int .u8 x).wf = true) :
    Calls Try.prog 7 #[.string b, .string f, .int .u8 y, .int .u8 x] w fun e w' => e = .returned (.bool true) ∧ Below w.heap.size w w' := by
  have cA := Lib.hid (fun W => alive_any D W)
  obtain ⟨y, rfl⟩ := u8_of wy
  obtain ⟨x, rfl⟩ := u8_of wx
  clear wy wx
  by_cases h1 : b.size ≤ 500
  · have d1 : decide ((500 : Int) < (b.size : Int)) = false := decide_eq_false (by omega)
    have d1' : decide (500 < b.size) = false := decide_eq_false (by omega)
    by_cases h2 : f.size ≤ 500
    · have d2 : decide ((500 : Int) < (f.size : Int)) = false := decide_eq_false (by omega)
      have d2' : decide (500 < f.size) = false := decide_eq_false (by omega)
      obtain ⟨S, hS⟩ : ∃ S, b ++ plB ++ f = S := ⟨_, rfl⟩
      obtain ⟨j, hj, j1, j2⟩ := tmod16 y
      obtain ⟨I, hI, q, hIj, hsz, e1, e2, e3, e4, e5⟩ := inv_facts hj hS x
      have hM := inv_mark
      have cM := fun W => D.mark W
      have cP := fun W => D.plain W
      have cI := fun W => C1.invert_any mkB W (by decide)
      rw [hM, str_back] at cI
      obtain ⟨M, hM2⟩ : ∃ M, mkB = M := ⟨_, rfl⟩
      have hps : plB.size = 16 := rfl
      obtain ⟨P, hP2⟩ : ∃ M, plB = M := ⟨_, rfl⟩
      rw [hM2] at cM cI
      rw [hP2] at cP cI hS hps
      replace cM := Lib.hid cM
      replace cP := Lib.hid cP
      replace cI := Lib.hid cI
      have c1 := Lib.hid (fun W => D.isp_as (c := S) (by omega) (by omega) (by omega) e1 W)
      have c2 := Lib.hid (fun W => D.dist_as (c := S) (by omega) (by omega) (by omega) e2 W)
      obtain ⟨X, hX⟩ : ∃ X : ByteArray, ⟨(S.data.toList.set I x).toArray⟩ = X := ⟨_, rfl⟩
      have hXs : X.size = S.size := by
        rw [← hX, str_size, List.length_set, size_list]
      have e3' : pp X.data.toList (b.size : Int) = q := by rw [← hX]; exact e3
      have c3 := Lib.hid (fun W => D.isp_as (c := X) (by omega) (by omega) (by omega) e3' W)
      obtain ⟨E, hE⟩ : ∃ E, b.size + 15 = E := ⟨_, rfl⟩
      rw [hE] at e5
      have c4 := Lib.hid (fun W => D.isp_as (c := S.extract 0 E) (by rw [ByteArray.size_extract]; omega) (by omega) (by omega) e5 W)
      obtain ⟨n, hn⟩ : ∃ n, S.size = n := ⟨_, rfl⟩
      have q1 : (b.size : Int) ≤ 500 := by omega
      have q2 : (f.size : Int) ≤ 500 := by omega
      have hy := y.toNat_lt
      have q3 : (y.toNat : Int) ≤ 255 := by omega
      have q4 : (0 : Int) ≤ (y.toNat : Int) := by omega
      clear hy
      have i0 : (0 : Int) ≤ (I : Int) := by omega
      have i1 : (I : Int) < (S.size : Int) := by omega
      have i2 : (I : Int) < (n : Int) := by omega
      have i3 : (b.size : Int) + (j : Int) = (I : Int) := by omega
      have i4 : (I : Int) ≤ 1016 := by omega
      have i5 : (b.size : Int) + 15 = (E : Int) := by omega
      have i6 : (E : Int) ≤ (S.size : Int) := by omega
      have i7 : (0 : Int) ≤ (E : Int) := by omega
      have i8 : (E : Int) ≤ 1016 := by omega
      have i9 : E ≤ S.size := by omega
      have i10 : IntKind.i64.wrap (E : Int) = (E : Int) := IntWalk.i64_in _ (by omega)
      clear hE
      have hIn : I < n := by omega
      have hlS : S.data.toList.length = n := by rw [size_list, hn]
      have hX := Lib.hid hX
      have hn := Lib.hid hn
      have hlS := Lib.hid hlS
      clear h1 h2 e1 e2 e3 e3' e5 hsz hIj hXs hb0 hf0 hM hM2 hP2
      go_enter Try.func7, Try.ntmps7
      go_wp2_with fail
      refine (cA.out _).mono ?_
      rintro e w1 ⟨rfl, hB⟩
      go_wp2_with fail
      refine (cP.out _).mono ?_
      rintro e w2 ⟨rfl, rfl⟩
      go_wp2_with fail
      refine (cM.out _).mono ?_
      rintro e w2 ⟨rfl, rfl⟩
      go_wp2_with fail
      refine (cI.out _).mono ?_
      rintro e w2 ⟨rfl, hb⟩
      replace hB := chain hB hb
      clear hb cP cM cI
      obtain ⟨C1, cap1, hcap1, hcv1, hat1⟩ := bytes_of (P := Try.prog) w2 (src := 9) (dst := 30) (e := 5) S Try.underlying9 Try.underlying30 Try.underlying5
      obtain ⟨G, hG⟩ : ∃ G, w2.heap.size = G := ⟨_, rfl⟩
      obtain ⟨W3, hW3⟩ : ∃ W, w2.drew.alloc (.cells C1 5 (cap1, cap1 + 1)) = W := ⟨_, rfl⟩
      have hb3 : Below w2.heap.size w2 W3 := by rw [← hW3]; exact ((Below.refl w2.heap.size w2).drew).alloc (by simp) _
      have hA3 : BAt W3 G S.data.toList := by rw [← hW3, ← hG]; exact hat1
      have hs3 : G < W3.heap.size := by rw [← hW3, ← hG]; simp
      obtain ⟨g1, g2⟩ := hA3 I (by rw [hlS.out]; exact hIn)
      have hA4 := hA3.set (k := I) (by rw [hlS.out]; exact hIn) x
      obtain ⟨W4, hW4⟩ : ∃ W, W3.setCell ⟨G, I, none⟩ (.int .u8 (x.toNat : Int)) = W := ⟨_, rfl⟩
      have hb4 : Below w2.heap.size w2 W4 := by rw [← hW4]; exact hb3.setCell (p := ⟨G, I, none⟩) (by rw [hG]; exact Nat.le_refl _) _
      have hs4 : G < W4.heap.size := by rw [← hW4]; simpa using hs3
      rw [hW4] at hA4
      have hlX : (S.data.toList.set I x).length = n := by rw [List.length_set, hlS.out]
      have k1 := fun (W : World) (h : Below W4.heap.size W4 W) => (hA4.below h hs4).conv (P := Try.prog) (cap := cap1) (n := n) hlX Try.underlying30 Try.underlying5 Try.underlying9
      rw [hX.out] at k1
      rw [hW3, hG, hn.out] at hcv1
      replace hB := chain hB hb4
      replace hW4 := Lib.hid hW4
      replace k1 := Lib.hid k1
      clear hat1 hA3 hA4 hb3 hb4 hs3 hs4 hW3 hG hcap1 hlX hX
      go_wp2_with fail
      rw [hW4.out]
      have k1 := fun (m : Nat) => k1.out (W4.drewN m) (chainN (Below.refl W4.heap.size W4) m)
      replace c1 := Lib.hid (fun W => (c1.out W).mono fun _ _ (h : _ ∧ _) => And.intro h.1 h.2.symm)
      replace c3 := Lib.hid (fun W => (c3.out W).mono fun _ _ (h : _ ∧ _) => And.intro h.1 h.2.symm)
      replace c4 := Lib.hid (fun W => (c4.out W).mono fun _ _ (h : _ ∧ _) => And.intro h.1 h.2.symm)
      clear hW4 g1 g2 hcv1 cA
      rcases q with _ | _
      all_goals
        go_quiet ((first | (go_at_call 13; first | (with_reducible exact Calls.quiet_of_same (c1.out _)) | (with_reducible exact Calls.quiet_of_same (c3.out _)) | (with_reducible exact Calls.quiet_of_same (c4.out _))) | (go_at_call 11; with_reducible exact Calls.quiet_of (c2.out _))))
        go_wp2
        go_ret
        exact ⟨rfl, chainN hB _⟩
    · have d2 : decide ((500 : Int) < (f.size : Int)) = true := decide_eq_true (by omega)
      have d2' : decide (500 < f.size) = true := decide_eq_true (by omega)
      clear h1 h2 hb0 hf0
      go_enter Try.func7, Try.ntmps7
      go_wp2_with fail
      refine (cA.out _).mono ?_
      rintro e w1 ⟨rfl, hB⟩
      go_wp2
      go_ret
      exact ⟨rfl, hB⟩
  · have d1 : decide ((500 : Int) < (b.size : Int)) = true := decide_eq_true (by omega)
    have d1' : decide (500 < b.size) = true := decide_eq_true (by omega)
    clear h1 hb0 hf0
    go_enter Try.func7, Try.ntmps7
    go_wp2_with fail
    refine (cA.out _).mono ?_
    rintro e w1 ⟨rfl, hB⟩
    go_wp2
    go_ret
    exact ⟨rfl, hB⟩
end Go.Proofs.Ytpekdmplphpheaa.M12
