/- The contract of the landed Interpolate. -/
import Derived.Test.YtcakdhnlgeiodaaG6OwnAdd
import Derived.Test.YtcakdhnlgeiodaaG6OwnMul
import Derived.Test.YtcakdhnlgeiodaaG6OwnEv
import Derived.Test.YtcakdhnlgeiodaaG6ItpC
import Derived.Test.YtcakdhnlgeiodaaG5OwnDiv
namespace Go.Proofs.Ytcakdhnlgeiodaa.G6
open Go.Proofs.Ytcakdhnlgeiodaa.G5
open Go.RowKit Mem
set_option linter.unusedVariables false
set_option linter.unusedSimpArgs false

theorem mulL_const (b : List R) (c : R) (h : b.length ≤ 100) : (mulL b [c]).length ≤ b.length := by
  have e : mulL b [c] = trim (sc c b) := by
    have h1 := mulL_len b [c]
    have h2 := trim_len (sc c b)
    rw [sc_len] at h2
    simp at h1
    exact eq_ev (mulL_tr _ _) (trim_trim _) (by omega) (by omega) fun x => by rw [ev_mulL, ev_one, ev_trim, ev_sc, tms_comm]
  rw [e]
  have := trim_len (sc c b)
  rw [sc_len] at this
  exact this

/-- What is known behind i points. -/
structure NS (xl yl m : List R) (i : Nat) : Prop where
  len : m.length ≤ i
  tr : Tr m
  nd : (xl.take i).Nodup
  val : ∀ j, j < i → ev m (xl.getD j 0) = yl.getD j 0
theorem mem_take_of {xl : List R} {i j : Nat} (hj : j < i) (hi : i ≤ xl.length) : xl.getD j 0 ∈ xl.take i := by
  have hj' : j < (xl.take i).length := by rw [List.length_take]; omega
  have e : (xl.take i)[j] = xl.getD j 0 := by
    simp [List.getD_eq_getElem?_getD, List.getElem?_eq_getElem (show j < xl.length by omega)]
  rw [← e]
  exact List.getElem_mem hj'
theorem NS.step {xl yl m : List R} {i : Nat} {X Y V B F : R} (h : NS xl yl m i) (hi : i < xl.length) (h20 : xl.length ≤ 20) (hX : xl.getD i 0 = X) (hY : yl.getD i 0 = Y)
    (hV : ev m X = V) (hB : ev (prodL (xl.take i)) X = B) (hB0 : B ≠ 0) (hF : G5.dv (Y ^^^ V) B = F) : NS xl yl (addL m (mulL (prodL (xl.take i)) [F])) (i + 1) := by
  have hpl := prodL_len (xl.take i)
  rw [List.length_take, Nat.min_eq_left (by omega)] at hpl
  refine ⟨?_, addL_tr _ _, ?_, fun j hj => ?_⟩
  · have h1 := addL_len m (mulL (prodL (xl.take i)) [F])
    have h2 := mulL_const (prodL (xl.take i)) F (by omega)
    have h3 := h.len
    omega
  · rw [take_snoc xl i hi, hX, List.nodup_append]
    refine ⟨h.nd, by simp, fun a ha b hb => ?_⟩
    simp at hb
    subst hb
    rintro rfl
    exact hB0 (by rw [← hB]; exact (prodL_zero _ _).2 ha)
  · rw [ev_addL, ev_mulL, ev_one]
    by_cases e : j = i
    · subst e
      rw [hX, hV, hB, hY, ← hF, tms_dv (Y ^^^ V) hB0]
      simp only [BitVec.xor_assoc, BitVec.xor_comm, xac, xcan, xs, xz, zx]
    · rw [(prodL_zero _ _).2 (mem_take_of (show j < i by omega) (by omega)), zero_tms, xz]
      exact h.val j (by omega)
theorem NS.dup {xl yl m : List R} {i : Nat} {X : R} (h : NS xl yl m i) (hi : i < xl.length) (hX : xl.getD i 0 = X) (hB : ev (prodL (xl.take i)) X = 0) : ¬ xl.Nodup := fun hnd => by
  have hm := (prodL_zero _ _).1 hB
  have hs : xl.take (i + 1) = xl.take i ++ [X] := by rw [take_snoc xl i hi, hX]
  have h2 : (xl.take (i + 1)).Nodup := hnd.sublist (List.take_sublist _ _)
  rw [hs, List.nodup_append] at h2
  exact h2.2.2 X hm X (by simp) rfl
theorem NS.done {xl yl m : List R} (h : NS xl yl m xl.length) : xl.Nodup ∧ Itp xl yl m := by
  have hn := h.nd
  rw [List.take_length] at hn
  refine ⟨hn, h.tr, h.len, fun i hi => ?_⟩
  have := h.val i hi
  rw [← this]
  congr 1
  simp [List.getD_eq_getElem?_getD, List.getElem?_eq_getElem hi]

theorem evalB_own {A : Option Addr} {c : Nat} {l : List R} {w : World} (x : R) (h : IsSl w A c l) (hl : l.length ≤ 1000) : Calls Try.prog 25 #[.slice A l.length c, bv x] w fun e w' => e = .returned (bv (ev l x)) ∧ Below w.heap.size w w' :=
  (eval_own x h hl).mono fun _ _ ⟨a, n, b⟩ => ⟨a, by rw [b]; exact chainN (Below.refl _ _) n⟩

set_option maxRecDepth 100000 in
set_option maxHeartbeats 2000000 in
theorem it1_own {A B : Option Addr} {c d : Nat} {xl yl : List R} {w : World} (hne : xl.length ≠ yl.length) :
    Calls Try.prog 24 #[.slice A xl.length c, .slice B yl.length d] w (ItpNo 1 w) := by
  obtain ⟨n, hn⟩ : ∃ n, xl.length = n := ⟨_, rfl⟩
  obtain ⟨m, hm⟩ : ∃ m, yl.length = m := ⟨_, rfl⟩
  rw [hn, hm] at hne ⊢
  have t1 : ((n : Int) == (m : Int)) = false := by rw [beq_eq_false_iff_ne]; omega
  have t2 : ((n : Int) != (m : Int)) = true := by rw [bne, t1]; rfl
  have t3 : (n == m) = false := by rw [beq_eq_false_iff_ne]; omega
  have t4 : (n != m) = true := by rw [bne, t3]; rfl
  clear hn hm hne
  go_enter Try.func24, Try.ntmps24
  go_wp2
  go_ret2
  exact ⟨none, 0, rfl, IsSl.no _, Below.refl _ _⟩

set_option maxRecDepth 100000 in
set_option maxHeartbeats 8000000 in
theorem itp_own {A B : Option Addr} {c d : Nat} {xl yl : List R} {w : World} (h : IsSl w A c xl) (h' : IsSl w B d yl) (hx : xl.length ≤ 20) (he : xl.length = yl.length) :
    Calls Try.prog 24 #[.slice A xl.length c, .slice B yl.length d] w fun e w' => (¬ xl.Nodup ∧ ItpNo 8 w e w') ∨ (xl.Nodup ∧ ItpYes xl yl w e w') := by
  have hxh := Lib.hid h
  have hyh := Lib.hid h'
  obtain ⟨n, hn⟩ : ∃ n, xl.length = n := ⟨_, rfl⟩
  rw [← he, hn]
  have heh := Lib.hid (show yl.length = n by rw [← he, hn])
  have hnh := Lib.hid hn
  rw [hn] at hx
  clear h h' hn he
  go_enter Try.func24, Try.ntmps24
  go_wp2
  go_loopw [6, 7, 20] (fun v b a wr => ∃ (m : List R) (E : Option Addr) (f nm i nb : Nat) (G : Option Addr) (g : Nat), v = .slice E nm f ∧ b = .slice G nb g ∧ a = .int .i64 i ∧ i ≤ n ∧ nm ≤ 20 ∧ nb ≤ 21 ∧ Hid (m.length = nm ∧ nb = i + 1) ∧ Hid (NS xl yl m i) ∧ Hid (IsSl wr E f m) ∧ Hid (IsSl wr G g (prodL (xl.take i))) ∧ Below w.heap.size w wr) (fun _ _ a _ => n - (intOf a).toNat)
  case atStart => exact ⟨[], none, 0, 0, 0, 1, _, 1, rfl, rfl, rfl, Nat.zero_le _, by decide, by decide, Lib.hid ⟨rfl, rfl⟩, Lib.hid ⟨Nat.le_refl _, Tr.nil, by simp, fun j hj => absurd hj (Nat.not_lt_zero j)⟩, Lib.hid (IsSl.no _), Lib.hid (IsSl.made w 5 [1#8] #[.int .u8 1] _ 1 rfl rfl rfl (by decide)), mb w _⟩
  case round =>
    obtain ⟨m, E, f, nm, i, nb, G, g, rfl, rfl, rfl, hi, hnm, hnb, hl, hns, hsm, hsb, hb⟩ := hrel
    by_cases hlt : i < n
    · have i1 : (i : Int) < (n : Int) := by omega
      have i0 : (0 : Int) ≤ (i : Int) := by omega
      obtain ⟨b1, o1, rfl, hbl1, hc1⟩ := (hxh.out.below hb).read i (by rw [hnh.out]; exact hlt)
      obtain ⟨b2, o2, rfl, hbl2, hc2⟩ := (hyh.out.below hb).read i (by rw [heh.out]; exact hlt)
      have hpl := prodL_len (xl.take i)
      rw [List.length_take, Nat.min_eq_left (by have := hnh.out; omega), ← hl.out.2] at hpl
      obtain ⟨X, hX⟩ : ∃ X, xl.getD i 0 = X := ⟨_, rfl⟩
      obtain ⟨Y, hY⟩ : ∃ Y, yl.getD i 0 = Y := ⟨_, rfl⟩
      rw [hX] at hc1
      rw [hY] at hc2
      have cE := fun nq : Nat => eval_own X (hsm.out.drewN nq) (by have := hl.out.1; omega)
      have cB := fun nq : Nat => evalB_own X (hsb.out.drewN nq) (by omega)
      rw [hl.out.1] at cE
      rw [hpl] at cB
      obtain ⟨V, hV⟩ : ∃ V, ev m X = V := ⟨_, rfl⟩
      rw [hV] at cE
      obtain ⟨T, hT⟩ : ∃ T, ev (prodL (xl.take i)) X = T := ⟨_, rfl⟩
      rw [hT] at cB
      have cA := fun W => (add_own Y V W).mono fun _ _ ⟨a, b⟩ => And.intro a b.symm
      obtain ⟨Z, hZ⟩ : ∃ Z, Y ^^^ V = Z := ⟨_, rfl⟩
      rw [hZ] at cA
      have cD := fun W => div_own Z T W
      obtain ⟨F, hF⟩ : ∃ F, G5.dv Z T = F := ⟨_, rfl⟩
      have hF := Lib.hid hF
      replace cE := Lib.hid cE
      replace cB := Lib.hid cB
      replace cA := Lib.hid cA
      have hXh := Lib.hid hX
      have hplh := Lib.hid hpl
      have hcX := Lib.hid hc1
      have hdone := Lib.hid (show (T = 0 → ¬ xl.Nodup) ∧ (T ≠ 0 → NS xl yl (addL m (mulL (prodL (xl.take i)) [F])) (i + 1)) from
        ⟨fun e => hns.out.dup (by rw [hnh.out]; exact hlt) hX (by rw [hT, e]), fun e => hns.out.step (by rw [hnh.out]; exact hlt) (by rw [hnh.out]; exact hx) hX hY hV hT e (by rw [hZ]; exact hF.out)⟩)
      have cD2 : ∀ W, Calls Try.prog 37 #[bv Z, bv T] W fun e w' => e = .returned (.tuple #[bv F, .bool (!(T == 0#8))]) ∧ Below W.heap.size W w' := fun W => by rw [← hF.out]; exact cD W
      have cD2 := Lib.hid cD2
      clear hX hY hV hT hZ hpl cD
      go_wp2
      go_quiet ((first | (go_at_call 25; exact Calls.quiet_of (cE.out _)) | (go_at_call 36; exact Calls.quiet_of_same (cA.out _))))
      have cB1 := Lib.hid (cB.out nq)
      have hbd := Lib.hid (chainN (Below.refl wr.heap.size wr) nq)
      go_wp2_with fail
      refine cB1.out.mono ?_
      rintro e W2 ⟨rfl, hb2⟩
      have cD3 := Lib.hid (cD2.out W2)
      go_wp2_with fail
      refine cD3.out.mono ?_
      rintro e W3 ⟨rfl, hb3⟩
      have hbr := Lib.hid (chain (chain hbd.out hb2) hb3)
      clear cE cB cA cD2 cB1 cD3 hb2 hb3 hbd hc1 hc2 hbl1 hbl2
      rcases hT0 : T == 0#8 with _ | _
      · have hns2 := Lib.hid (hdone.out.2 (by simpa using hT0))
        clear hdone hT0
        have ob := mb W3 (.cells #[bv F] 5)
        have hbr2 := chain hbr.out ob
        have cM := mulP_own (hsb.out.below hbr2) (IsSl.made W3 5 [F] #[bv F] W3.heap.size 1 rfl rfl rfl (by decide)) (by have := hplh.out; simp; omega)
        rw [hplh.out] at cM
        simp only [List.length_cons, List.length_nil, Nat.reduceAdd] at cM
        replace cM := Lib.hid cM
        have hml := Lib.hid (mulL_const (prodL (xl.take i)) F (by have := hplh.out; omega))
        go_wp2_with fail
        refine cM.out.mono ?_
        rintro e W4 ⟨A4, c4, rfl, hs4, hb4⟩
        have hbr3 := chain hbr2 hb4
        have cP := addP_own (hsm.out.below hbr3) hs4 (by have := hl.out.1; omega) (by have := hml.out; have := hplh.out; omega)
        rw [hl.out.1] at cP
        replace cP := Lib.hid cP
        clear ob hbr2 hb4
        go_wp2_with fail
        refine cP.out.mono ?_
        rintro e W5 ⟨A5, c5, rfl, hs5, hb5⟩
        have hbr4 := chain hbr3 hb5
        obtain ⟨b6, o6, hA6, _, hc6⟩ := (hxh.out.below (hb.trans (hbr4.mono hb.size))).read i (by rw [hnh.out]; exact hlt)
        injection hA6 with hA6
        injection hA6 with hA7 hA8
        subst hA7 hA8
        rw [hXh.out] at hc6
        have ob := mb W5 (.cells #[bv X, .int .u8 1] 5)
        have hbr5 := chain hbr4 ob
        have cN := mulP_own (hsb.out.below hbr5) (IsSl.made W5 5 [X, 1#8] #[bv X, .int .u8 1] W5.heap.size 2 rfl rfl rfl (by decide)) (by have := hplh.out; simp; omega)
        rw [hplh.out] at cN
        have ebas : mulL (prodL (xl.take i)) [X, 1#8] = prodL (xl.take (i + 1)) := by
          rw [take_snoc xl i (by rw [hnh.out]; exact hlt), hXh.out, prodL_snoc]
          rfl
        rw [ebas] at cN
        simp only [List.length_cons, List.length_nil, Nat.reduceAdd] at cN
        replace cN := Lib.hid cN
        have hs5h := Lib.hid hs5
        clear hs4 hs5 hb5 hbr3 hbr4 cM cP ebas
        go_wp2_with fail
        refine cN.out.mono ?_
        rintro e W6 ⟨A6, c6, rfl, hs6, hb6⟩
        have hpl2 := prodL_len (xl.take (i + 1))
        rw [List.length_take, Nat.min_eq_left (by have := hnh.out; omega)] at hpl2
        have hs6h := Lib.hid hs6
        have hs5i := Lib.hid ((hs5h.out.below ob).below hb6)
        have hBB := hb.trans ((chain hbr5 hb6).mono hb.size)
        have hlm := hns2.out.len
        rw [hpl2]
        obtain ⟨nb2, hnb2⟩ : ∃ nb2, nb2 = i + 1 + 1 := ⟨_, rfl⟩
        rw [← hnb2]
        obtain ⟨nm2, hnm2⟩ : ∃ nm2, (addL m (mulL (prodL (xl.take i)) [F])).length = nm2 := ⟨_, rfl⟩
        rw [hnm2] at hlm ⊢
        have hl2 := Lib.hid (And.intro hnm2 hnb2)
        have hnb20 : nb2 ≤ 21 := by omega
        have hnm20 : nm2 ≤ 20 := by omega
        clear hs6 hs5h hb6 hbr5 ob cN hpl2 hnb2 hnm2 hlm hb
        go_wp2
        go_roundw
        case rel => exact ⟨_, A5, c5, nm2, i + 1, nb2, A6, c6, rfl, rfl, by go_num, by omega, hnm20, hnb20, hl2, hns2, hs5i, hs6h, hBB⟩
        case measure => simp [intOf]; omega
      · have hno := Lib.hid (hdone.out.1 (by simpa using hT0))
        clear hdone hT0
        have hBB := Lib.hid (hb.trans (hbr.out.mono hb.size))
        clear hb
        go_wp2
        go_ret2
        exact .inl ⟨hno.out, none, 0, rfl, IsSl.no _, hBB.out⟩
    · have i1 : ¬ (i : Int) < (n : Int) := by omega
      have hin : i = xl.length := by have := hnh.out; omega
      rw [hin] at hns
      have hfin := Lib.hid hns.out.done
      have hl1 := Lib.hid hl.out.1
      clear hl hin
      go_wp2
      go_ret2
      exact .inr ⟨hfin.out.1, m, E, f, hfin.out.2, by rw [hl1.out]; rfl, hsm.out, hb⟩
theorem it2_own {A B : Option Addr} {c d : Nat} {xl yl : List R} {w : World} (h : IsSl w A c xl) (h' : IsSl w B d yl) (hx : xl.length ≤ 20) (he : xl.length = yl.length) (hn : ¬ xl.Nodup) :
    Calls Try.prog 24 #[.slice A xl.length c, .slice B yl.length d] w (ItpNo 8 w) :=
  (itp_own h h' hx he).mono fun _ _ h => h.elim (fun h => h.2) (fun h => absurd h.1 hn)
theorem it3_own {A B : Option Addr} {c d : Nat} {xl yl : List R} {w : World} (h : IsSl w A c xl) (h' : IsSl w B d yl) (hx : xl.length ≤ 20) (he : xl.length = yl.length) (hn : xl.Nodup) :
    Calls Try.prog 24 #[.slice A xl.length c, .slice B yl.length d] w (ItpYes xl yl w) :=
  (itp_own h h' hx he).mono fun _ _ h => h.elim (fun h => absurd hn h.1) (fun h => h.2)
end Go.Proofs.Ytcakdhnlgeiodaa.G6
