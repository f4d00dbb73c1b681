/- Declarations of the landed reader: program (layer 20). -/
import Derived.Test.YtpbcncfbfbghcaaGreatDoorP20L
namespace Go.Proofs.YtpbcncfbfbghcaaGreatDoor.L20
set_option maxRecDepth 100000
open Go.RowKit Mem L19
set_option linter.unusedVariables false
set_option linter.unusedSimpArgs false

def PgR (n0 : Nat) : Prog → Value → World → Prop := fun p v w' => ∃ (V A E : Option Addr) (lv cv la ca lf ce : Nat), v = .agg #[.slice V lv cv, .slice A la ca, .slice E lf ce] ∧ p.vars.length = lv ∧ p.arrays.length = la ∧ p.funcs.length = lf ∧ PgM w' (fun b => n0 ≤ b) p V A E cv ca ce
theorem info_array : (Tryz.prog.info? 72).map (fun i => (i.zero, i.size, i.bytes)) = some (some (.agg #[.string ⟨#[]⟩, .int .i64 0]), 2, 24) := by kernel_rfl
theorem info_func : (Tryz.prog.info? 44).map (fun i => (i.zero, i.size, i.bytes)) = some (some (.agg #[.string ⟨#[]⟩, .slice none 0 0, .slice none 0 0, .slice none 0 0]), 4, 88) := by kernel_rfl
theorem two_ar (S : ByteArray) (N : Int) : ∀ u ∈ ([.string S, .int .i64 N] : List Value), u.oneCell' = true := fun u hu => by
  simp only [List.mem_cons, List.not_mem_nil, or_false] at hu
  rcases hu with rfl | rfl <;> rfl
theorem four_fn (S : ByteArray) (P L C : Option Addr) (lp cp ll cl lc cc : Nat) : ∀ u ∈ ([.string S, .slice P lp cp, .slice L ll cl, .slice C lc cc] : List Value), u.oneCell' = true := fun u hu => by
  simp only [List.mem_cons, List.not_mem_nil, or_false] at hu
  rcases hu with rfl | rfl | rfl | rfl <;> rfl
theorem pg_box {W : World} {g : Nat} {c0 c1 c2 : Value} (h : Blk 27 W g [c0, c1, c2]) : W.cell? ⟨g, 0, none⟩ = some c0 ∧ W.cell? ⟨g, 1, none⟩ = some c1 ∧ W.cell? ⟨g, 2, none⟩ = some c2 ∧
    W.frozen? ⟨g, 0, none⟩ = false ∧ W.frozen? ⟨g, 1, none⟩ = false ∧ W.frozen? ⟨g, 2, none⟩ = false := ⟨h.cell 0, h.cell 1, h.cell 2, h.frz 0, h.frz 1, h.frz 2⟩
theorem tfn_pos (f : Fn) : 1 ≤ (tfn f).length := by unfold tfn; simp
theorem arr_adv {ts r : List Tk} {x : Str × Nat} (h : arr ts = some (.ok x r)) : r.length < ts.length := by
  unfold arr at h
  cases e : name ts.tail with
  | bad c us => rw [e] at h; cases h
  | ok s t1 =>
    rw [e] at h
    obtain ⟨n1, _, n3⟩ := name_ok (show some (name ts.tail) = some (.ok s t1) from by rw [e])
    have hp := kd_pos n1
    have hs : Sx t1 (bnd (some (.ok s t1)) fun s ts => bnd (some (enter [91] 0 ts)) fun _ ts => bnd (some (number ts)) fun k ts => bnd (some (want [93] ts)) fun _ ts => bnd (some (want [59] ts)) fun _ ts => some (.ok (s, k) ts)) :=
      Sx.bnd (Sx.ok _ _) fun _ _ => Sx.bnd (sx_enter _ _ _) fun _ _ => Sx.bnd (sx_number _) fun _ _ => Sx.bnd (sx_want _ _) fun _ _ => Sx.bnd (sx_want _ _) fun _ _ => Sx.ok _ _
    have := (hs.1 _ _ h).length_le
    have h3 : ts.tail.length ≤ ts.length := by cases ts <;> simp
    subst n3
    omega
theorem at_some {l : List L19.Tok} {k : Nat} (h : k < l.length) : at_ l k ≠ [] := fun e => by
  have := congrArg List.length e
  rw [at_len l (by omega)] at this
  simp at this
  omega
section
variable {base B k o : Nat} {l : List L19.Tok} {w : World}
set_option maxHeartbeats 16000000 in
theorem program_any {n : Nat} (h : RdS base B l k 0 w) {r : Rs Prog} (hr : prog n Prog.nil (at_ l k) = some r) :
    Calls Tryz.prog 29 #[.pointer (some ⟨B, 0, none⟩)] w (Ae base B l 0 w (PgR w.heap.size) r) := by
  obtain ⟨iS, hiS, hiS0, hiS1, hiS2⟩ := info_parts info_string
  obtain ⟨iA, hiA, hiA0, hiA1, hiA2⟩ := info_parts info_array
  obtain ⟨iF, hiF, hiF0, hiF1, hiF2⟩ := info_parts info_func
  obtain ⟨W0, g, hW0, hg0, hb0, hst0, hgr0, hbg, hgl, hgB⟩ := start_box h [.slice none 0 0, .slice none 0 0, .slice none 0 0] 27
  obtain ⟨W1, g3, hW1, hg3, hb3, hst1, hgr1, hbg3, hgl3, hgB3⟩ := start_box hst0 [.slice none 0 0, .slice none 0 0, .slice none 0 0] 27
  have hbl1 : Below W0.heap.size W0 W1 := by rw [← hW1]; exact boxed W0 _
  have hwg : w.heap.size ≤ g := by omega
  have hgg : g ≠ g3 := by omega
  have hw3 : w.heap.size ≤ g3 := by omega
  have hlow := h.low
  have hok := h.ok
  have hkl := h.kn
  have hb01 := Lib.hid (hb0.below hbl1)
  have hgr01 := Lib.hid (hgr0.trans hgr1)
  obtain ⟨z, hz⟩ : ∃ z, W1.heap.size = z := ⟨_, rfl⟩
  have hzg : g3 < z := by omega
  have hzB : B < z := by omega
  have hzw : w.heap.size ≤ z := by omega
  have hbz : base ≤ z := by omega
  have hgz : g < z := by omega
  have hP0 := Lib.hid (P3.nil z W1)
  have hst1 := Lib.hid hst1
  have hb31 := Lib.hid hb3
  have hstart : Hid (∃ m, prog m Prog.nil (at_ l k) = some r) := Lib.hid ⟨n, hr⟩
  have hz0 : z ≤ W1.heap.size := Nat.le_of_eq hz.symm
  have hf1 := fld1
  replace hok := Lib.hid hok
  clear h hr hst0 hgr0 hgr1 hb0 hb3 hbl1 hz
  go_enter Tryz.func29, Tryz.ntmps29
  go_wp2
  clear hW0 hW1
  go_loopw [16] (fun _ wr => ∃ (k' : Nat) (p : Prog) (v a f : Value), k' ≤ l.length ∧ p.vars.length ≤ k' ∧ p.arrays.length ≤ k' ∧ p.funcs.length ≤ k' ∧ Hid (∃ m, prog m p (at_ l k') = some r) ∧ Hid (RdS base B l k' 0 wr) ∧ Hid (Gr B w wr) ∧
    Hid (Blk 27 wr g [.slice none 0 0, .slice none 0 0, .slice none 0 0]) ∧ Hid (Blk 27 wr g3 [v, a, f]) ∧ Hid (P3 z wr v a f p) ∧ z ≤ wr.heap.size) (fun _ wr => l.length - placeOf wr B)
  case atStart => exact ⟨k, Prog.nil, _, _, _, hkl, Nat.zero_le _, Nat.zero_le _, Nat.zero_le _, hstart, hst1, hgr01, hb01, hb31, hP0, hz0⟩
  case round =>
    clear hstart hst1 hgr01 hb01 hb31 hP0 hz0 hkl
    obtain ⟨k', p, v, a, f, hk', hlv, hla, hlf, hq, hst, hgr, hbg', hb3', hP, hzr⟩ := hrel
    obtain ⟨⟨V, cv, rfl⟩, ⟨A, ca, rfl⟩, ⟨E, ce, rfl⟩⟩ := hP.out.slices
    obtain ⟨lv, hlv'⟩ : ∃ lv, p.vars.length = lv := ⟨_, rfl⟩
    obtain ⟨la, hla'⟩ : ∃ la, p.arrays.length = la := ⟨_, rfl⟩
    obtain ⟨lf, hlf'⟩ : ∃ lf, p.funcs.length = lf := ⟨_, rfl⟩
    rw [hlv', hla', hlf'] at hP hb3'
    rw [hlv'] at hlv
    rw [hla'] at hla
    rw [hlf'] at hlf
    replace hlv' := Lib.hid hlv'
    replace hla' := Lib.hid hla'
    replace hlf' := Lib.hid hlf'
    have hlen := hok.out.len
    have hplace := hst.out.place
    obtain ⟨At, nt, ct, ht1, ht2, _⟩ := hst.out.box
    have hnt := ht2.len
    have y0 := ht1.cell 0
    have y1 := ht1.cell 1
    simp only [List.getElem?_cons_zero, List.getElem?_cons_succ] at y0 y1
    clear ht1 ht2
    by_cases hlt : k' < l.length
    · have dk : decide ((k' : Int) < (nt : Int)) = true := decide_eq_true (by omega)
      have dk2 : decide (k' < nt) = true := decide_eq_true (by omega)
      have cP := Lib.hid (fun W (hW : Below wr.heap.size wr W) => peek_any (hst.out.below hW))
      have test : ∀ (s : Str) (S : ByteArray) (Y : ByteArray), Ks s → strV s = .string S → strV (tokAt l k').2.1 = .string Y → (Y.toList == S.toList) = sg s (at_ l k') := fun s S Y h1 h2 h3 => by
        have q := sg_text (hst.out.ok.goodAt k') h1
        rw [tokAt_tx] at q
        exact (str_beq h3 h2).trans q.symm
      have tV := fun (Y : ByteArray) hY => test kVar ⟨#[118, 97, 114]⟩ Y ks_var rfl hY
      have tA := fun (Y : ByteArray) hY => test kArray ⟨#[97, 114, 114, 97, 121]⟩ Y ks_array rfl hY
      have tF := fun (Y : ByteArray) hY => test kFunc ⟨#[102, 117, 110, 99]⟩ Y ks_func rfl hY
      rw [show (⟨#[118, 97, 114]⟩ : ByteArray).toList = [118, 97, 114] by simp [ByteArray.toList_eq]] at tV
      rw [show (⟨#[97, 114, 114, 97, 121]⟩ : ByteArray).toList = [97, 114, 114, 97, 121] by simp [ByteArray.toList_eq]] at tA
      rw [show (⟨#[102, 117, 110, 99]⟩ : ByteArray).toList = [102, 117, 110, 99] by simp [ByteArray.toList_eq]] at tF
      have hne0 := at_some hlt
      obtain ⟨m1, hq1⟩ : ∃ m1, (if sg kVar (at_ l k') then bnd (vars m1 (at_ l k')) fun x ts => prog m1 { p with vars := p.vars ++ x } ts else if sg kArray (at_ l k') then bnd (arr (at_ l k')) fun x ts => prog m1 { p with arrays := p.arrays ++ [x] } ts
          else if sg kFunc (at_ l k') then bnd (func m1 (at_ l k')) fun x ts => prog m1 { p with funcs := p.funcs ++ [x] } ts else some (.bad 3 (at_ l k'))) = some r := by
        obtain ⟨m, hm⟩ := hq.out
        cases m with
        | zero => rw [prog] at hm; cases hm
        | succ m =>
          rw [prog, if_neg hne0] at hm
          exact ⟨m, hm⟩
      clear test hq hnt
      go_wp2_with fail
      go_quiet (fail)
      go_wp2_with fail
      refine (cP.out _ (chainN (Below.refl _ _) nq)).mono ?_
      rintro e w6 ⟨K, Z, Y, rfl, hK, hZ, hY, hb6'⟩
      have hb6 : Below wr.heap.size wr w6 := (chainN (Below.refl wr.heap.size wr) nq).trans hb6'
      clear hK hZ hb6' y0 y1
      replace tV := tV Y hY
      replace tA := tA Y hY
      replace tF := tF Y hY
      clear hY cP
      obtain ⟨Wd, hWd⟩ : ∃ W, w6.drew = W := ⟨_, rfl⟩
      have hbd : Below wr.heap.size wr Wd := by rw [← hWd]; exact below_drewB hb6
      have hKd : Hid (Blk 27 Wd g3 [.slice V lv cv, .slice A la ca, .slice E lf ce]) := Lib.hid (hb3'.out.below hbd)
      rcases hs : sg kVar (at_ l k') with _ | _
      rotate_left
      · rw [hs] at tV
        have cV : ∀ W, Below wr.heap.size wr W → Calls Tryz.prog 63 #[.pointer (some ⟨B, 0, none⟩)] W (fun e w7 => (∃ (lx : List Str) (k8 : Nat) (A5 : Option Addr) (L5 cap5 : Nat), e = .returned (.slice A5 L5 cap5) ∧
            Hid (∃ m, prog m { p with vars := p.vars ++ lx } (at_ l k8) = some r) ∧ Hid (RdS base B l k8 0 w7) ∧ Hid (Gr B w w7) ∧ Hid (Blk 27 w7 g [.slice none 0 0, .slice none 0 0, .slice none 0 0]) ∧ Hid (Blk 27 w7 g3 [.slice V lv cv, .slice A la ca, .slice E lf ce]) ∧ Hid (P3 z w7 (.slice V lv cv) (.slice A la ca) (.slice E lf ce) p) ∧
            Hid ((∃ ad, A5 = some ad ∧ ∀ j u, (strVs lx)[j]? = some u → w7.cell? (ad.add j) = some u) ∧ lx.length = L5 ∧ lv + L5 ≤ 60000) ∧ Hid (k' < k8 ∧ lv + L5 ≤ k8) ∧ wr.heap.size ≤ w7.heap.size) ∨ (∃ c ts, e = .panicked [fl (lnAt l ts) c] ∧ Hid (Ae base B l 0 w (PgR w.heap.size) r (.panicked [fl (lnAt l ts) c]) w7))) := fun W hW => by
          rw [hs, if_pos rfl] at hq1
          obtain ⟨q, hvars, hq2⟩ := opt_of hq1
          refine (variables_any (hst.out.below hW) (by rw [← var_eq hs]; exact hvars)).mono ?_
          rintro e w7 (⟨lx, k8, v8, hx8, rfl, ⟨A5, L5, cap5, rfl, hL5, hC5⟩, hst8, hg8⟩ | ⟨c, ts, hx8, rfl, hg8⟩)
          · have hk8 := hst8.kn
            rw [hx8] at hvars
            obtain ⟨_, hd1, hd2, _⟩ := read_vars (hok.out.goodAt k') hne0 hvars
            rw [at_len l hk', at_len l hk8] at hd1
            have hle2 : 1 ≤ lx.length := List.length_pos_iff.2 hd2
            have hws := hW.size
            have hgs := hg8.size
            exact .inl ⟨lx, k8, A5, L5, cap5, rfl, Lib.hid ⟨m1, ok_of hq2 hx8⟩, Lib.hid hst8, Lib.hid ((Gr.below hgr.out hW).trans hg8), Lib.hid (hg8.blk (hbg'.out.below hW) hgB), Lib.hid (hg8.blk (hb3'.out.below hW) hgB3),
              Lib.hid ((hP.out.keep (Kept.of_below hW)).keep (Gr.kept hg8 fun b h => by have : z ≤ b := h; omega)), Lib.hid ⟨hC5.news hd2, hL5, by omega⟩, Lib.hid ⟨by omega, by omega⟩, by omega⟩
          · exact .inr ⟨c, ts, rfl, Lib.hid (Ae.bad (bad_of hq2 hx8) ((Gr.below hgr.out hW).trans hg8))⟩
        replace cV := Lib.hid (cV Wd hbd)
        replace hWd := Lib.hid hWd
        clear hs hq1 hne0 hst hgr hbg' hb3' hP hbd hb6 tA tF
        go_wp2_with fail
        refine wp_region_held_drew (S := fun _ => True) (by kernel_rfl) trivial (fun hHeld => ?_)
        rw [hWd.out]
        refine wpAnyH_take (i := 0) (v := .pointer (some ⟨g3, 0, none⟩)) rfl (by kernel_rfl) (by kernel_rfl) (by kernel_rfl) (fun _ _ _ h => h) (Or.inl ⟨by rfl, ?hV0⟩) (by assumption) ?rV0
        case hV0 =>
          intro W hW
          go_simp
        simp only [Act.put, List.setIfInBounds_toArray, List.set_cons_zero, List.set_cons_succ]
        refine wpAnyH_take (i := 2) (v := .pointer (some ⟨B, 0, none⟩)) rfl (by kernel_rfl) (by kernel_rfl) (by kernel_rfl) (fun _ _ _ h => h) (Or.inl ⟨by rfl, ?hV1⟩) (by assumption) ?rV1
        case hV1 =>
          intro W hW
          go_simp
        simp only [Act.put, List.setIfInBounds_toArray, List.set_cons_zero, List.set_cons_succ]
        refine wpAnyH_ready (rs := [1, 3]) (by kernel_rfl) (by simp) ?_
        refine AllReadyH.cons rfl (fun K hK => ?_) (AllReadyH.cons rfl (fun K hK => ?_) AllReadyH.nil)
        · obtain ⟨x0, x1, x2, _, _, _⟩ := pg_box hKd.out
          go_simp
          refine Shut.out hK _ _ trivial (fun hHeld => ?_)
          try simp only [Act.put, List.setIfInBounds_toArray, List.set_cons_zero, List.set_cons_succ]
          refine wpAnyH_ready (rs := [3]) (by kernel_rfl) (by simp) ?_
          refine AllReadyH.cons rfl (fun K hK => ?_) AllReadyH.nil
          · go_simp
            refine (cV.out).mono ?_
            rintro e w7 (⟨lx, k8, A5, L5, cap5, rfl, i1, i2, i3, i4, i5, i6, i8, i9, i10⟩ | ⟨c, ts, rfl, i1⟩)
            case inr => exact ⟨rfl, i1.out⟩
            refine Shut.out hK _ _ trivial (fun hHeld => ?_)
            try simp only [Act.put, List.setIfInBounds_toArray, List.set_cons_zero, List.set_cons_succ]
            refine wpAnyH_ready (rs := [4]) (by kernel_rfl) (by simp) ?_
            refine AllReadyH.cons rfl (fun K hK => ?_) AllReadyH.nil
            · obtain ⟨⟨ad, had, hnews⟩, hL5, hsum⟩ := i8.out
              subst had
              rw [if_pos (by rfl)]
              have hown := i6.out.rv
              rw [hlv'.out] at hown
              refine wp_append_at _ _ 23 rfl z 9 iS (.string ⟨#[]⟩) 1 16 Tryz.underlying23 hiS hiS0 hiS1 hiS2 rfl (by decide) (.slice V lv cv) lv (strVs p.vars) rfl hown ad L5 cap5 (strVs lx) rfl (by rw [strVs_len]; omega) hnews (strVs_one lx) (by unfold maxLen; omega) (by omega) (by have := i10; omega) ?_
              intro v2 w9 hown2 hgrow hblk
              have hP9 := i6.out.appV (lx := lx) hL5 (by rw [hlv'.out]; exact hown2) hgrow hblk
              have hrow : ∀ j, (Value.slice V lv cv).ownBlock = some j → z ≤ j := fun j hj => (i6.out.low j (.inl hj)).1
              refine Shut.out hK _ _ trivial (fun hHeld => ?_)
              try simp only [Act.put, List.setIfInBounds_toArray, List.set_cons_zero, List.set_cons_succ]
              refine wpAnyH_ready (rs := [5]) (by kernel_rfl) (by simp) ?_
              refine AllReadyH.cons rfl (fun K hK => ?_) AllReadyH.nil
              · go_simp
                refine Shut.out hK _ _ trivial (fun hHeld => ?_)
                try simp only [Act.put, List.setIfInBounds_toArray, List.set_cons_zero, List.set_cons_succ]
                refine wpAnyH_ready (rs := [6]) (by kernel_rfl) (by simp) ?_
                refine AllReadyH.cons rfl (fun K hK => ?_) AllReadyH.nil
                · obtain ⟨A2, cap2, hv2, _, _, _⟩ := A18.own2_slice hown2
                  subst hv2
                  have hb39 : Blk 27 w9 g3 [.slice V lv cv, .slice A la ca, .slice E lf ce] := (hgrow.block g3 (i5.out).lt (fun e => by have := hrow g3 e.symm; omega)).trans i5.out
                  obtain ⟨x0, x1, x2, f0, f1, f2⟩ := pg_box hb39
                  obtain ⟨W9, hW9⟩ : ∃ W, w9.setCell ⟨g3, 0, none⟩ (.slice A2 (lv + L5) cap2) = W := ⟨_, rfl⟩
                  have j1 : RdS base B l k8 0 W9 := by rw [← hW9]; exact (RdS.grow i2.out hgrow (fun j hj => Nat.le_trans hbz (hrow j hj))).set hbg3 0 _
                  have j2 : Gr B w W9 := by rw [← hW9]; exact Gr.set (Gr.grow i3.out hgrow (fun j hj => by have := hrow j hj; omega)) hw3 _
                  have j3 : Blk 27 W9 g [.slice none 0 0, .slice none 0 0, .slice none 0 0] := by rw [← hW9]; exact Blk.other ((hgrow.block g (i4.out).lt (fun e => by have := hrow g e.symm; omega)).trans i4.out) hgg _
                  have j4 : Blk 27 W9 g3 [.slice A2 (lv + L5) cap2, .slice A la ca, .slice E lf ce] := by rw [← hW9]; exact hb39.set 0 _
                  have j5 := hP9.keep (w' := W9) (by rw [← hW9]; exact Kept.set w9 (fun h => by have : z ≤ g3 := h; omega) _)
                  have j7 : z ≤ W9.heap.size := by have := hgrow.size; have := i10; rw [← hW9]; simp; omega
                  have hpl := j1.place
                  have hk8 := j1.kn
                  obtain ⟨hadv, hal⟩ := i9.out
                  have l1 : ({ p with vars := p.vars ++ lx } : Prog).vars.length ≤ k8 := by show (p.vars ++ lx).length ≤ k8; rw [List.length_append, hlv'.out, i8.out.2.1]; exact hal
                  have l2 : ({ p with vars := p.vars ++ lx } : Prog).arrays.length ≤ k8 := by show p.arrays.length ≤ k8; rw [hla'.out]; omega
                  have l3 : ({ p with vars := p.vars ++ lx } : Prog).funcs.length ≤ k8 := by show p.funcs.length ≤ k8; rw [hlf'.out]; omega
                  replace j1 := Lib.hid j1
                  replace j2 := Lib.hid j2
                  replace j3 := Lib.hid j3
                  replace j4 := Lib.hid j4
                  replace j5 := Lib.hid j5
                  go_simp
                  refine Shut.out hK _ _ trivial (fun hHeld => ?_)
                  refine wpAnyH_done (by kernel_rfl) ?_ _
                  clear hHeld hb39 hP9 hown2 hgrow hblk hrow hK x0 x1 x2 f0 f1 f2 hW9
                  go_wp2
                  go_roundw
                  case rel => exact ⟨k8, _, _, _, _, hk8, l1, l2, l3, i1, j1, j2, j3, j4, j5, j7⟩
                  case measure => rw [hpl, hplace]; omega
        · go_simp
          refine (cV.out).mono ?_
          rintro e w7 (⟨lx, k8, A5, L5, cap5, rfl, i1, i2, i3, i4, i5, i6, i8, i9, i10⟩ | ⟨c, ts, rfl, i1⟩)
          case inr => exact ⟨rfl, i1.out⟩
          refine Shut.out hK _ _ trivial (fun hHeld => ?_)
          try simp only [Act.put, List.setIfInBounds_toArray, List.set_cons_zero, List.set_cons_succ]
          refine wpAnyH_ready (rs := [1]) (by kernel_rfl) (by simp) ?_
          refine AllReadyH.cons rfl (fun K hK => ?_) AllReadyH.nil
          · obtain ⟨x0, x1, x2, _, _, _⟩ := pg_box i5.out
            go_simp
            refine Shut.out hK _ _ trivial (fun hHeld => ?_)
            try simp only [Act.put, List.setIfInBounds_toArray, List.set_cons_zero, List.set_cons_succ]
            refine wpAnyH_ready (rs := [4]) (by kernel_rfl) (by simp) ?_
            refine AllReadyH.cons rfl (fun K hK => ?_) AllReadyH.nil
            · obtain ⟨⟨ad, had, hnews⟩, hL5, hsum⟩ := i8.out
              subst had
              rw [if_pos (by rfl)]
              have hown := i6.out.rv
              rw [hlv'.out] at hown
              refine wp_append_at _ _ 23 rfl z 9 iS (.string ⟨#[]⟩) 1 16 Tryz.underlying23 hiS hiS0 hiS1 hiS2 rfl (by decide) (.slice V lv cv) lv (strVs p.vars) rfl hown ad L5 cap5 (strVs lx) rfl (by rw [strVs_len]; omega) hnews (strVs_one lx) (by unfold maxLen; omega) (by omega) (by have := i10; omega) ?_
              intro v2 w9 hown2 hgrow hblk
              have hP9 := i6.out.appV (lx := lx) hL5 (by rw [hlv'.out]; exact hown2) hgrow hblk
              have hrow : ∀ j, (Value.slice V lv cv).ownBlock = some j → z ≤ j := fun j hj => (i6.out.low j (.inl hj)).1
              refine Shut.out hK _ _ trivial (fun hHeld => ?_)
              try simp only [Act.put, List.setIfInBounds_toArray, List.set_cons_zero, List.set_cons_succ]
              refine wpAnyH_ready (rs := [5]) (by kernel_rfl) (by simp) ?_
              refine AllReadyH.cons rfl (fun K hK => ?_) AllReadyH.nil
              · go_simp
                refine Shut.out hK _ _ trivial (fun hHeld => ?_)
                try simp only [Act.put, List.setIfInBounds_toArray, List.set_cons_zero, List.set_cons_succ]
                refine wpAnyH_ready (rs := [6]) (by kernel_rfl) (by simp) ?_
                refine AllReadyH.cons rfl (fun K hK => ?_) AllReadyH.nil
                · obtain ⟨A2, cap2, hv2, _, _, _⟩ := A18.own2_slice hown2
                  subst hv2
                  have hb39 : Blk 27 w9 g3 [.slice V lv cv, .slice A la ca, .slice E lf ce] := (hgrow.block g3 (i5.out).lt (fun e => by have := hrow g3 e.symm; omega)).trans i5.out
                  obtain ⟨x0, x1, x2, f0, f1, f2⟩ := pg_box hb39
                  obtain ⟨W9, hW9⟩ : ∃ W, w9.setCell ⟨g3, 0, none⟩ (.slice A2 (lv + L5) cap2) = W := ⟨_, rfl⟩
                  have j1 : RdS base B l k8 0 W9 := by rw [← hW9]; exact (RdS.grow i2.out hgrow (fun j hj => Nat.le_trans hbz (hrow j hj))).set hbg3 0 _
                  have j2 : Gr B w W9 := by rw [← hW9]; exact Gr.set (Gr.grow i3.out hgrow (fun j hj => by have := hrow j hj; omega)) hw3 _
                  have j3 : Blk 27 W9 g [.slice none 0 0, .slice none 0 0, .slice none 0 0] := by rw [← hW9]; exact Blk.other ((hgrow.block g (i4.out).lt (fun e => by have := hrow g e.symm; omega)).trans i4.out) hgg _
                  have j4 : Blk 27 W9 g3 [.slice A2 (lv + L5) cap2, .slice A la ca, .slice E lf ce] := by rw [← hW9]; exact hb39.set 0 _
                  have j5 := hP9.keep (w' := W9) (by rw [← hW9]; exact Kept.set w9 (fun h => by have : z ≤ g3 := h; omega) _)
                  have j7 : z ≤ W9.heap.size := by have := hgrow.size; have := i10; rw [← hW9]; simp; omega
                  have hpl := j1.place
                  have hk8 := j1.kn
                  obtain ⟨hadv, hal⟩ := i9.out
                  have l1 : ({ p with vars := p.vars ++ lx } : Prog).vars.length ≤ k8 := by show (p.vars ++ lx).length ≤ k8; rw [List.length_append, hlv'.out, i8.out.2.1]; exact hal
                  have l2 : ({ p with vars := p.vars ++ lx } : Prog).arrays.length ≤ k8 := by show p.arrays.length ≤ k8; rw [hla'.out]; omega
                  have l3 : ({ p with vars := p.vars ++ lx } : Prog).funcs.length ≤ k8 := by show p.funcs.length ≤ k8; rw [hlf'.out]; omega
                  replace j1 := Lib.hid j1
                  replace j2 := Lib.hid j2
                  replace j3 := Lib.hid j3
                  replace j4 := Lib.hid j4
                  replace j5 := Lib.hid j5
                  go_simp
                  refine Shut.out hK _ _ trivial (fun hHeld => ?_)
                  refine wpAnyH_done (by kernel_rfl) ?_ _
                  clear hHeld hb39 hP9 hown2 hgrow hblk hrow hK x0 x1 x2 f0 f1 f2 hW9
                  go_wp2
                  go_roundw
                  case rel => exact ⟨k8, _, _, _, _, hk8, l1, l2, l3, i1, j1, j2, j3, j4, j5, j7⟩
                  case measure => rw [hpl, hplace]; omega
      have hsV := hs
      rw [hs] at tV
      clear hs
      rcases hs : sg kArray (at_ l k') with _ | _
      rotate_left
      · rw [hs] at tA
        have cV : ∀ W, Below wr.heap.size wr W → Calls Tryz.prog 64 #[.pointer (some ⟨B, 0, none⟩)] W (fun e w7 => (∃ (x : Str × Nat) (k8 : Nat) (S : ByteArray) (N : Int), e = .returned (.agg #[.string S, .int .i64 N]) ∧
            Hid (∃ m, prog m { p with arrays := p.arrays ++ [x] } (at_ l k8) = some r) ∧ Hid (RdS base B l k8 0 w7) ∧ Hid (Gr B w w7) ∧ Hid (Blk 27 w7 g [.slice none 0 0, .slice none 0 0, .slice none 0 0]) ∧ Hid (Blk 27 w7 g3 [.slice V lv cv, .slice A la ca, .slice E lf ce]) ∧ Hid (P3 z w7 (.slice V lv cv) (.slice A la ca) (.slice E lf ce) p) ∧
            Hid (strV x.1 = .string S ∧ N = (x.2 : Int)) ∧ Hid (k' < k8 ∧ la + 1 ≤ k8) ∧ wr.heap.size ≤ w7.heap.size) ∨ (∃ c ts, e = .panicked [fl (lnAt l ts) c] ∧ Hid (Ae base B l 0 w (PgR w.heap.size) r (.panicked [fl (lnAt l ts) c]) w7))) := fun W hW => by
          rw [hsV, if_neg Bool.false_ne_true, hs, if_pos rfl] at hq1
          obtain ⟨q, harr, hq2⟩ := opt_of hq1
          refine (array_any (hst.out.below hW) (by rw [← arr_eq hs]; exact harr)).mono ?_
          rintro e w7 (⟨x, k8, v8, hx8, rfl, ⟨S, N, rfl, hS, hN⟩, hst8, hg8⟩ | ⟨c, ts, hx8, rfl, hg8⟩)
          · have hk8 := hst8.kn
            rw [hx8] at harr
            have hd1 := ((sx_arr (at_ l k')).1 _ _ harr).length_le
            have hd2 : (at_ l k8).length < (at_ l k').length := arr_adv harr
            rw [at_len l hk', at_len l hk8] at hd2
            have hws := hW.size
            have hgs := hg8.size
            exact .inl ⟨x, k8, S, N, rfl, Lib.hid ⟨m1, ok_of hq2 hx8⟩, Lib.hid hst8, Lib.hid ((Gr.below hgr.out hW).trans hg8), Lib.hid (hg8.blk (hbg'.out.below hW) hgB), Lib.hid (hg8.blk (hb3'.out.below hW) hgB3),
              Lib.hid ((hP.out.keep (Kept.of_below hW)).keep (Gr.kept hg8 fun b h => by have : z ≤ b := h; omega)), Lib.hid ⟨hS, hN⟩, Lib.hid ⟨by omega, by omega⟩, by omega⟩
          · exact .inr ⟨c, ts, rfl, Lib.hid (Ae.bad (bad_of hq2 hx8) ((Gr.below hgr.out hW).trans hg8))⟩
        replace cV := Lib.hid (cV Wd hbd)
        replace hWd := Lib.hid hWd
        clear hs hq1 hne0 hst hgr hbg' hb3' hP hbd hb6 hsV tF
        go_wp2_with fail
        refine wp_region_held_drew (S := fun _ => True) (by kernel_rfl) trivial (fun hHeld => ?_)
        rw [hWd.out]
        refine wpAnyH_take (i := 0) (v := .pointer (some ⟨g3, 1, none⟩)) rfl (by kernel_rfl) (by kernel_rfl) (by kernel_rfl) (fun _ _ _ h => h) (Or.inl ⟨by rfl, ?hA0⟩) (by assumption) ?rA0
        case hA0 =>
          intro W hW
          go_simp
        simp only [Act.put, List.setIfInBounds_toArray, List.set_cons_zero, List.set_cons_succ]
        refine wpAnyH_take (i := 2) (v := .pointer (some ⟨B, 0, none⟩)) rfl (by kernel_rfl) (by kernel_rfl) (by kernel_rfl) (fun _ _ _ h => h) (Or.inl ⟨by rfl, ?hA1⟩) (by assumption) ?rA1
        case hA1 =>
          intro W hW
          go_simp
        simp only [Act.put, List.setIfInBounds_toArray, List.set_cons_zero, List.set_cons_succ]
        refine wpAnyH_ready (rs := [1, 3]) (by kernel_rfl) (by simp) ?_
        refine AllReadyH.cons rfl (fun K hK => ?_) (AllReadyH.cons rfl (fun K hK => ?_) AllReadyH.nil)
        · obtain ⟨x0, x1, x2, _, _, _⟩ := pg_box hKd.out
          go_simp
          refine Shut.out hK _ _ trivial (fun hHeld => ?_)
          try simp only [Act.put, List.setIfInBounds_toArray, List.set_cons_zero, List.set_cons_succ]
          refine wpAnyH_ready (rs := [3]) (by kernel_rfl) (by simp) ?_
          refine AllReadyH.cons rfl (fun K hK => ?_) AllReadyH.nil
          · go_simp
            refine (cV.out).mono ?_
            rintro e w7 (⟨x, k8, S, N, rfl, i1, i2, i3, i4, i5, i6, i8, i9, i10⟩ | ⟨c, ts, rfl, i1⟩)
            case inr => exact ⟨rfl, i1.out⟩
            refine Shut.out hK _ _ trivial (fun hHeld => ?_)
            try simp only [Act.put, List.setIfInBounds_toArray, List.set_cons_zero, List.set_cons_succ]
            refine wpAnyH_ready (rs := [4]) (by kernel_rfl) (by simp) ?_
            refine AllReadyH.cons rfl (fun K hK => ?_) AllReadyH.nil
            · go_simp
              refine Shut.out hK _ _ trivial (fun hHeld => ?_)
              try simp only [Act.put, List.setIfInBounds_toArray, List.set_cons_zero, List.set_cons_succ]
              obtain ⟨w8, hw8⟩ : ∃ W, w7.alloc (.cells #[.string S, .int .i64 N] 72) = W := ⟨_, rfl⟩
              rw [hw8]
              have hb78 : Below w7.heap.size w7 w8 := by rw [← hw8]; exact boxed w7 _
              have hnew : ∀ j u, ([.string S, .int .i64 N] : List Value)[j]? = some u → w8.cell? ((⟨w7.heap.size, 0, none⟩ : Addr).add j) = some u := by rw [← hw8]; exact A18.list_new w7 _ _
              have hb58 := i5.out.below hb78
              have hP8 := i6.out.keep (Kept.of_below hb78)
              refine wpAnyH_ready (rs := [5]) (by kernel_rfl) (by simp) ?_
              refine AllReadyH.cons rfl (fun K hK => ?_) AllReadyH.nil
              · rw [if_pos (by rfl)]
                have hown := hP8.ra
                rw [hla'.out] at hown
                refine wp_append_at _ _ 24 rfl z 72 iA (.agg #[.string ⟨#[]⟩, .int .i64 0]) 2 24 Tryz.underlying24 hiA hiA0 hiA1 hiA2 rfl (by decide) (.slice A la ca) la (arCells p.arrays) rfl hown ⟨w7.heap.size, 0, none⟩ 1 1 [.string S, .int .i64 N] rfl rfl hnew (two_ar _ _) (by unfold maxLen; omega) (by omega) (by have := i10; have := hb78.size; omega) ?_
                intro v2 w9 hown2 hgrow hblk
                have hP9 := hP8.appA (x := x) (by rw [hla'.out, i8.out.1, ← i8.out.2]; exact hown2) hgrow hblk
                have hrow : ∀ j, (Value.slice A la ca).ownBlock = some j → z ≤ j := fun j hj => (hP8.low j (.inr (.inl hj))).1
                refine Shut.out hK _ _ trivial (fun hHeld => ?_)
                try simp only [Act.put, List.setIfInBounds_toArray, List.set_cons_zero, List.set_cons_succ]
                refine wpAnyH_ready (rs := [6]) (by kernel_rfl) (by simp) ?_
                refine AllReadyH.cons rfl (fun K hK => ?_) AllReadyH.nil
                · go_simp
                  refine Shut.out hK _ _ trivial (fun hHeld => ?_)
                  try simp only [Act.put, List.setIfInBounds_toArray, List.set_cons_zero, List.set_cons_succ]
                  refine wpAnyH_ready (rs := [7]) (by kernel_rfl) (by simp) ?_
                  refine AllReadyH.cons rfl (fun K hK => ?_) AllReadyH.nil
                  · obtain ⟨A2, cap2, hv2, _, _, _⟩ := A18.own2_slice hown2
                    subst hv2
                    have hb39 : Blk 27 w9 g3 [.slice V lv cv, .slice A la ca, .slice E lf ce] := (hgrow.block g3 (hb58).lt (fun e => by have := hrow g3 e.symm; omega)).trans hb58
                    obtain ⟨x0, x1, x2, f0, f1, f2⟩ := pg_box hb39
                    obtain ⟨W9, hW9⟩ : ∃ W, w9.setCell ⟨g3, 1, none⟩ (.slice A2 (la + 1) cap2) = W := ⟨_, rfl⟩
                    have j1 : RdS base B l k8 0 W9 := by rw [← hW9]; exact (RdS.grow (i2.out.below hb78) hgrow (fun j hj => Nat.le_trans hbz (hrow j hj))).set hbg3 1 _
                    have j2 : Gr B w W9 := by rw [← hW9]; exact Gr.set (Gr.grow (Gr.below i3.out hb78) hgrow (fun j hj => by have := hrow j hj; omega)) hw3 _
                    have j3 : Blk 27 W9 g [.slice none 0 0, .slice none 0 0, .slice none 0 0] := by rw [← hW9]; exact Blk.other ((hgrow.block g ((i4.out.below hb78)).lt (fun e => by have := hrow g e.symm; omega)).trans (i4.out.below hb78)) hgg _
                    have j4 : Blk 27 W9 g3 [.slice V lv cv, .slice A2 (la + 1) cap2, .slice E lf ce] := by rw [← hW9]; exact hb39.set 1 _
                    have j5 := hP9.keep (w' := W9) (by rw [← hW9]; exact Kept.set w9 (fun h => by have : z ≤ g3 := h; omega) _)
                    have j7 : z ≤ W9.heap.size := by have := hgrow.size; have := i10; have := hb78.size; rw [← hW9]; simp; omega
                    have hpl := j1.place
                    have hk8 := j1.kn
                    obtain ⟨hadv, hal⟩ := i9.out
                    have l1 : ({ p with arrays := p.arrays ++ [x] } : Prog).vars.length ≤ k8 := by show p.vars.length ≤ k8; rw [hlv'.out]; omega
                    have l2 : ({ p with arrays := p.arrays ++ [x] } : Prog).arrays.length ≤ k8 := by show (p.arrays ++ [x]).length ≤ k8; rw [List.length_append, hla'.out]; exact hal
                    have l3 : ({ p with arrays := p.arrays ++ [x] } : Prog).funcs.length ≤ k8 := by show p.funcs.length ≤ k8; rw [hlf'.out]; omega
                    replace j1 := Lib.hid j1
                    replace j2 := Lib.hid j2
                    replace j3 := Lib.hid j3
                    replace j4 := Lib.hid j4
                    replace j5 := Lib.hid j5
                    go_simp
                    refine Shut.out hK _ _ trivial (fun hHeld => ?_)
                    refine wpAnyH_done (by kernel_rfl) ?_ _
                    clear hHeld hb39 hP9 hown2 hgrow hblk hrow hK x0 x1 x2 f0 f1 f2 hW9
                    go_wp2
                    go_roundw
                    case rel => exact ⟨k8, _, _, _, _, hk8, l1, l2, l3, i1, j1, j2, j3, j4, j5, j7⟩
                    case measure => rw [hpl, hplace]; omega
        · go_simp
          refine (cV.out).mono ?_
          rintro e w7 (⟨x, k8, S, N, rfl, i1, i2, i3, i4, i5, i6, i8, i9, i10⟩ | ⟨c, ts, rfl, i1⟩)
          case inr => exact ⟨rfl, i1.out⟩
          refine Shut.out hK _ _ trivial (fun hHeld => ?_)
          try simp only [Act.put, List.setIfInBounds_toArray, List.set_cons_zero, List.set_cons_succ]
          refine wpAnyH_ready (rs := [1, 4]) (by kernel_rfl) (by simp) ?_
          refine AllReadyH.cons rfl (fun K hK => ?_) (AllReadyH.cons rfl (fun K hK => ?_) AllReadyH.nil)
          · obtain ⟨x0, x1, x2, _, _, _⟩ := pg_box i5.out
            go_simp
            refine Shut.out hK _ _ trivial (fun hHeld => ?_)
            try simp only [Act.put, List.setIfInBounds_toArray, List.set_cons_zero, List.set_cons_succ]
            refine wpAnyH_ready (rs := [4]) (by kernel_rfl) (by simp) ?_
            refine AllReadyH.cons rfl (fun K hK => ?_) AllReadyH.nil
            · go_simp
              refine Shut.out hK _ _ trivial (fun hHeld => ?_)
              try simp only [Act.put, List.setIfInBounds_toArray, List.set_cons_zero, List.set_cons_succ]
              obtain ⟨w8, hw8⟩ : ∃ W, w7.alloc (.cells #[.string S, .int .i64 N] 72) = W := ⟨_, rfl⟩
              rw [hw8]
              have hb78 : Below w7.heap.size w7 w8 := by rw [← hw8]; exact boxed w7 _
              have hnew : ∀ j u, ([.string S, .int .i64 N] : List Value)[j]? = some u → w8.cell? ((⟨w7.heap.size, 0, none⟩ : Addr).add j) = some u := by rw [← hw8]; exact A18.list_new w7 _ _
              have hb58 := i5.out.below hb78
              have hP8 := i6.out.keep (Kept.of_below hb78)
              refine wpAnyH_ready (rs := [5]) (by kernel_rfl) (by simp) ?_
              refine AllReadyH.cons rfl (fun K hK => ?_) AllReadyH.nil
              · rw [if_pos (by rfl)]
                have hown := hP8.ra
                rw [hla'.out] at hown
                refine wp_append_at _ _ 24 rfl z 72 iA (.agg #[.string ⟨#[]⟩, .int .i64 0]) 2 24 Tryz.underlying24 hiA hiA0 hiA1 hiA2 rfl (by decide) (.slice A la ca) la (arCells p.arrays) rfl hown ⟨w7.heap.size, 0, none⟩ 1 1 [.string S, .int .i64 N] rfl rfl hnew (two_ar _ _) (by unfold maxLen; omega) (by omega) (by have := i10; have := hb78.size; omega) ?_
                intro v2 w9 hown2 hgrow hblk
                have hP9 := hP8.appA (x := x) (by rw [hla'.out, i8.out.1, ← i8.out.2]; exact hown2) hgrow hblk
                have hrow : ∀ j, (Value.slice A la ca).ownBlock = some j → z ≤ j := fun j hj => (hP8.low j (.inr (.inl hj))).1
                refine Shut.out hK _ _ trivial (fun hHeld => ?_)
                try simp only [Act.put, List.setIfInBounds_toArray, List.set_cons_zero, List.set_cons_succ]
                refine wpAnyH_ready (rs := [6]) (by kernel_rfl) (by simp) ?_
                refine AllReadyH.cons rfl (fun K hK => ?_) AllReadyH.nil
                · go_simp
                  refine Shut.out hK _ _ trivial (fun hHeld => ?_)
                  try simp only [Act.put, List.setIfInBounds_toArray, List.set_cons_zero, List.set_cons_succ]
                  refine wpAnyH_ready (rs := [7]) (by kernel_rfl) (by simp) ?_
                  refine AllReadyH.cons rfl (fun K hK => ?_) AllReadyH.nil
                  · obtain ⟨A2, cap2, hv2, _, _, _⟩ := A18.own2_slice hown2
                    subst hv2
                    have hb39 : Blk 27 w9 g3 [.slice V lv cv, .slice A la ca, .slice E lf ce] := (hgrow.block g3 (hb58).lt (fun e => by have := hrow g3 e.symm; omega)).trans hb58
                    obtain ⟨x0, x1, x2, f0, f1, f2⟩ := pg_box hb39
                    obtain ⟨W9, hW9⟩ : ∃ W, w9.setCell ⟨g3, 1, none⟩ (.slice A2 (la + 1) cap2) = W := ⟨_, rfl⟩
                    have j1 : RdS base B l k8 0 W9 := by rw [← hW9]; exact (RdS.grow (i2.out.below hb78) hgrow (fun j hj => Nat.le_trans hbz (hrow j hj))).set hbg3 1 _
                    have j2 : Gr B w W9 := by rw [← hW9]; exact Gr.set (Gr.grow (Gr.below i3.out hb78) hgrow (fun j hj => by have := hrow j hj; omega)) hw3 _
                    have j3 : Blk 27 W9 g [.slice none 0 0, .slice none 0 0, .slice none 0 0] := by rw [← hW9]; exact Blk.other ((hgrow.block g ((i4.out.below hb78)).lt (fun e => by have := hrow g e.symm; omega)).trans (i4.out.below hb78)) hgg _
                    have j4 : Blk 27 W9 g3 [.slice V lv cv, .slice A2 (la + 1) cap2, .slice E lf ce] := by rw [← hW9]; exact hb39.set 1 _
                    have j5 := hP9.keep (w' := W9) (by rw [← hW9]; exact Kept.set w9 (fun h => by have : z ≤ g3 := h; omega) _)
                    have j7 : z ≤ W9.heap.size := by have := hgrow.size; have := i10; have := hb78.size; rw [← hW9]; simp; omega
                    have hpl := j1.place
                    have hk8 := j1.kn
                    obtain ⟨hadv, hal⟩ := i9.out
                    have l1 : ({ p with arrays := p.arrays ++ [x] } : Prog).vars.length ≤ k8 := by show p.vars.length ≤ k8; rw [hlv'.out]; omega
                    have l2 : ({ p with arrays := p.arrays ++ [x] } : Prog).arrays.length ≤ k8 := by show (p.arrays ++ [x]).length ≤ k8; rw [List.length_append, hla'.out]; exact hal
                    have l3 : ({ p with arrays := p.arrays ++ [x] } : Prog).funcs.length ≤ k8 := by show p.funcs.length ≤ k8; rw [hlf'.out]; omega
                    replace j1 := Lib.hid j1
                    replace j2 := Lib.hid j2
                    replace j3 := Lib.hid j3
                    replace j4 := Lib.hid j4
                    replace j5 := Lib.hid j5
                    go_simp
                    refine Shut.out hK _ _ trivial (fun hHeld => ?_)
                    refine wpAnyH_done (by kernel_rfl) ?_ _
                    clear hHeld hb39 hP9 hown2 hgrow hblk hrow hK x0 x1 x2 f0 f1 f2 hW9
                    go_wp2
                    go_roundw
                    case rel => exact ⟨k8, _, _, _, _, hk8, l1, l2, l3, i1, j1, j2, j3, j4, j5, j7⟩
                    case measure => rw [hpl, hplace]; omega
          · go_simp
            refine Shut.out hK _ _ trivial (fun hHeld => ?_)
            try simp only [Act.put, List.setIfInBounds_toArray, List.set_cons_zero, List.set_cons_succ]
            obtain ⟨w8, hw8⟩ : ∃ W, w7.alloc (.cells #[.string S, .int .i64 N] 72) = W := ⟨_, rfl⟩
            rw [hw8]
            have hb78 : Below w7.heap.size w7 w8 := by rw [← hw8]; exact boxed w7 _
            have hnew : ∀ j u, ([.string S, .int .i64 N] : List Value)[j]? = some u → w8.cell? ((⟨w7.heap.size, 0, none⟩ : Addr).add j) = some u := by rw [← hw8]; exact A18.list_new w7 _ _
            have hb58 := i5.out.below hb78
            have hP8 := i6.out.keep (Kept.of_below hb78)
            refine wpAnyH_ready (rs := [1]) (by kernel_rfl) (by simp) ?_
            refine AllReadyH.cons rfl (fun K hK => ?_) AllReadyH.nil
            · obtain ⟨x0, x1, x2, _, _, _⟩ := pg_box hb58
              go_simp
              refine Shut.out hK _ _ trivial (fun hHeld => ?_)
              try simp only [Act.put, List.setIfInBounds_toArray, List.set_cons_zero, List.set_cons_succ]
              refine wpAnyH_ready (rs := [5]) (by kernel_rfl) (by simp) ?_
              refine AllReadyH.cons rfl (fun K hK => ?_) AllReadyH.nil
              · rw [if_pos (by rfl)]
                have hown := hP8.ra
                rw [hla'.out] at hown
                refine wp_append_at _ _ 24 rfl z 72 iA (.agg #[.string ⟨#[]⟩, .int .i64 0]) 2 24 Tryz.underlying24 hiA hiA0 hiA1 hiA2 rfl (by decide) (.slice A la ca) la (arCells p.arrays) rfl hown ⟨w7.heap.size, 0, none⟩ 1 1 [.string S, .int .i64 N] rfl rfl hnew (two_ar _ _) (by unfold maxLen; omega) (by omega) (by have := i10; have := hb78.size; omega) ?_
                intro v2 w9 hown2 hgrow hblk
                have hP9 := hP8.appA (x := x) (by rw [hla'.out, i8.out.1, ← i8.out.2]; exact hown2) hgrow hblk
                have hrow : ∀ j, (Value.slice A la ca).ownBlock = some j → z ≤ j := fun j hj => (hP8.low j (.inr (.inl hj))).1
                refine Shut.out hK _ _ trivial (fun hHeld => ?_)
                try simp only [Act.put, List.setIfInBounds_toArray, List.set_cons_zero, List.set_cons_succ]
                refine wpAnyH_ready (rs := [6]) (by kernel_rfl) (by simp) ?_
                refine AllReadyH.cons rfl (fun K hK => ?_) AllReadyH.nil
                · go_simp
                  refine Shut.out hK _ _ trivial (fun hHeld => ?_)
                  try simp only [Act.put, List.setIfInBounds_toArray, List.set_cons_zero, List.set_cons_succ]
                  refine wpAnyH_ready (rs := [7]) (by kernel_rfl) (by simp) ?_
                  refine AllReadyH.cons rfl (fun K hK => ?_) AllReadyH.nil
                  · obtain ⟨A2, cap2, hv2, _, _, _⟩ := A18.own2_slice hown2
                    subst hv2
                    have hb39 : Blk 27 w9 g3 [.slice V lv cv, .slice A la ca, .slice E lf ce] := (hgrow.block g3 (hb58).lt (fun e => by have := hrow g3 e.symm; omega)).trans hb58
                    obtain ⟨x0, x1, x2, f0, f1, f2⟩ := pg_box hb39
                    obtain ⟨W9, hW9⟩ : ∃ W, w9.setCell ⟨g3, 1, none⟩ (.slice A2 (la + 1) cap2) = W := ⟨_, rfl⟩
                    have j1 : RdS base B l k8 0 W9 := by rw [← hW9]; exact (RdS.grow (i2.out.below hb78) hgrow (fun j hj => Nat.le_trans hbz (hrow j hj))).set hbg3 1 _
                    have j2 : Gr B w W9 := by rw [← hW9]; exact Gr.set (Gr.grow (Gr.below i3.out hb78) hgrow (fun j hj => by have := hrow j hj; omega)) hw3 _
                    have j3 : Blk 27 W9 g [.slice none 0 0, .slice none 0 0, .slice none 0 0] := by rw [← hW9]; exact Blk.other ((hgrow.block g ((i4.out.below hb78)).lt (fun e => by have := hrow g e.symm; omega)).trans (i4.out.below hb78)) hgg _
                    have j4 : Blk 27 W9 g3 [.slice V lv cv, .slice A2 (la + 1) cap2, .slice E lf ce] := by rw [← hW9]; exact hb39.set 1 _
                    have j5 := hP9.keep (w' := W9) (by rw [← hW9]; exact Kept.set w9 (fun h => by have : z ≤ g3 := h; omega) _)
                    have j7 : z ≤ W9.heap.size := by have := hgrow.size; have := i10; have := hb78.size; rw [← hW9]; simp; omega
                    have hpl := j1.place
                    have hk8 := j1.kn
                    obtain ⟨hadv, hal⟩ := i9.out
                    have l1 : ({ p with arrays := p.arrays ++ [x] } : Prog).vars.length ≤ k8 := by show p.vars.length ≤ k8; rw [hlv'.out]; omega
                    have l2 : ({ p with arrays := p.arrays ++ [x] } : Prog).arrays.length ≤ k8 := by show (p.arrays ++ [x]).length ≤ k8; rw [List.length_append, hla'.out]; exact hal
                    have l3 : ({ p with arrays := p.arrays ++ [x] } : Prog).funcs.length ≤ k8 := by show p.funcs.length ≤ k8; rw [hlf'.out]; omega
                    replace j1 := Lib.hid j1
                    replace j2 := Lib.hid j2
                    replace j3 := Lib.hid j3
                    replace j4 := Lib.hid j4
                    replace j5 := Lib.hid j5
                    go_simp
                    refine Shut.out hK _ _ trivial (fun hHeld => ?_)
                    refine wpAnyH_done (by kernel_rfl) ?_ _
                    clear hHeld hb39 hP9 hown2 hgrow hblk hrow hK x0 x1 x2 f0 f1 f2 hW9
                    go_wp2
                    go_roundw
                    case rel => exact ⟨k8, _, _, _, _, hk8, l1, l2, l3, i1, j1, j2, j3, j4, j5, j7⟩
                    case measure => rw [hpl, hplace]; omega
      have hsA := hs
      rw [hs] at tA
      clear hs
      rcases hs : sg kFunc (at_ l k') with _ | _
      rotate_left
      · rw [hs] at tF
        have cV : ∀ W, Below wr.heap.size wr W → Calls Tryz.prog 65 #[.pointer (some ⟨B, 0, none⟩)] W (fun e w7 => (∃ (x : Fn) (k8 : Nat) (S : ByteArray) (Pp Lp Cp : Option Addr) (lp cp ll cl lc cc : Nat), e = .returned (.agg #[.string S, .slice Pp lp cp, .slice Lp ll cl, .slice Cp lc cc]) ∧
            Hid (∃ m, prog m { p with funcs := p.funcs ++ [x] } (at_ l k8) = some r) ∧ Hid (RdS base B l k8 0 w7) ∧ Hid (Gr B w w7) ∧ Hid (Blk 27 w7 g [.slice none 0 0, .slice none 0 0, .slice none 0 0]) ∧ Hid (Blk 27 w7 g3 [.slice V lv cv, .slice A la ca, .slice E lf ce]) ∧ Hid (P3 z w7 (.slice V lv cv) (.slice A la ca) (.slice E lf ce) p) ∧
            Hid (FnC w7 (fun b => wr.heap.size ≤ b) x [.string S, .slice Pp lp cp, .slice Lp ll cl, .slice Cp lc cc]) ∧ Hid (k' < k8 ∧ lf + 1 ≤ k8) ∧ wr.heap.size ≤ w7.heap.size) ∨ (∃ c ts, e = .panicked [fl (lnAt l ts) c] ∧ Hid (Ae base B l 0 w (PgR w.heap.size) r (.panicked [fl (lnAt l ts) c]) w7))) := fun W hW => by
          rw [hsV, if_neg Bool.false_ne_true, hsA, if_neg Bool.false_ne_true, hs, if_pos rfl] at hq1
          obtain ⟨q, hfn, hq2⟩ := opt_of hq1
          refine (function_any (hst.out.below hW) (by rw [← func_eq hs]; exact hfn)).mono ?_
          rintro e w7 (⟨x, k8, v8, hx8, rfl, ⟨S, Pp, Lp, Cp, lp, cp, ll, cl, lc, cc, rfl, hF8⟩, hst8, hg8⟩ | ⟨c, ts, hx8, rfl, hg8⟩)
          · have hk8 := hst8.kn
            rw [hx8] at hfn
            obtain ⟨_, hd1, _⟩ := read_func (hok.out.goodAt k') hne0 hfn
            have hd2 := tfn_pos x
            rw [at_len l hk', at_len l hk8] at hd1
            have hws := hW.size
            have hgs := hg8.size
            exact .inl ⟨x, k8, S, Pp, Lp, Cp, lp, cp, ll, cl, lc, cc, rfl, Lib.hid ⟨m1, ok_of hq2 hx8⟩, Lib.hid hst8, Lib.hid ((Gr.below hgr.out hW).trans hg8), Lib.hid (hg8.blk (hbg'.out.below hW) hgB), Lib.hid (hg8.blk (hb3'.out.below hW) hgB3),
              Lib.hid ((hP.out.keep (Kept.of_below hW)).keep (Gr.kept hg8 fun b h => by have : z ≤ b := h; omega)), Lib.hid (hF8.mono fun b _ h => by have : W.heap.size ≤ b := h; omega), Lib.hid ⟨by omega, by omega⟩, by omega⟩
          · exact .inr ⟨c, ts, rfl, Lib.hid (Ae.bad (bad_of hq2 hx8) ((Gr.below hgr.out hW).trans hg8))⟩
        replace cV := Lib.hid (cV Wd hbd)
        have hrows := Lib.hid (fun g hg => (hP.out.low g hg).2)
        replace hWd := Lib.hid hWd
        clear hs hq1 hne0 hst hgr hbg' hb3' hP hbd hb6 hsV hsA
        go_wp2_with fail
        refine wp_region_held_drew (S := fun _ => True) (by kernel_rfl) trivial (fun hHeld => ?_)
        rw [hWd.out]
        refine wpAnyH_take (i := 0) (v := .pointer (some ⟨g3, 2, none⟩)) rfl (by kernel_rfl) (by kernel_rfl) (by kernel_rfl) (fun _ _ _ h => h) (Or.inl ⟨by rfl, ?hF0⟩) (by assumption) ?rF0
        case hF0 =>
          intro W hW
          go_simp
        simp only [Act.put, List.setIfInBounds_toArray, List.set_cons_zero, List.set_cons_succ]
        refine wpAnyH_take (i := 2) (v := .pointer (some ⟨B, 0, none⟩)) rfl (by kernel_rfl) (by kernel_rfl) (by kernel_rfl) (fun _ _ _ h => h) (Or.inl ⟨by rfl, ?hF1⟩) (by assumption) ?rF1
        case hF1 =>
          intro W hW
          go_simp
        simp only [Act.put, List.setIfInBounds_toArray, List.set_cons_zero, List.set_cons_succ]
        refine wpAnyH_ready (rs := [1, 3]) (by kernel_rfl) (by simp) ?_
        refine AllReadyH.cons rfl (fun K hK => ?_) (AllReadyH.cons rfl (fun K hK => ?_) AllReadyH.nil)
        · obtain ⟨x0, x1, x2, _, _, _⟩ := pg_box hKd.out
          go_simp
          refine Shut.out hK _ _ trivial (fun hHeld => ?_)
          try simp only [Act.put, List.setIfInBounds_toArray, List.set_cons_zero, List.set_cons_succ]
          refine wpAnyH_ready (rs := [3]) (by kernel_rfl) (by simp) ?_
          refine AllReadyH.cons rfl (fun K hK => ?_) AllReadyH.nil
          · go_simp
            refine (cV.out).mono ?_
            rintro e w7 (⟨x, k8, S, Pp, Lp, Cp, lp, cp, ll, cl, lc, cc, rfl, i1, i2, i3, i4, i5, i6, i8, i9, i10⟩ | ⟨c, ts, rfl, i1⟩)
            case inr => exact ⟨rfl, i1.out⟩
            refine Shut.out hK _ _ trivial (fun hHeld => ?_)
            try simp only [Act.put, List.setIfInBounds_toArray, List.set_cons_zero, List.set_cons_succ]
            refine wpAnyH_ready (rs := [4]) (by kernel_rfl) (by simp) ?_
            refine AllReadyH.cons rfl (fun K hK => ?_) AllReadyH.nil
            · go_simp
              refine Shut.out hK _ _ trivial (fun hHeld => ?_)
              try simp only [Act.put, List.setIfInBounds_toArray, List.set_cons_zero, List.set_cons_succ]
              obtain ⟨w8, hw8⟩ : ∃ W, w7.alloc (.cells #[.string S, .slice Pp lp cp, .slice Lp ll cl, .slice Cp lc cc] 44) = W := ⟨_, rfl⟩
              rw [hw8]
              have hb78 : Below w7.heap.size w7 w8 := by rw [← hw8]; exact boxed w7 _
              have hnew : ∀ j u, ([.string S, .slice Pp lp cp, .slice Lp ll cl, .slice Cp lc cc] : List Value)[j]? = some u → w8.cell? ((⟨w7.heap.size, 0, none⟩ : Addr).add j) = some u := by rw [← hw8]; exact A18.list_new w7 _ _
              have hb58 := i5.out.below hb78
              have hP8 := i6.out.keep (Kept.of_below hb78)
              refine wpAnyH_ready (rs := [5]) (by kernel_rfl) (by simp) ?_
              refine AllReadyH.cons rfl (fun K hK => ?_) AllReadyH.nil
              · rw [if_pos (by rfl)]
                obtain ⟨css, hown, hpush⟩ := hP8.more
                rw [hlf'.out] at hown
                refine wp_append_at _ _ 25 rfl z 44 iF (.agg #[.string ⟨#[]⟩, .slice none 0 0, .slice none 0 0, .slice none 0 0]) 4 88 Tryz.underlying25 hiF hiF0 hiF1 hiF2 rfl (by decide) (.slice E lf ce) lf css.flatten rfl hown ⟨w7.heap.size, 0, none⟩ 1 1 [.string S, .slice Pp lp cp, .slice Lp ll cl, .slice Cp lc cc] rfl rfl hnew (four_fn _ _ _ _ _ _ _ _ _ _) (by unfold maxLen; omega) (by omega) (by have := i10; have := hb78.size; omega) ?_
                intro v2 w9 hown2 hgrow hblk
                have hP9 := hpush.push w9 v2 x _ wr.heap.size hzr (by have := i10; have := hb78.size; omega) hrows.out (i8.out.keep (Kept.of_below hb78)) (by rw [hlf'.out]; exact hown2) hgrow hblk
                have hrow : ∀ j, (Value.slice E lf ce).ownBlock = some j → z ≤ j := fun j hj => (hP8.low j (.inr (.inr hj))).1
                refine Shut.out hK _ _ trivial (fun hHeld => ?_)
                try simp only [Act.put, List.setIfInBounds_toArray, List.set_cons_zero, List.set_cons_succ]
                refine wpAnyH_ready (rs := [6]) (by kernel_rfl) (by simp) ?_
                refine AllReadyH.cons rfl (fun K hK => ?_) AllReadyH.nil
                · go_simp
                  refine Shut.out hK _ _ trivial (fun hHeld => ?_)
                  try simp only [Act.put, List.setIfInBounds_toArray, List.set_cons_zero, List.set_cons_succ]
                  refine wpAnyH_ready (rs := [7]) (by kernel_rfl) (by simp) ?_
                  refine AllReadyH.cons rfl (fun K hK => ?_) AllReadyH.nil
                  · obtain ⟨A2, cap2, hv2, _, _, _⟩ := A18.own2_slice hown2
                    subst hv2
                    have hb39 : Blk 27 w9 g3 [.slice V lv cv, .slice A la ca, .slice E lf ce] := (hgrow.block g3 (hb58).lt (fun e => by have := hrow g3 e.symm; omega)).trans hb58
                    obtain ⟨x0, x1, x2, f0, f1, f2⟩ := pg_box hb39
                    obtain ⟨W9, hW9⟩ : ∃ W, w9.setCell ⟨g3, 2, none⟩ (.slice A2 (lf + 1) cap2) = W := ⟨_, rfl⟩
                    have j1 : RdS base B l k8 0 W9 := by rw [← hW9]; exact (RdS.grow (i2.out.below hb78) hgrow (fun j hj => Nat.le_trans hbz (hrow j hj))).set hbg3 2 _
                    have j2 : Gr B w W9 := by rw [← hW9]; exact Gr.set (Gr.grow (Gr.below i3.out hb78) hgrow (fun j hj => by have := hrow j hj; omega)) hw3 _
                    have j3 : Blk 27 W9 g [.slice none 0 0, .slice none 0 0, .slice none 0 0] := by rw [← hW9]; exact Blk.other ((hgrow.block g ((i4.out.below hb78)).lt (fun e => by have := hrow g e.symm; omega)).trans (i4.out.below hb78)) hgg _
                    have j4 : Blk 27 W9 g3 [.slice V lv cv, .slice A la ca, .slice A2 (lf + 1) cap2] := by rw [← hW9]; exact hb39.set 2 _
                    have j5 := hP9.keep (w' := W9) (by rw [← hW9]; exact Kept.set w9 (fun h => by have : z ≤ g3 := h; omega) _)
                    have j7 : z ≤ W9.heap.size := by have := hgrow.size; have := i10; have := hb78.size; rw [← hW9]; simp; omega
                    have hpl := j1.place
                    have hk8 := j1.kn
                    obtain ⟨hadv, hal⟩ := i9.out
                    have l1 : ({ p with funcs := p.funcs ++ [x] } : Prog).vars.length ≤ k8 := by show p.vars.length ≤ k8; rw [hlv'.out]; omega
                    have l2 : ({ p with funcs := p.funcs ++ [x] } : Prog).arrays.length ≤ k8 := by show p.arrays.length ≤ k8; rw [hla'.out]; omega
                    have l3 : ({ p with funcs := p.funcs ++ [x] } : Prog).funcs.length ≤ k8 := by show (p.funcs ++ [x]).length ≤ k8; rw [List.length_append, hlf'.out]; exact hal
                    replace j1 := Lib.hid j1
                    replace j2 := Lib.hid j2
                    replace j3 := Lib.hid j3
                    replace j4 := Lib.hid j4
                    replace j5 := Lib.hid j5
                    go_simp
                    refine Shut.out hK _ _ trivial (fun hHeld => ?_)
                    refine wpAnyH_done (by kernel_rfl) ?_ _
                    clear hHeld hb39 hP9 hown2 hgrow hblk hrow hK x0 x1 x2 f0 f1 f2 hW9
                    go_wp2
                    go_roundw
                    case rel => exact ⟨k8, _, _, _, _, hk8, l1, l2, l3, i1, j1, j2, j3, j4, j5, j7⟩
                    case measure => rw [hpl, hplace]; omega
        · go_simp
          refine (cV.out).mono ?_
          rintro e w7 (⟨x, k8, S, Pp, Lp, Cp, lp, cp, ll, cl, lc, cc, rfl, i1, i2, i3, i4, i5, i6, i8, i9, i10⟩ | ⟨c, ts, rfl, i1⟩)
          case inr => exact ⟨rfl, i1.out⟩
          refine Shut.out hK _ _ trivial (fun hHeld => ?_)
          try simp only [Act.put, List.setIfInBounds_toArray, List.set_cons_zero, List.set_cons_succ]
          refine wpAnyH_ready (rs := [1, 4]) (by kernel_rfl) (by simp) ?_
          refine AllReadyH.cons rfl (fun K hK => ?_) (AllReadyH.cons rfl (fun K hK => ?_) AllReadyH.nil)
          · obtain ⟨x0, x1, x2, _, _, _⟩ := pg_box i5.out
            go_simp
            refine Shut.out hK _ _ trivial (fun hHeld => ?_)
            try simp only [Act.put, List.setIfInBounds_toArray, List.set_cons_zero, List.set_cons_succ]
            refine wpAnyH_ready (rs := [4]) (by kernel_rfl) (by simp) ?_
            refine AllReadyH.cons rfl (fun K hK => ?_) AllReadyH.nil
            · go_simp
              refine Shut.out hK _ _ trivial (fun hHeld => ?_)
              try simp only [Act.put, List.setIfInBounds_toArray, List.set_cons_zero, List.set_cons_succ]
              obtain ⟨w8, hw8⟩ : ∃ W, w7.alloc (.cells #[.string S, .slice Pp lp cp, .slice Lp ll cl, .slice Cp lc cc] 44) = W := ⟨_, rfl⟩
              rw [hw8]
              have hb78 : Below w7.heap.size w7 w8 := by rw [← hw8]; exact boxed w7 _
              have hnew : ∀ j u, ([.string S, .slice Pp lp cp, .slice Lp ll cl, .slice Cp lc cc] : List Value)[j]? = some u → w8.cell? ((⟨w7.heap.size, 0, none⟩ : Addr).add j) = some u := by rw [← hw8]; exact A18.list_new w7 _ _
              have hb58 := i5.out.below hb78
              have hP8 := i6.out.keep (Kept.of_below hb78)
              refine wpAnyH_ready (rs := [5]) (by kernel_rfl) (by simp) ?_
              refine AllReadyH.cons rfl (fun K hK => ?_) AllReadyH.nil
              · rw [if_pos (by rfl)]
                obtain ⟨css, hown, hpush⟩ := hP8.more
                rw [hlf'.out] at hown
                refine wp_append_at _ _ 25 rfl z 44 iF (.agg #[.string ⟨#[]⟩, .slice none 0 0, .slice none 0 0, .slice none 0 0]) 4 88 Tryz.underlying25 hiF hiF0 hiF1 hiF2 rfl (by decide) (.slice E lf ce) lf css.flatten rfl hown ⟨w7.heap.size, 0, none⟩ 1 1 [.string S, .slice Pp lp cp, .slice Lp ll cl, .slice Cp lc cc] rfl rfl hnew (four_fn _ _ _ _ _ _ _ _ _ _) (by unfold maxLen; omega) (by omega) (by have := i10; have := hb78.size; omega) ?_
                intro v2 w9 hown2 hgrow hblk
                have hP9 := hpush.push w9 v2 x _ wr.heap.size hzr (by have := i10; have := hb78.size; omega) hrows.out (i8.out.keep (Kept.of_below hb78)) (by rw [hlf'.out]; exact hown2) hgrow hblk
                have hrow : ∀ j, (Value.slice E lf ce).ownBlock = some j → z ≤ j := fun j hj => (hP8.low j (.inr (.inr hj))).1
                refine Shut.out hK _ _ trivial (fun hHeld => ?_)
                try simp only [Act.put, List.setIfInBounds_toArray, List.set_cons_zero, List.set_cons_succ]
                refine wpAnyH_ready (rs := [6]) (by kernel_rfl) (by simp) ?_
                refine AllReadyH.cons rfl (fun K hK => ?_) AllReadyH.nil
                · go_simp
                  refine Shut.out hK _ _ trivial (fun hHeld => ?_)
                  try simp only [Act.put, List.setIfInBounds_toArray, List.set_cons_zero, List.set_cons_succ]
                  refine wpAnyH_ready (rs := [7]) (by kernel_rfl) (by simp) ?_
                  refine AllReadyH.cons rfl (fun K hK => ?_) AllReadyH.nil
                  · obtain ⟨A2, cap2, hv2, _, _, _⟩ := A18.own2_slice hown2
                    subst hv2
                    have hb39 : Blk 27 w9 g3 [.slice V lv cv, .slice A la ca, .slice E lf ce] := (hgrow.block g3 (hb58).lt (fun e => by have := hrow g3 e.symm; omega)).trans hb58
                    obtain ⟨x0, x1, x2, f0, f1, f2⟩ := pg_box hb39
                    obtain ⟨W9, hW9⟩ : ∃ W, w9.setCell ⟨g3, 2, none⟩ (.slice A2 (lf + 1) cap2) = W := ⟨_, rfl⟩
                    have j1 : RdS base B l k8 0 W9 := by rw [← hW9]; exact (RdS.grow (i2.out.below hb78) hgrow (fun j hj => Nat.le_trans hbz (hrow j hj))).set hbg3 2 _
                    have j2 : Gr B w W9 := by rw [← hW9]; exact Gr.set (Gr.grow (Gr.below i3.out hb78) hgrow (fun j hj => by have := hrow j hj; omega)) hw3 _
                    have j3 : Blk 27 W9 g [.slice none 0 0, .slice none 0 0, .slice none 0 0] := by rw [← hW9]; exact Blk.other ((hgrow.block g ((i4.out.below hb78)).lt (fun e => by have := hrow g e.symm; omega)).trans (i4.out.below hb78)) hgg _
                    have j4 : Blk 27 W9 g3 [.slice V lv cv, .slice A la ca, .slice A2 (lf + 1) cap2] := by rw [← hW9]; exact hb39.set 2 _
                    have j5 := hP9.keep (w' := W9) (by rw [← hW9]; exact Kept.set w9 (fun h => by have : z ≤ g3 := h; omega) _)
                    have j7 : z ≤ W9.heap.size := by have := hgrow.size; have := i10; have := hb78.size; rw [← hW9]; simp; omega
                    have hpl := j1.place
                    have hk8 := j1.kn
                    obtain ⟨hadv, hal⟩ := i9.out
                    have l1 : ({ p with funcs := p.funcs ++ [x] } : Prog).vars.length ≤ k8 := by show p.vars.length ≤ k8; rw [hlv'.out]; omega
                    have l2 : ({ p with funcs := p.funcs ++ [x] } : Prog).arrays.length ≤ k8 := by show p.arrays.length ≤ k8; rw [hla'.out]; omega
                    have l3 : ({ p with funcs := p.funcs ++ [x] } : Prog).funcs.length ≤ k8 := by show (p.funcs ++ [x]).length ≤ k8; rw [List.length_append, hlf'.out]; exact hal
                    replace j1 := Lib.hid j1
                    replace j2 := Lib.hid j2
                    replace j3 := Lib.hid j3
                    replace j4 := Lib.hid j4
                    replace j5 := Lib.hid j5
                    go_simp
                    refine Shut.out hK _ _ trivial (fun hHeld => ?_)
                    refine wpAnyH_done (by kernel_rfl) ?_ _
                    clear hHeld hb39 hP9 hown2 hgrow hblk hrow hK x0 x1 x2 f0 f1 f2 hW9
                    go_wp2
                    go_roundw
                    case rel => exact ⟨k8, _, _, _, _, hk8, l1, l2, l3, i1, j1, j2, j3, j4, j5, j7⟩
                    case measure => rw [hpl, hplace]; omega
          · go_simp
            refine Shut.out hK _ _ trivial (fun hHeld => ?_)
            try simp only [Act.put, List.setIfInBounds_toArray, List.set_cons_zero, List.set_cons_succ]
            obtain ⟨w8, hw8⟩ : ∃ W, w7.alloc (.cells #[.string S, .slice Pp lp cp, .slice Lp ll cl, .slice Cp lc cc] 44) = W := ⟨_, rfl⟩
            rw [hw8]
            have hb78 : Below w7.heap.size w7 w8 := by rw [← hw8]; exact boxed w7 _
            have hnew : ∀ j u, ([.string S, .slice Pp lp cp, .slice Lp ll cl, .slice Cp lc cc] : List Value)[j]? = some u → w8.cell? ((⟨w7.heap.size, 0, none⟩ : Addr).add j) = some u := by rw [← hw8]; exact A18.list_new w7 _ _
            have hb58 := i5.out.below hb78
            have hP8 := i6.out.keep (Kept.of_below hb78)
            refine wpAnyH_ready (rs := [1]) (by kernel_rfl) (by simp) ?_
            refine AllReadyH.cons rfl (fun K hK => ?_) AllReadyH.nil
            · obtain ⟨x0, x1, x2, _, _, _⟩ := pg_box hb58
              go_simp
              refine Shut.out hK _ _ trivial (fun hHeld => ?_)
              try simp only [Act.put, List.setIfInBounds_toArray, List.set_cons_zero, List.set_cons_succ]
              refine wpAnyH_ready (rs := [5]) (by kernel_rfl) (by simp) ?_
              refine AllReadyH.cons rfl (fun K hK => ?_) AllReadyH.nil
              · rw [if_pos (by rfl)]
                obtain ⟨css, hown, hpush⟩ := hP8.more
                rw [hlf'.out] at hown
                refine wp_append_at _ _ 25 rfl z 44 iF (.agg #[.string ⟨#[]⟩, .slice none 0 0, .slice none 0 0, .slice none 0 0]) 4 88 Tryz.underlying25 hiF hiF0 hiF1 hiF2 rfl (by decide) (.slice E lf ce) lf css.flatten rfl hown ⟨w7.heap.size, 0, none⟩ 1 1 [.string S, .slice Pp lp cp, .slice Lp ll cl, .slice Cp lc cc] rfl rfl hnew (four_fn _ _ _ _ _ _ _ _ _ _) (by unfold maxLen; omega) (by omega) (by have := i10; have := hb78.size; omega) ?_
                intro v2 w9 hown2 hgrow hblk
                have hP9 := hpush.push w9 v2 x _ wr.heap.size hzr (by have := i10; have := hb78.size; omega) hrows.out (i8.out.keep (Kept.of_below hb78)) (by rw [hlf'.out]; exact hown2) hgrow hblk
                have hrow : ∀ j, (Value.slice E lf ce).ownBlock = some j → z ≤ j := fun j hj => (hP8.low j (.inr (.inr hj))).1
                refine Shut.out hK _ _ trivial (fun hHeld => ?_)
                try simp only [Act.put, List.setIfInBounds_toArray, List.set_cons_zero, List.set_cons_succ]
                refine wpAnyH_ready (rs := [6]) (by kernel_rfl) (by simp) ?_
                refine AllReadyH.cons rfl (fun K hK => ?_) AllReadyH.nil
                · go_simp
                  refine Shut.out hK _ _ trivial (fun hHeld => ?_)
                  try simp only [Act.put, List.setIfInBounds_toArray, List.set_cons_zero, List.set_cons_succ]
                  refine wpAnyH_ready (rs := [7]) (by kernel_rfl) (by simp) ?_
                  refine AllReadyH.cons rfl (fun K hK => ?_) AllReadyH.nil
                  · obtain ⟨A2, cap2, hv2, _, _, _⟩ := A18.own2_slice hown2
                    subst hv2
                    have hb39 : Blk 27 w9 g3 [.slice V lv cv, .slice A la ca, .slice E lf ce] := (hgrow.block g3 (hb58).lt (fun e => by have := hrow g3 e.symm; omega)).trans hb58
                    obtain ⟨x0, x1, x2, f0, f1, f2⟩ := pg_box hb39
                    obtain ⟨W9, hW9⟩ : ∃ W, w9.setCell ⟨g3, 2, none⟩ (.slice A2 (lf + 1) cap2) = W := ⟨_, rfl⟩
                    have j1 : RdS base B l k8 0 W9 := by rw [← hW9]; exact (RdS.grow (i2.out.below hb78) hgrow (fun j hj => Nat.le_trans hbz (hrow j hj))).set hbg3 2 _
                    have j2 : Gr B w W9 := by rw [← hW9]; exact Gr.set (Gr.grow (Gr.below i3.out hb78) hgrow (fun j hj => by have := hrow j hj; omega)) hw3 _
                    have j3 : Blk 27 W9 g [.slice none 0 0, .slice none 0 0, .slice none 0 0] := by rw [← hW9]; exact Blk.other ((hgrow.block g ((i4.out.below hb78)).lt (fun e => by have := hrow g e.symm; omega)).trans (i4.out.below hb78)) hgg _
                    have j4 : Blk 27 W9 g3 [.slice V lv cv, .slice A la ca, .slice A2 (lf + 1) cap2] := by rw [← hW9]; exact hb39.set 2 _
                    have j5 := hP9.keep (w' := W9) (by rw [← hW9]; exact Kept.set w9 (fun h => by have : z ≤ g3 := h; omega) _)
                    have j7 : z ≤ W9.heap.size := by have := hgrow.size; have := i10; have := hb78.size; rw [← hW9]; simp; omega
                    have hpl := j1.place
                    have hk8 := j1.kn
                    obtain ⟨hadv, hal⟩ := i9.out
                    have l1 : ({ p with funcs := p.funcs ++ [x] } : Prog).vars.length ≤ k8 := by show p.vars.length ≤ k8; rw [hlv'.out]; omega
                    have l2 : ({ p with funcs := p.funcs ++ [x] } : Prog).arrays.length ≤ k8 := by show p.arrays.length ≤ k8; rw [hla'.out]; omega
                    have l3 : ({ p with funcs := p.funcs ++ [x] } : Prog).funcs.length ≤ k8 := by show (p.funcs ++ [x]).length ≤ k8; rw [List.length_append, hlf'.out]; exact hal
                    replace j1 := Lib.hid j1
                    replace j2 := Lib.hid j2
                    replace j3 := Lib.hid j3
                    replace j4 := Lib.hid j4
                    replace j5 := Lib.hid j5
                    go_simp
                    refine Shut.out hK _ _ trivial (fun hHeld => ?_)
                    refine wpAnyH_done (by kernel_rfl) ?_ _
                    clear hHeld hb39 hP9 hown2 hgrow hblk hrow hK x0 x1 x2 f0 f1 f2 hW9
                    go_wp2
                    go_roundw
                    case rel => exact ⟨k8, _, _, _, _, hk8, l1, l2, l3, i1, j1, j2, j3, j4, j5, j7⟩
                    case measure => rw [hpl, hplace]; omega
      rw [hs] at tF
      rw [hsV, if_neg Bool.false_ne_true, hsA, if_neg Bool.false_ne_true, hs, if_neg Bool.false_ne_true] at hq1
      injection hq1 with hq1
      have cF := Lib.hid (fail_any (hst.out.below hb6) 3 (ci := 3) rfl)
      have hg6 := Lib.hid (Gr.below hgr.out hb6)
      replace hq1 := Lib.hid hq1
      clear hs hsV hsA hne0 hst hgr hbg' hb3' hP hbd hKd hWd hb6
      go_wp2_with fail
      refine (cF.out).mono ?_
      rintro e w8 ⟨rfl, hb8⟩
      exact ⟨rfl, Ae.bad hq1.out.symm (Gr.below hg6.out hb8)⟩
    · have dk : decide ((k' : Int) < (nt : Int)) = false := decide_eq_false (by omega)
      have dk2 : decide (k' < nt) = false := decide_eq_false (by omega)
      have hr1 : r = .ok p (at_ l k') := by
        obtain ⟨m, hm⟩ := hq.out
        have he := at_end (l := l) (k := k') (by omega)
        cases m with
        | zero => rw [prog] at hm; cases hm
        | succ m =>
          rw [prog, he, if_pos rfl] at hm
          injection hm with hm
          rw [he]
          exact hm.symm
      have hfin : ∀ q W, W = wr.drewN q → Blk 27 (((W.setCell ⟨g, 0, none⟩ (.slice V lv cv)).setCell ⟨g, 1, none⟩ (.slice A la ca)).setCell ⟨g, 2, none⟩ (.slice E lf ce)) g [.slice V lv cv, .slice A la ca, .slice E lf ce] ∧ Ae base B l 0 w (PgR w.heap.size) r (.returned (.agg #[.slice V lv cv, .slice A la ca, .slice E lf ce])) (((W.setCell ⟨g, 0, none⟩ (.slice V lv cv)).setCell ⟨g, 1, none⟩ (.slice A la ca)).setCell ⟨g, 2, none⟩ (.slice E lf ce)) ∧ Blk 27 W g [.slice none 0 0, .slice none 0 0, .slice none 0 0] ∧ Blk 27 W g3 [.slice V lv cv, .slice A la ca, .slice E lf ce] := fun q W hWq => by
        have hbq : Below wr.heap.size wr W := by rw [hWq]; exact chainN (Below.refl _ _) q
        have kE : ∀ W (i : Nat) (u : Value), Kept (fun b => z ≤ b) W (W.setCell ⟨g, i, none⟩ u) := fun W i u => Kept.set W (by show ¬ z ≤ g; omega) u
        have hP9 := (((hP.out.keep (Kept.of_below hbq)).keep (kE _ 0 (.slice V lv cv))).keep (kE _ 1 (.slice A la ca))).keep (kE _ 2 (.slice E lf ce))
        obtain ⟨V', A', E', cv', ca', ce', e1, e2, e3, hpg⟩ := hP9.pg
        rw [hlv'.out] at e1
        rw [hla'.out] at e2
        rw [hlf'.out] at e3
        injection e1 with e1 _ e1'
        injection e2 with e2 _ e2'
        injection e3 with e3 _ e3'
        subst e1 e1' e2 e2' e3 e3'
        have hbq' := hbg'.out.below hbq
        exact ⟨((hbq'.set 0 _).set 1 _).set 2 _, Ae.ok hr1 ⟨V, A, E, lv, cv, la, ca, lf, ce, rfl, hlv'.out, hla'.out, hlf'.out, hpg.mono fun b _ h => by have : z ≤ b := h; omega⟩ ((((hst.out.below hbq).set hbg 0 _).set hbg 1 _).set hbg 2 _) (Gr.set (Gr.set (Gr.set (Gr.below hgr.out hbq) hwg _) hwg _) hwg _), hbq', hb3'.out.below hbq⟩
      replace hfin := Lib.hid hfin
      clear hq hst hgr hbg' hb3' hP hr1 hnt
      go_wp2_with fail
      go_quiet (fail)
      obtain ⟨Wq, hWq⟩ : ∃ W, wr.drewN nq = W := ⟨_, rfl⟩
      obtain ⟨q1, q2, q3, q4⟩ := hfin.out nq Wq hWq.symm
      obtain ⟨x0, x1, x2, _, _, _⟩ := pg_box q4
      obtain ⟨u0, u1, u2, f0, f1, f2⟩ := pg_box q3
      replace q1 := Lib.hid q1
      replace q2 := Lib.hid q2
      clear q3 q4 hfin y0 y1
      rw [hWq]
      go_wp2
      exact ret_cell (cs := [.slice V lv cv, .slice A la ca, .slice E lf ce]) rfl Tryz.underlying27 (by kernel_rfl) (by simp) q1.out q2.out
end
end Go.Proofs.YtpbcncfbfbghcaaGreatDoor.L20
