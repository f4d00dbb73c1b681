/- The contract of the reference's Check of layer 15. -/
import Derived.Test.YtcakdhnlgeiodaaE15Ref2
import Derived.Test.YtcakdhnlgeiodaaE15Ref3
import Derived.Test.YtcakdhnlgeiodaaE15Con
import Derived.Deep.RegionHeld3
namespace Go.Proofs.Ytcakdhnlgeiodaa.E15
set_option maxRecDepth 100000
open Go.RowKit Mem S14
open Go.Proofs.Ytcakdhnlgeiodaa.G5 Go.Proofs.Ytcakdhnlgeiodaa.G7
open Go.Proofs.Ytcakdhnlgeiodaa.G6 (IsSl rs rs_len rs_get rs_set rs_one rs_snoc make_zeros zeros_at own_zeros info_byte u8s conv_sl)
set_option linter.unusedVariables false
set_option linter.unusedSimpArgs false

def ChkP (l : List Rw) (d : Int) (w : World) (e : Ending) (w' : World) : Prop := e = .returned (.int .i64 (errR l d)) ∧ Below w.heap.size w w'
theorem str_eqC (a b : List R) : ((str a).toList == (str b).toList) = decide (a = b) := by
  rw [str_same, Bool.eq_iff_iff, beq_iff_eq, decide_eq_true_iff]
/-- What At hands back over the first shares. -/
theorem at_first {A B : Option Addr} {c c2 : Nat} {f : List Sh} {w : World} {m : Nat} (x : R) (h : IsSl w A c (f.map Prod.fst)) (h2 : IsBs w B f.length c2 (f.map Prod.snd)) (h0 : 0 < f.length) (hl : f.length ≤ 1000) (hnd : (f.map Prod.fst).Nodup) (hm : ∀ s ∈ f, s.2.length = m) (hmm : m ≤ 1000000) :
    Calls Try.prog 29 #[.slice A f.length c, .slice B f.length c2, bv x] w fun e w' => e = .returned (.string (str (stO f x))) ∧ Below w.heap.size w w' := by
  have := at_any x h (by rw [List.length_map]) h2 h0 hl hnd (m := m) (fun b hb => by
    obtain ⟨s, hs, rfl⟩ := List.mem_map.1 hb
    exact hm s hs) hmm
  rw [show blk (f.map Prod.fst) (f.map Prod.snd) m x = stO f x by unfold stO; rw [nOf_of h0 hm]] at this
  exact this
set_option maxHeartbeats 16000000 in
theorem check_any {A : Option Addr} {c n : Nat} {l : List Rw} {w : World} (d : Int) (h : IsRaw w A n c l) (hl : n ≤ 1000) (hsm : ∀ r ∈ l, r.2.length ≤ 1000000) :
    Calls Try.prog 31 #[.slice A n c, .int .i64 d] w (ChkP l d w) := by
  have hbad : ∀ (k : Int) (w' : World), k = errR l d → Below w.heap.size w w' → ChkP l d w (.returned (.int .i64 k)) w' := fun k w' h1 h3 => ⟨by rw [h1], h3⟩
  have hlen := h.len
  have hget := fun (k : Nat) (hk : k < l.length) => h.get hk
  have hyes1 : (∀ j (hj : j < l.length), 0 ≤ l[j].1 ∧ l[j].1 ≤ 14) → IxOk l := fun h r hr => by
    obtain ⟨j, hj, rfl⟩ := List.getElem_of_mem hr
    exact h j hj
  have hno1 : ∀ k (hk : k < l.length), ¬ (0 ≤ l[k].1 ∧ l[k].1 ≤ 14) → ¬ IxOk l := fun k hk h h' => h (h' _ (List.getElem_mem hk))
  have hhd : ∀ (h0 : 0 < l.length), ((l.map Prod.snd).headD []) = l[0].2 := fun h0 => by
    rw [headD_get _ (by rw [List.length_map]; exact h0)]
    simp
  have hyes2 : (∀ j (hj : j < l.length), l[j].2.length = (l[0]'(by omega)).2.length) → LenOk (l.map Prod.snd) := fun h r hr => by
    obtain ⟨r', hr', rfl⟩ := List.mem_map.1 hr
    obtain ⟨j, hj, rfl⟩ := List.getElem_of_mem hr'
    rw [hhd (by omega)]
    exact h j hj
  have hno2 : ∀ k (hk : k < l.length), l[k].2.length ≠ (l[0]'(by omega)).2.length → ¬ LenOk (l.map Prod.snd) := fun k hk h h' => h (by
    have := h' _ (List.mem_map.2 ⟨_, List.getElem_mem hk, rfl⟩)
    rwa [hhd (by omega)] at this)
  have cF := fun (D : Nat) (hD : D ≤ 15) (W : World) (hb : Below w.heap.size w W) (hx : IxOk l) => first_any (D := D) (hs := shs l) (by rw [raws_shs hx]; exact h.below hb) hl (by omega) (shs_small hx)
  obtain ⟨P, hP⟩ : ∃ P, ChkP l d w = P := ⟨_, rfl⟩
  rw [hP] at hbad ⊢
  replace hbad := Lib.hid hbad
  replace hlen := Lib.hid hlen
  replace hget := Lib.hid hget
  replace hyes1 := Lib.hid hyes1
  replace hno1 := Lib.hid hno1
  replace hyes2 := Lib.hid hyes2
  replace hno2 := Lib.hid hno2
  replace hsm := Lib.hid hsm
  replace cF := Lib.hid cF
  clear hP h hhd
  show Calls _ _ _ _ (fun e w' => P e w')
  by_cases h1 : d < 1
  · have t1 : decide (d < 1) = true := decide_eq_true h1
    have hfin := Lib.hid (hbad.out 1 w (err_d (Or.inl h1)).symm (Below.refl _ _))
    clear hbad hget hyes1 hno1 hyes2 hno2 cF
    go_enter Try.func31, Try.ntmps31
    go_wp2
    first | go_ret | skip
    exact hfin.out
  by_cases h2 : 15 < d
  · have t1 : decide (d < 1) = false := decide_eq_false h1
    have t2 : decide (15 < d) = true := decide_eq_true h2
    have hfin := Lib.hid (hbad.out 1 w (err_d (Or.inr h2)).symm (Below.refl _ _))
    clear hbad hget hyes1 hno1 hyes2 hno2 cF
    go_enter Try.func31, Try.ntmps31
    go_wp2
    first | go_ret | skip
    exact hfin.out
  have hd : ¬ (d < 1 ∨ 15 < d) := fun h => h.elim h1 h2
  have t1 : decide (d < 1) = false := decide_eq_false h1
  have t2 : decide (15 < d) = false := decide_eq_false h2
  obtain ⟨D, rfl⟩ : ∃ D : Nat, d = (D : Int) := Int.eq_ofNat_of_zero_le (by omega)
  have D1 : 1 ≤ D := by omega
  have D15 : D ≤ 15 := by omega
  replace hd := Lib.hid hd
  replace cF := Lib.hid (cF.out D D15)
  have n1000 : (n : Int) ≤ 1000 := by omega
  clear h1 h2
  go_enter Try.func31, Try.ntmps31
  go_wp2
  go_loop [5] (fun iv => ∃ (k : Nat), iv = .int .i64 (k : Int) ∧ k ≤ n ∧ Hid (∀ j (hj : j < l.length), j < k → 0 ≤ l[j].1 ∧ l[j].1 ≤ 14)) (fun iv => n - (intOf iv).toNat)
  case atStart => exact ⟨0, rfl, Nat.zero_le _, Lib.hid (fun j _ h => by omega)⟩
  case round =>
    obtain ⟨k, rfl, hk, hI⟩ := hrel
    by_cases hlt : k < n
    · have dk : decide ((k : Int) < (n : Int)) = true := decide_eq_true (by omega)
      have k0 : (0 : Int) ≤ (k : Int) := by omega
      have k1 : (k : Int) < (n : Int) := by omega
      have hkl : k < l.length := by have := hlen.out; omega
      obtain ⟨b, o, rfl, hbl, hc⟩ := hget.out k hkl
      have hn' := hno1.out k hkl
      have hs : (0 ≤ l[k].1 ∧ l[k].1 ≤ 14) → ∀ j (hj : j < l.length), j < k + 1 → 0 ≤ l[j].1 ∧ l[j].1 ≤ 14 := fun h j hj h1 => by
        by_cases e : j = k
        · subst e; exact h
        · exact hI.out j hj (by omega)
      replace hs := Lib.hid hs
      obtain ⟨⟨z, s⟩, hr⟩ : ∃ r, l[k] = r := ⟨_, rfl⟩
      have hrz : l[k].1 = z := by rw [hr]
      rw [hr] at hc
      obtain ⟨g0, -⟩ := hc
      dsimp only at g0
      rw [hrz] at hn'
      have hs3 := Lib.hid (fun h : 0 ≤ z ∧ z ≤ 14 => hs.out (by rw [hrz]; exact h))
      replace hn' := Lib.hid hn'
      clear hr hrz hI hget hyes1 hno1 hyes2 hno2 hbl hs cF
      by_cases z0 : z < 0
      · have q1 : decide (z < 0) = true := decide_eq_true z0
        have hfin := Lib.hid (hbad.out 2 w (err_ix hd.out (hn'.out (by omega))).symm (Below.refl _ _))
        clear hbad hs3 hn'
        go_wp2
        first | go_ret | skip
        exact hfin.out
      · have q1 : decide (z < 0) = false := decide_eq_false z0
        by_cases z1 : 14 < z
        · have q2 : decide (14 < z) = true := decide_eq_true z1
          have hfin := Lib.hid (hbad.out 2 w (err_ix hd.out (hn'.out (by omega))).symm (Below.refl _ _))
          clear hbad hs3 hn'
          go_wp2
          first | go_ret | skip
          exact hfin.out
        · have q2 : decide (14 < z) = false := decide_eq_false z1
          have hs2 := Lib.hid (hs3.out (by omega))
          clear hbad hs3 hn'
          go_wp2
          go_round
          case rel => exact ⟨k + 1, by go_num, by omega, hs2⟩
          case measure => simp [intOf]; omega
    · obtain rfl : k = n := by omega
      have dk : decide ((k : Int) < (k : Int)) = false := decide_eq_false (by omega)
      have hx := Lib.hid (hyes1.out (fun j hj => hI.out j hj (by have := hlen.out; omega)))
      replace cF := Lib.hid (fun W hb => cF.out W hb hx.out)
      clear hyes1 hno1 hI
      go_wp2
      go_loopw [6] (fun iv wr => ∃ (j : Nat), iv = .int .i64 (j : Int) ∧ j ≤ k ∧ Hid (∀ i (hi : i < l.length), i < j → l[i].2.length = (l[0]'(by omega)).2.length) ∧ Hid (∃ m, wr = w.drewN m)) (fun iv _ => k - (intOf iv).toNat)
      case atStart => exact ⟨0, rfl, Nat.zero_le _, Lib.hid (fun j _ h => by omega), Lib.hid ⟨0, rfl⟩⟩
      case round =>
        obtain ⟨j, rfl, hj, hI, hw⟩ := hrel
        have hbr : Below w.heap.size w wr := by
          obtain ⟨m, e⟩ := hw.out
          rw [e]
          exact chainB (Below.refl _ _) m
        by_cases hjt : j < k
        · have dj : decide ((j : Int) < (k : Int)) = true := decide_eq_true (by omega)
          have j0 : (0 : Int) ≤ (j : Int) := by omega
          have j1 : (j : Int) < (k : Int) := by omega
          have z1' : (0 : Int) < (k : Int) := by omega
          have hjl : j < l.length := by have := hlen.out; omega
          have h0l : 0 < l.length := by omega
          obtain ⟨b, o, rfl, hbl, hc⟩ := hget.out j hjl
          obtain ⟨b', o', e', _, hc0⟩ := hget.out 0 h0l
          cases e'
          have hc := hc.below hbr hbl
          have hc0 := hc0.below hbr hbl
          obtain ⟨-, g1⟩ := hc
          obtain ⟨-, f1⟩ := hc0
          rw [Nat.zero_mul, Nat.add_zero] at f1
          have hn' := hno2.out j hjl
          have hs : l[j].2.length = l[0].2.length → ∀ i (hi : i < l.length), i < j + 1 → l[i].2.length = (l[0]'(by omega)).2.length := fun h i hi h1 => by
            by_cases e : i = j
            · subst e; exact h
            · exact hI.out i hi (by omega)
          replace hs := Lib.hid hs
          replace hn' := Lib.hid hn'
          obtain ⟨S, hS⟩ : ∃ S, str l[j].2 = S := ⟨_, rfl⟩
          obtain ⟨S0, hS0⟩ : ∃ S, str l[0].2 = S := ⟨_, rfl⟩
          have hz : S.size = l[j].2.length := by rw [← hS, size_str]
          have hz0 : S0.size = l[0].2.length := by rw [← hS0, size_str]
          have heq : (S.size = S0.size) ↔ (l[j].2.length = l[0].2.length) := by rw [hz, hz0]
          rw [hS] at g1
          rw [hS0] at f1
          replace heq := Lib.hid heq
          clear hS hS0 hz hz0 hget hbl hI cF hyes2 hno2
          by_cases e : S.size = S0.size
          · have hs2 := Lib.hid (hs.out (heq.out.1 e))
            have q1 : ((S.size : Int) != (S0.size : Int)) = false := by rw [e]; simp
            clear hs hn' e heq hbad hbr
            go_wp2
            go_quiet (fail)
            rename_i nq _
            go_wp2
            go_roundw
            case rel => exact ⟨j + 1, by go_num, by omega, hs2, Lib.hid (by obtain ⟨m, e⟩ := hw.out; exact ⟨m + nq, by rw [e, World.drewN_drewN]⟩)⟩
            case measure => simp [intOf]; omega
          · have q1 : ((S.size : Int) != (S0.size : Int)) = true := bne_iff_ne.2 (by omega)
            have hfin := Lib.hid (fun w' hb => hbad.out 1 w' (err_len hd.out hx.out (hn'.out (fun h => e (heq.out.2 h)))).symm hb)
            replace hbr := Lib.hid hbr
            clear hs hn' e heq hbad
            go_wp2
            go_quiet (fail)
            rename_i nq _
            have hf := Lib.hid (hfin.out _ (chainB hbr.out nq))
            go_wp2
            first | go_ret | skip
            exact hf.out
        · obtain rfl : j = k := by omega
          have dj : decide ((j : Int) < (j : Int)) = false := decide_eq_false (by omega)
          have hle := Lib.hid (hyes2.out (fun i hi => hI.out i hi (by have := hlen.out; omega)))
          have cF2 := Lib.hid (cF.out wr hbr)
          have hbr := Lib.hid hbr
          clear hyes2 hno2 hI cF hw
          go_wp2_with fail
          refine (cF2.out).mono ?_
          rintro e w3 ⟨A1, c1, B1, c2, rfl, hA, hB, hb3⟩
          have hb3 := Lib.hid (chain hbr.out hb3)
          have hfd : firstF D [] (shs l) = fst_ l D := rfl
          rw [hfd] at hA hB ⊢
          have hle1 : (fst_ l D).length ≤ D := (first_ok D (shs l)).le
          obtain ⟨M, hM⟩ : ∃ M, (fst_ l D).length = M := ⟨_, rfl⟩
          by_cases h5 : M < D
          · rw [hM] at hB ⊢
            have t3 : decide ((M : Int) < (D : Int)) = true := decide_eq_true (by omega)
            have t3' : decide (M < D) = true := decide_eq_true h5
            have hfin := Lib.hid (hbad.out 19 w3 (err_lost hd.out hx.out hle.out (by show (fst_ l D).length < D; omega)).symm hb3.out)
            clear hbad hA hB hfd hle1 hM cF2 hget hbr
            go_wp2
            first | go_ret | skip
            exact hfin.out
          have cA := fun (x : R) (W : World) (hb : Below w3.heap.size w3 W) => at_first x (hA.below hb) (hB.below hb) (by omega) (by omega) (fst_nodup l D) (fst_same hle.out D) (fst_small hsm.out D)
          obtain ⟨T, hT⟩ : ∃ T, stO (fst_ l D) = T := ⟨_, rfl⟩
          rw [hM] at cA hle1 ⊢
          rw [hT] at cA
          have t3 : decide ((M : Int) < (D : Int)) = false := decide_eq_false (by omega)
          have t3' : decide (M < D) = false := decide_eq_false h5
          have hyes3 : (∀ i (hi : i < (shs l).length), (shs l)[i].2 = T (shs l)[i].1) → errR l (D : Int) = 0 := fun h => err_ok hd.out hx.out hle.out (by show ¬ (fst_ l D).length < D; omega) (by
            show OnT (stO (fst_ l D)) (shs l)
            rw [hT]
            intro s hs
            obtain ⟨i, hi, rfl⟩ := List.getElem_of_mem hs
            exact h i hi)
          have hno3 : ∀ i (hi : i < (shs l).length), ¬ (shs l)[i].2 = T (shs l)[i].1 → errR l (D : Int) = 20 := fun i hi hne => err_conf hd.out hx.out hle.out (by show ¬ (fst_ l D).length < D; omega) (by
            show ¬ OnT (stO (fst_ l D)) (shs l)
            rw [hT]
            exact fun h => hne (h _ (List.getElem_mem hi)))
          have hget2 : ∀ (i : Nat) (hi : i < (shs l).length), ∃ b o, A = some ⟨b, o, none⟩ ∧ b < w.heap.size ∧ w.cell? ⟨b, o + i * 2, none⟩ = some (.int .i64 ((shs l)[i].1.toNat : Int)) ∧ w.cell? ⟨b, o + i * 2 + 1, none⟩ = some (.string (str (shs l)[i].2)) := fun i hi => by
            have hi' : i < l.length := by rw [shs_len] at hi; exact hi
            obtain ⟨b, o, e, hb, hc⟩ := hget.out i hi'
            have e1 : (((shs l)[i]).1.toNat : Int) = l[i].1 := by
              have h1 : (raws (shs l))[i]'(by rw [raws_len]; exact hi) = l[i] := by simp only [raws_shs hx.out]
              rw [← h1]
              simp [raws]
            have e2 : (shs l)[i].2 = l[i].2 := by simp [shs]
            exact ⟨b, o, e, hb, by rw [e1]; exact hc.c0, by rw [e2]; exact hc.c1⟩
          have hls : (shs l).length = j := by rw [shs_len]; exact hlen.out
          have hsml := shs_small hx.out
          obtain ⟨ms, hms⟩ : ∃ ms, shs l = ms := ⟨_, rfl⟩
          rw [hms] at hls hsml
          simp only [hms] at hyes3 hno3 hget2
          replace cA := Lib.hid cA
          replace hyes3 := Lib.hid hyes3
          replace hno3 := Lib.hid hno3
          replace hget2 := Lib.hid hget2
          replace hls := Lib.hid hls
          replace hsml := Lib.hid hsml
          clear hA hB hfd hle1 hM cF2 hget hbr hT hle hx
          go_wp2
          go_loopw [9] (fun iv wr => ∃ (i : Nat), iv = .int .i64 (i : Int) ∧ i ≤ j ∧ Hid (∀ q (hq : q < ms.length), q < i → ms[q].2 = T ms[q].1) ∧ Hid (Below w3.heap.size w3 wr)) (fun iv _ => j - (intOf iv).toNat)
          case atStart => exact ⟨0, rfl, Nat.zero_le _, Lib.hid (fun j _ h => by omega), Lib.hid (Below.refl _ _)⟩
          case round =>
            obtain ⟨i, rfl, hi, hI, hb⟩ := hrel
            by_cases hit : i < j
            · have dj : decide ((i : Int) < (j : Int)) = true := decide_eq_true (by omega)
              have j0 : (0 : Int) ≤ (i : Int) := by omega
              have j1 : (i : Int) < (j : Int) := by omega
              have hil : i < ms.length := by have := hls.out; omega
              obtain ⟨b, o, rfl, hbl, g0, g1⟩ := hget2.out i hil
              have hX14 := hsml.out _ (List.getElem_mem hil)
              have hs : ms[i].2 = T ms[i].1 → ∀ q (hq : q < ms.length), q < i + 1 → ms[q].2 = T ms[q].1 := fun h q hq h1 => by
                by_cases e : q = i
                · subst e; exact h
                · exact hI.out q hq (by omega)
              have hn' := hno3.out i hil
              have hsB := str_eqC (T ms[i].1) ms[i].2
              replace hs := Lib.hid hs
              replace hn' := Lib.hid hn'
              have cK := cA.out ms[i].1
              obtain ⟨X, hX⟩ : ∃ X, ms[i].1 = X := ⟨_, rfl⟩
              rw [hX] at g0 hsB cK hX14
              obtain ⟨S, hS⟩ : ∃ S, str ms[i].2 = S := ⟨_, rfl⟩
              rw [hS] at g1 hsB
              obtain ⟨U, hU⟩ : ∃ U, str (T X) = U := ⟨_, rfl⟩
              simp only [hU] at hsB cK
              have hb4 : Below w.heap.size w wr := hb3.out.trans (hb.out.mono hb3.out.size)
              have r0 : ∀ W, Below wr.heap.size wr W → W.cell? ⟨b, o + i * 2, none⟩ = some (.int .i64 (X.toNat : Int)) := fun W h => ((hb4.trans (h.mono hb4.size)).cell (p := ⟨b, o + i * 2, none⟩) hbl).trans g0
              have r1 : ∀ W, Below wr.heap.size wr W → W.cell? ⟨b, o + i * 2 + 1, none⟩ = some (.string S) := fun W h => ((hb4.trans (h.mono hb4.size)).cell (p := ⟨b, o + i * 2 + 1, none⟩) hbl).trans g1
              have cK2 := fun (W : World) (hW : Below wr.heap.size wr W) => cK W (hb.out.trans (hW.mono hb.out.size))
              have hcv : ∀ W, (convert 3 5 (.int .i64 (X.toNat : Int))).run Try.prog W = .ok (bv X) W := fun W => by
                have : IntKind.u8.wrap (X.toNat : Int) = (X.toNat : Int) := by rw [IntKind.wrap_u8]; omega
                simp [convert, go_sem, this]
              have keep0 := Below.refl wr.heap.size wr
              have keep1 : ∀ W, Below wr.heap.size wr W → Below wr.heap.size wr (World.drew W) := fun W h => chainN h 1
              have hX2 : (X.toNat : Int) < 256 := by have := X.isLt; omega
              have hwX : IntKind.u8.wrap (X.toNat : Int) = (X.toNat : Int) := by rw [IntKind.wrap_u8]; omega
              have hXh := Lib.hid hX
              have hb3c := Lib.hid hb.out
              have hb3b := Lib.hid (fun (W : World) (h : Below w3.heap.size w3 W) => h)
              replace cK2 := Lib.hid cK2
              replace hb4 := Lib.hid hb4
              clear cK hX hS hU hI hb hbl cA hyes3 hno3 hcv
              by_cases e : T X = ms[i].2
              · rw [decide_eq_true e] at hsB
                have q2 : (U.toList != S.toList) = false := by simp only [bne, hsB]; rfl
                have hs2 := Lib.hid (hs.out (by rw [hXh.out]; exact e.symm))
                clear hs hn' e hXh
                go_wp2_with fail
                go_region_held3 (fun W => Below wr.heap.size wr W) (first | exact keep0 | exact keep1 _ keep0 | exact chain ‹_› ‹_› | assumption) (first | (go_at_call 29; (with_reducible refine (cK2.out _ (by assumption)).mono ?_); rintro e w5 ⟨rfl, hb5⟩))
                have hbw : Below wr.heap.size wr w5 := by assumption
                have hb6 := Lib.hid (hb3b.out _ (hb3c.out.trans (hbw.mono hb3c.out.size)))
                clear keep0 keep1 r0 r1 cK2 hbw
                go_wp2
                go_roundw
                case rel => exact ⟨i + 1, by go_num, by omega, hs2, hb6⟩
                case measure => simp [intOf]; omega
              · rw [decide_eq_false e] at hsB
                have q2 : (U.toList != S.toList) = true := by simp only [bne, hsB]; rfl
                have hfin := Lib.hid (fun w' hb => hbad.out 20 w' (hn'.out (fun h => e (by rw [hXh.out] at h; exact h.symm))).symm hb)
                clear hs hn' e hXh hbad
                go_wp2_with fail
                go_region_held3 (fun W => Below wr.heap.size wr W) (first | exact keep0 | exact keep1 _ keep0 | exact chain ‹_› ‹_› | assumption) (first | (go_at_call 29; (with_reducible refine (cK2.out _ (by assumption)).mono ?_); rintro e w5 ⟨rfl, hb5⟩))
                have hbw : Below wr.heap.size wr w5 := by assumption
                have hf := Lib.hid (hfin.out w5 (hb4.out.trans (hbw.mono hb4.out.size)))
                clear keep0 keep1 r0 r1 cK2 hbw hfin
                go_wp2
                first | go_ret | skip
                exact hf.out
            · obtain rfl : i = j := by omega
              have dj : decide ((i : Int) < (i : Int)) = false := decide_eq_false (by omega)
              have hfin := Lib.hid (hbad.out 0 wr (hyes3.out (fun q hq => hI.out q hq (by have := hls.out; omega))).symm (hb3.out.trans (hb.out.mono hb3.out.size)))
              clear hyes3 hno3 hI hget2 hb cA hbad
              go_wp2
              first | go_ret | skip
              exact hfin.out
end Go.Proofs.Ytcakdhnlgeiodaa.E15
