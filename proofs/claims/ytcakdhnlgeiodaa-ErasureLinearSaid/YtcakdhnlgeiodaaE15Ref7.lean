/- The contracts of the reference's Same and Shares of layer 15. -/
import Derived.Test.YtcakdhnlgeiodaaE15Mk
import Derived.Test.YtcakdhnlgeiodaaE15Con
import Derived.BigQuiet
import Derived.Deep.QuietTactic
namespace Go.Proofs.Ytcakdhnlgeiodaa.E15
set_option maxRecDepth 100000
open Go.RowKit Mem S14
open Go.Proofs.Ytcakdhnlgeiodaa.G5 Go.Proofs.Ytcakdhnlgeiodaa.G7
open Go.Proofs.Ytcakdhnlgeiodaa.G6 (IsSl rs rs_len rs_get rs_set rs_one rs_snoc make_zeros zeros_at own_zeros info_byte u8s conv_sl)
set_option linter.unusedVariables false
set_option linter.unusedSimpArgs false

/-- A Bool that says whether P. -/
def IsBq (P : Prop) (e : Ending) : Prop := ∃ b : Bool, e = .returned (.bool b) ∧ (b = true ↔ P)
theorem str_eqD (a b : List R) : ((str a).toList == (str b).toList) = decide (a = b) := by
  rw [str_same, Bool.eq_iff_iff, beq_iff_eq, decide_eq_true_iff]
set_option maxHeartbeats 8000000 in
theorem same_any {A B : Option Addr} {ca cb n m : Nat} {la lb : List (List R)} {w : World} (hA : IsBs w A n ca la) (hB : IsBs w B m cb lb) (hn : n ≤ 1000) (hm : m ≤ 1000) :
    Calls Try.prog 15 #[.slice A n ca, .slice B m cb] w fun e w' => IsBq (la = lb) e ∧ ∃ q, w' = w.drewN q := by
  have h1 := hA.len
  have h2 := hB.len
  by_cases e : n = m
  · subst e
    have hga := fun (k : Nat) (hk : k < la.length) => hA.get hk
    have hgb := fun (k : Nat) (hk : k < lb.length) => hB.get hk
    have hyes : (∀ j (hj : j < n), la[j]'(by omega) = lb[j]'(by omega)) → la = lb := fun h => List.ext_getElem (by omega) fun i h1 h2 => h i (by omega)
    have hno : ∀ k (hk : k < n), ¬ la[k]'(by omega) = lb[k]'(by omega) → ¬ la = lb := fun k hk hne h => hne (by simp only [h])
    have hl1 := Lib.hid h1
    have hl2 := Lib.hid h2
    replace hga := Lib.hid hga
    replace hgb := Lib.hid hgb
    replace hyes := Lib.hid hyes
    replace hno := Lib.hid hno
    clear hA hB
    go_enter Try.func15, Try.ntmps15
    go_wp2
    go_loopw [5] (fun iv wr => ∃ (k : Nat), iv = .int .i64 (k : Int) ∧ k ≤ n ∧ Hid (∀ j (hj : j < n), j < k → la[j]'(by omega) = lb[j]'(by omega)) ∧ Hid (∃ q, wr = w.drewN q)) (fun iv _ => n - (intOf iv).toNat)
    case atStart => exact ⟨0, rfl, Nat.zero_le _, Lib.hid (fun j _ h => by omega), Lib.hid ⟨0, rfl⟩⟩
    case round =>
      obtain ⟨k, rfl, hk, hI, hw⟩ := hrel
      by_cases hlt : k < n
      · have dk : decide ((k : Int) < (n : Int)) = true := decide_eq_true (by omega)
        have k0 : (0 : Int) ≤ (k : Int) := by omega
        have k1 : (k : Int) < (n : Int) := by omega
        obtain ⟨b1, o1, rfl, _, g1⟩ := hga.out k (by omega)
        obtain ⟨b2, o2, rfl, _, g2⟩ := hgb.out k (by omega)
        have g1 : wr.cell? ⟨b1, o1 + k, none⟩ = some (.string (str (la[k]'(by omega)))) := by obtain ⟨q, e⟩ := hw.out; rw [e]; exact g1
        have g2 : wr.cell? ⟨b2, o2 + k, none⟩ = some (.string (str (lb[k]'(by omega)))) := by obtain ⟨q, e⟩ := hw.out; rw [e]; exact g2
        have hs : la[k]'(by omega) = lb[k]'(by omega) → ∀ j (hj : j < n), j < k + 1 → la[j]'(by omega) = lb[j]'(by omega) := fun h j hj h1 => by
          by_cases e : j = k
          · subst e; exact h
          · exact hI.out j hj (by omega)
        have hn' := hno.out k hlt
        have hsB := str_eqD (la[k]'(by omega)) (lb[k]'(by omega))
        replace hs := Lib.hid hs
        replace hn' := Lib.hid hn'
        obtain ⟨S, hS⟩ : ∃ S, str (la[k]'(by omega)) = S := ⟨_, rfl⟩
        obtain ⟨U, hU⟩ : ∃ U, str (lb[k]'(by omega)) = U := ⟨_, rfl⟩
        rw [hS] at g1 hsB
        rw [hU] at g2 hsB
        clear hS hU hga hgb hno hI
        by_cases e : la[k]'(by omega) = lb[k]'(by omega)
        · rw [decide_eq_true e] at hsB
          have t1 : (S.toList != U.toList) = false := by simp only [bne, hsB]; rfl
          have hs2 := Lib.hid (hs.out e)
          clear hs hn' e hyes
          go_wp2
          go_quiet (fail)
          go_wp2
          rename_i nq _
          go_roundw
          case rel => exact ⟨k + 1, by go_num, by omega, hs2, Lib.hid (by obtain ⟨q, e⟩ := hw.out; exact ⟨q + nq, by rw [e, World.drewN_drewN]⟩)⟩
          case measure => simp [intOf]; omega
        · rw [decide_eq_false e] at hsB
          have t1 : (S.toList != U.toList) = true := by simp only [bne, hsB]; rfl
          have hfin := Lib.hid (hn'.out e)
          clear hs hn' e hyes
          go_wp2
          go_quiet (fail)
          go_wp2
          rename_i nq _
          go_ret
          exact ⟨⟨false, rfl, ⟨fun h => (by cases h), fun h => absurd h hfin.out⟩⟩, by obtain ⟨q, e⟩ := hw.out; exact ⟨q + nq, by rw [e, World.drewN_drewN]⟩⟩
      · obtain rfl : k = n := by omega
        have dk : decide ((k : Int) < (k : Int)) = false := decide_eq_false (by omega)
        have hfin := Lib.hid (hyes.out (fun j hj => hI.out j hj (by omega)))
        clear hyes hno hga hgb hI
        go_wp2
        go_ret
        exact ⟨⟨true, rfl, ⟨fun _ => hfin.out, fun _ => rfl⟩⟩, hw.out⟩
  · have t1 : ((n : Int) != (m : Int)) = true := bne_iff_ne.2 (by omega)
    have hne : Hid (¬ la = lb) := Lib.hid (fun h => e (by rw [← h1, ← h2, h]))
    clear hA hB h1 h2 e
    go_enter Try.func15, Try.ntmps15
    go_wp2
    go_ret
    exact ⟨⟨false, rfl, ⟨fun h => (by cases h), fun h => absurd h hne.out⟩⟩, 0, rfl⟩
theorem shD_take {L : List (List R)} {k : Nat} (hk : k < L.length) : (shD L).take (k + 1) = (shD L).take k ++ [(pt k, L[k])] := by
  have hl : k < (shD L).length := by rw [shD_len]; exact hk
  rw [List.take_add_one, List.getElem?_eq_getElem hl]
  have : (shD L)[k] = (pt k, L[k]) := by simp [shD, List.getD_eq_getElem?_getD, hk]
  rw [this]
  rfl
/-- What Shares hands back. -/
def ShP (L : List (List R)) (w : World) (e : Ending) (w' : World) : Prop := ∃ v : Value, e = .returned v ∧ w'.ownsRow w.heap.size 32 2 v L.length (rw_ (raws (shD L))) ∧ Below w.heap.size w w'
theorem two_one (z : Int) (S : ByteArray) : ∀ u ∈ ([.int .i64 z, .string S] : List Value), u.oneCell' = true := fun u hu => by
  rcases List.mem_cons.1 hu with rfl | hu
  · rfl
  · rw [List.mem_singleton.1 hu]; rfl
set_option maxHeartbeats 8000000 in
theorem shares_any {A B : Option Addr} {ca cb n m : Nat} {la lb : List (List R)} {w : World} (hA : IsBs w A n ca la) (hB : IsBs w B m cb lb) (hn : n + m ≤ 100) :
    Calls Try.prog 35 #[.slice A n ca, .slice B m cb] w (ShP (la ++ lb) w) := by
  have h1 := hA.len
  have h2 := hB.len
  obtain ⟨L, hL⟩ : ∃ L, la ++ lb = L := ⟨_, rfl⟩
  have hLl : L.length = n + m := by rw [← hL, List.length_append, h1, h2]
  have hga := fun (k : Nat) (hk : k < n) => hA.get (k := k) (by omega)
  have hgb := fun (k : Nat) (hk : k < m) => hB.get (k := k) (by omega)
  have hea : ∀ k (hk : k < n), la[k]'(by omega) = L[k]'(by omega) := fun k hk => by simp only [← hL]; rw [List.getElem_append_left]
  have heb : ∀ k (hk : k < m), lb[k]'(by omega) = L[n + k]'(by omega) := fun k hk => by
    simp only [← hL]
    rw [List.getElem_append_right (by omega)]
    simp only [h1, Nat.add_sub_cancel_left]
  have hst := fun (k : Nat) (hk : k < L.length) (S : ByteArray) (hS : str L[k] = S) => show rw_ (raws ((shD L).take (k + 1))) = rw_ (raws ((shD L).take k)) ++ [.int .i64 (k : Int), .string S] by
    rw [shD_take hk, raws_snoc, hS]
    show _ ++ [Value.int .i64 ((pt k).toNat : Int), _] = _
    rw [pt_val (by omega)]
  have hgoal : ∀ (v : Value) (w' : World), w'.ownsRow w.heap.size 32 2 v (n + m) (rw_ (raws ((shD L).take (n + m)))) → Below w.heap.size w w' → ShP L w (.returned v) w' := fun v w' h3 h4 => by
    rw [List.take_of_length_le (by rw [shD_len]; omega)] at h3
    exact ⟨v, rfl, by rw [hLl]; exact h3, h4⟩
  rw [hL]
  obtain ⟨P, hP⟩ : ∃ P, ShP L w = P := ⟨_, rfl⟩
  rw [hP] at hgoal ⊢
  obtain ⟨i0, hi, hz0, hz1, hz2⟩ := info_parts info_share
  have o1 : (w.alloc (.cells #[] 32)).ownsRow w.heap.size 32 2 (.slice (some ⟨w.heap.size, 0, none⟩) 0 0) 0 (rw_ (raws ((shD L).take 0))) := empty_at rfl (Nat.le_refl _)
  have o3 : Below w.heap.size w (w.alloc (.cells #[] 32)) := (Below.refl _ _).alloc (Nat.le_refl _) _
  replace hga := Lib.hid hga
  replace hgb := Lib.hid hgb
  replace hea := Lib.hid hea
  replace heb := Lib.hid heb
  replace hst := Lib.hid hst
  replace hgoal := Lib.hid hgoal
  replace o1 := Lib.hid o1
  replace o3 := Lib.hid o3
  replace hLl := Lib.hid hLl
  have h1 := Lib.hid h1
  have h2 := Lib.hid h2
  clear hA hB hP
  show Calls _ _ _ _ (fun e w' => P e w')
  go_enter Try.func35, Try.ntmps35
  go_wp2
  go_loopw [5, 6] (fun vv iv wr => ∃ (k : Nat) (v : Value), v = vv ∧ iv = .int .i64 (k : Int) ∧ k ≤ n ∧ Hid (wr.ownsRow w.heap.size 32 2 v k (rw_ (raws ((shD L).take k)))) ∧ Hid (Below w.heap.size w wr)) (fun _ iv _ => n - (intOf iv).toNat)
  case atStart => exact ⟨0, _, rfl, rfl, Nat.zero_le _, o1, o3⟩
  case round =>
    clear o1 o3
    obtain ⟨k, v, rfl, rfl, hk, hrow, hb⟩ := hrel
    by_cases hlt : k < n
    · have dk : decide ((k : Int) < (n : Int)) = true := decide_eq_true (by omega)
      have k0 : (0 : Int) ≤ (k : Int) := by omega
      have k1 : (k : Int) < (n : Int) := by omega
      obtain ⟨b, o, rfl, hbl, g1⟩ := hga.out k hlt
      rw [hea.out k hlt] at g1
      have g1 := (hb.out.cell (p := ⟨b, o + k, none⟩) hbl).trans g1
      obtain ⟨S, hS⟩ : ∃ S, str (L[k]'(by have := hLl.out; omega)) = S := ⟨_, rfl⟩
      rw [hS] at g1
      have hsn := Lib.hid (hst.out k (by have := hLl.out; omega) S hS)
      have hro := hrow.out
      have hbo := hb.out
      have hbs := hbo.size
      clear hS hbl hrow hb hga hgb hea heb hst hgoal
      go_wp2_with (at_builtin; refine wpList_append_own _ rfl _ _ 30 rfl w.heap.size 32 i0 (.agg #[.int .i64 0, .string ⟨#[]⟩]) 2 24 Try.underlying30 hi hz0 hz1 hz2 rfl (by decide) _ _ _ rfl (hro.alloc _) ⟨wr.heap.size, 0, none⟩ 1 1 [.int .i64 (k : Int), .string S] rfl rfl (list_new _ _ _) (two_one _ _) (by unfold maxLen; omega) (by omega) (by simp; omega) ?_; intro v' w6 hown' hgrow _)
      have hb6 := (hbo.alloc hbs _).grown hgrow (by simp; omega) (fun j hj => (hro.lt j hj).1)
      rw [← hsn.out] at hown'
      clear hgrow hro hbo
      go_roundw
      case rel => exact ⟨k + 1, _, rfl, by go_num, by omega, Lib.hid hown', Lib.hid hb6⟩
      case measure => simp [intOf]; omega
    · obtain rfl : k = n := by omega
      have dk : decide ((k : Int) < (k : Int)) = false := decide_eq_false (by omega)
      have hrow0 : Hid (wr.ownsRow w.heap.size 32 2 v (k + 0) (rw_ (raws ((shD L).take (k + 0))))) := hrow
      obtain ⟨w0, rfl⟩ : ∃ W, W = wr := ⟨_, rfl⟩
      clear hga hea hrow
      go_wp2
      go_loopw [5, 7] (fun vv iv wi => ∃ (j : Nat) (v : Value), v = vv ∧ iv = .int .i64 (j : Int) ∧ j ≤ m ∧ Hid (wi.ownsRow w.heap.size 32 2 v (k + j) (rw_ (raws ((shD L).take (k + j))))) ∧ Hid (Below w.heap.size w wi)) (fun _ iv _ => m - (intOf iv).toNat)
      case atStart => exact ⟨0, _, rfl, rfl, Nat.zero_le _, hrow0, hb⟩
      case round =>
        clear hrow0 hb
        obtain ⟨j, v, rfl, rfl, hj, hrow, hb⟩ := hrel
        by_cases hjt : j < m
        · have dj : decide ((j : Int) < (m : Int)) = true := decide_eq_true (by omega)
          have j0 : (0 : Int) ≤ (j : Int) := by omega
          have j1 : (j : Int) < (m : Int) := by omega
          obtain ⟨b, o, rfl, hbl, g1⟩ := hgb.out j hjt
          rw [heb.out j hjt] at g1
          have g1 := (hb.out.cell (p := ⟨b, o + j, none⟩) hbl).trans g1
          obtain ⟨S, hS⟩ : ∃ S, str (L[k + j]'(by have := hLl.out; omega)) = S := ⟨_, rfl⟩
          rw [hS] at g1
          have hsn := hst.out (k + j) (by have := hLl.out; omega) S hS
          obtain ⟨I, hI⟩ : ∃ I, k + j = I := ⟨_, rfl⟩
          have eI : (k : Int) + (j : Int) = (I : Int) := by omega
          have hI2 : I ≤ 100 := by omega
          have hro := hrow.out
          rw [hI] at hsn hro
          have hIh := Lib.hid (show k + (j + 1) = I + 1 by omega)
          replace hsn := Lib.hid hsn
          have hbo := hb.out
          have hbs := hbo.size
          clear hS hbl hrow hb hgb heb hst hgoal hI
          go_wp2_with (at_builtin; refine wpList_append_own _ rfl _ _ 30 rfl w.heap.size 32 i0 (.agg #[.int .i64 0, .string ⟨#[]⟩]) 2 24 Try.underlying30 hi hz0 hz1 hz2 rfl (by decide) _ _ _ rfl (hro.alloc _) ⟨wr.heap.size, 0, none⟩ 1 1 [.int .i64 (I : Int), .string S] rfl rfl (list_new _ _ _) (two_one _ _) (by unfold maxLen; omega) (by omega) (by simp; omega) ?_; intro v' w6 hown' hgrow _)
          have hb6 := (hbo.alloc hbs _).grown hgrow (by simp; omega) (fun j hj => (hro.lt j hj).1)
          rw [← hsn.out] at hown'
          clear hgrow hro hbo
          go_roundw
          case rel => exact ⟨j + 1, _, rfl, by go_num, by omega, Lib.hid (by rw [hIh.out]; exact hown'), Lib.hid hb6⟩
          case measure => simp [intOf]; omega
        · obtain rfl : j = m := by omega
          have dj : decide ((j : Int) < (j : Int)) = false := decide_eq_false (by omega)
          have hfin := Lib.hid (hgoal.out v wr hrow.out hb.out)
          clear hgoal hrow hb hgb heb hst
          go_wp2
          first | go_ret | skip
          exact hfin.out
end Go.Proofs.Ytcakdhnlgeiodaa.E15
