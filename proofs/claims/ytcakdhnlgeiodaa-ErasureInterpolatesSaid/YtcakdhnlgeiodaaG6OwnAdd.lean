/- The contracts of the landed functions of layer 6: Add, Derivative. -/
import Derived.Test.YtcakdhnlgeiodaaG6OwnEv
namespace Go.Proofs.Ytcakdhnlgeiodaa.G6
set_option maxRecDepth 100000
open Go.Proofs.Ytcakdhnlgeiodaa.G5
open Go.RowKit Mem
set_option linter.unusedVariables false
set_option linter.unusedSimpArgs false

theorem ad_step {P q : List R} {k n : Nat} (hP : P.length = n) (hq : q.length ≤ n) (hk : k < q.length) :
    (ad P (q.take k)).length = n ∧ (ad P (q.take k)).getD k 0 = P.getD k 0 ∧ (ad P (q.take k)).set k (P.getD k 0 ^^^ q.getD k 0) = ad P (q.take (k + 1)) := by
  have h1 : (ad P (q.take k)).length = n := by rw [ad_len, List.length_take]; omega
  have h2 : (ad P (q.take (k + 1))).length = n := by rw [ad_len, List.length_take]; omega
  refine ⟨h1, by rw [ad_get, getD_take, if_neg (by omega), xz], eq_getD (by rw [List.length_set, h1, h2]) fun j hj => ?_⟩
  rw [getD_set _ _ _ _ (by omega), ad_get, ad_get, getD_take, getD_take]
  by_cases e : j = k
  · subst e
    rw [if_pos rfl, if_pos (by omega)]
  · rw [if_neg e]
    by_cases e2 : j < k
    · rw [if_pos e2, if_pos (by omega)]
    · rw [if_neg e2, if_neg (by omega)]

set_option maxRecDepth 100000 in
set_option maxHeartbeats 2000000 in
theorem addP_own {A B : Option Addr} {c d : Nat} {p q : List R} {w : World} (h : IsSl w A c p) (h' : IsSl w B d q) (hp : p.length ≤ 1000) (hq : q.length ≤ 1000) :
    Calls Try.prog 38 #[.slice A p.length c, .slice B q.length d] w (Gives w (addL p q)) := by
  have hph := Lib.hid h
  have hqh := Lib.hid h'
  clear h h'
  obtain ⟨n, hn⟩ : ∃ n, max p.length q.length = n := ⟨_, rfl⟩
  obtain ⟨P, hP⟩ : ∃ P, p ++ List.replicate (n - p.length) 0#8 = P := ⟨_, rfl⟩
  have hPl : P.length = n := by rw [← hP]; simp; omega
  have hPg : ∀ j, P.getD j 0 = p.getD j 0 := fun j => by rw [← hP]; exact ad_zeros p _ j
  have hPe : p.take n ++ List.replicate (n - p.length) 0#8 = P := by rw [List.take_of_length_le (by omega)]; exact hP
  have hfin : ad P q = ad p q := eq_getD (by rw [ad_len, ad_len]; omega) fun j _ => by rw [ad_get, ad_get, hPg]
  have hn1000 : n ≤ 1000000 := by omega
  have hqn := Lib.hid (show q.length ≤ n by omega)
  have hnb : n ≤ 1000 := by omega
  have hPl := Lib.hid hPl
  have hPg := Lib.hid hPg
  have hPe := Lib.hid hPe
  have hfin := Lib.hid hfin
  obtain ⟨lp, hlp⟩ : ∃ lp, p.length = lp := ⟨_, rfl⟩
  obtain ⟨lq, hlq⟩ : ∃ lq, q.length = lq := ⟨_, rfl⟩
  rw [hlp] at hp ⊢
  rw [hlq] at hq ⊢
  have hlph := Lib.hid hlp
  have hlqh := Lib.hid hlq
  have two : (lp < lq ∧ lq = n) ∨ (¬ lp < lq ∧ lp = n) := by omega
  clear hP hn hlq hlp
  rcases two with ⟨ht, e⟩ | ⟨ht, e⟩
  all_goals
    have hmk := make_as w _ n e (by omega)
    have htI : (lp : Int) < (lq : Int) ↔ lp < lq := by omega
    clear e
    go_enter Try.func38, Try.ntmps38
    go_wp2_with (with_reducible refine wpList_copy_made rfl (.tmp 13) (.tmp 14) rfl n A lp c p hlph.out rfl rfl hph.out hn1000 ?_)
    intro w1 v hcp
    clear hmk ht htI
    obtain ⟨G, hG⟩ : ∃ G, w.heap.size = G := ⟨_, rfl⟩
    have hat := hcp.row
    rw [hPe.out, hG] at hat
    have hgl := hcp.lt
    have hb1 := hcp.below
    rw [hG] at hgl ⊢
    have hGh := Lib.hid hG
    clear hcp hG
    go_wp2
    go_loopw [18] (fun a wr => ∃ k : Nat, k ≤ lq ∧ a = .int .i64 k ∧ Hid (VAt wr G (rs (ad P (q.take k)))) ∧ Hid (G < wr.heap.size) ∧ Below w.heap.size w wr) (fun a _ => lq - (intOf a).toNat)
    case atStart => exact ⟨0, Nat.zero_le _, rfl, Lib.hid (by rw [List.take_zero, ad_nil]; exact hat), Lib.hid hgl, hb1⟩
    case round =>
      clear hat hgl hb1
      obtain ⟨k, hk, rfl, hat, hgl, hb⟩ := hrel
      by_cases hlt : k < lq
      · obtain ⟨s1, s2, s3⟩ := ad_step (k := k) hPl.out hqn.out (by rw [hlqh.out]; exact hlt)
        obtain ⟨hn1, hf1⟩ := VAt.readR hat.out (k := k) (by have := hqn.out; have := hlqh.out; omega)
        obtain ⟨b2, o2, rfl, hbl2, hc2⟩ := (hqh.out.below hb).read k (by rw [hlqh.out]; exact hlt)
        rw [s2] at hn1
        obtain ⟨X, hX⟩ : ∃ X, P.getD k 0 = X := ⟨_, rfl⟩
        obtain ⟨Y, hY⟩ : ∃ Y, q.getD k 0 = Y := ⟨_, rfl⟩
        rw [hX] at hn1 s3
        rw [hY] at hc2 s3
        have cA := fun W => (add_own X Y W).mono fun _ _ ⟨a, b⟩ => And.intro a b.symm
        obtain ⟨S, hS⟩ : ∃ S, X ^^^ Y = S := ⟨_, rfl⟩
        rw [hS] at cA s3
        have cA := Lib.hid cA
        have hat2 := Lib.hid (show VAt (wr.setCell ⟨G, k, none⟩ (bv S)).drew G (rs (ad P (q.take (k + 1)))) by
          have := (VAt.setR hat.out (k := k) (by have := hqn.out; have := hlqh.out; omega) S).drew
          rw [s3] at this
          exact this)
        have hgl2 := Lib.hid (show G < (wr.setCell ⟨G, k, none⟩ (bv S)).drew.heap.size by simpa using hgl.out)
        have hb2 := chainN (hb.setCell (p := ⟨G, k, none⟩) (by rw [hGh.out]; exact Nat.le_refl _) (bv S)) 1
        have i1 : (k : Int) < (lq : Int) := by omega
        have i2 : (k : Int) < (n : Int) := by have := hqn.out; have := hlqh.out; omega
        have i0 : (0 : Int) ≤ (k : Int) := by omega
        clear hat hgl s1 s2 s3 hX hY hS
        go_wp2_with fail
        refine wp_region_still_tail 12 (by kernel_rfl) (by kernel_rfl) ?_
        simp only [List.take_succ_cons, List.take_zero, List.drop_succ_cons, List.drop_zero]
        repeat still_step
        still_call (cA.out _)
        repeat still_step
        refine wpStill_nil ?_
        change wpList _ _ _ _ _ wr.drew
        go_wp2
        go_roundw
        case rel => exact ⟨k + 1, by omega, by go_num, hat2, hgl2, hb2⟩
        case measure => simp [intOf]; omega
      · have i1 : ¬ (k : Int) < (lq : Int) := by omega
        have hat2 := hat.out
        rw [List.take_of_length_le (by have := hlqh.out; omega), hfin.out] at hat2
        have hal : (ad p q).length = n := by rw [← hfin.out, ad_len, hPl.out]; have := hqn.out; omega
        have hsl := IsSl.of_at hat2 hal (by omega) hgl.out
        have cc := size_own hsl (by omega)
        rw [hal] at cc
        have hsl := Lib.hid hsl
        have hal := Lib.hid hal
        obtain ⟨m, hm⟩ : ∃ m, (trim (ad p q)).length = m := ⟨_, rfl⟩
        rw [hm] at cc
        have hmn : (m : Int) ≤ (n : Int) := by have := trim_len (ad p q); have := hal.out; omega
        have hmh := Lib.hid hm
        have cc := Lib.hid cc
        clear hm hat2 hat hgl
        go_wp2_with fail
        refine cc.out.mono ?_
        rintro e w2 ⟨rfl, rfl⟩
        go_wp2
        go_ret
        exact ⟨_, n, by rw [addL, hmh.out]; rfl, hsl.out.front m (by rw [← hmh.out]; exact trim_take _), hb⟩
end Go.Proofs.Ytcakdhnlgeiodaa.G6
