/- The contract of the reference's Interpolate. -/
import Derived.Test.YtdinngcfjjajeaaG6Lag
import Derived.Test.YtdinngcfjjajeaaG6Dev
namespace Go.Proofs.Ytdinngcfjjajeaa.G6
open Go.Proofs.Ytdinngcfjjajeaa.G5
open Go.RowKit Mem
set_option linter.unusedVariables false
set_option linter.unusedSimpArgs false

set_option maxRecDepth 100000 in
set_option maxHeartbeats 2000000 in
theorem rit1_any {A B : Option Addr} {c d : Nat} {xl yl : List R} {w : World} (hne : xl.length ≠ yl.length) :
    Calls Try.prog 28 #[.slice A xl.length c, .slice B yl.length d] w (ItpNo 1 w) := by
  obtain ⟨n, hn⟩ : ∃ n, xl.length = n := ⟨_, rfl⟩
  obtain ⟨m, hm⟩ : ∃ m, yl.length = m := ⟨_, rfl⟩
  rw [hn, hm] at hne ⊢
  have t1 : ((n : Int) == (m : Int)) = false := by rw [beq_eq_false_iff_ne]; omega
  have t2 : ((n : Int) != (m : Int)) = true := by rw [bne, t1]; rfl
  have t3 : (n == m) = false := by rw [beq_eq_false_iff_ne]; omega
  have t4 : (n != m) = true := by rw [bne, t3]; rfl
  clear hn hm hne
  go_enter Try.func28, Try.ntmps28
  go_wp2
  go_ret2
  exact ⟨_, 0, rfl, IsSl.made w 5 [] #[] _ 0 rfl rfl rfl (by decide), mb w _⟩

set_option maxRecDepth 100000 in
set_option maxHeartbeats 8000000 in
theorem ritp_any {A B : Option Addr} {c d : Nat} {xl yl : List R} {w : World} (h : IsSl w A c xl) (h' : IsSl w B d yl) (hx : xl.length ≤ 20) (he : yl.length = xl.length) :
    Calls Try.prog 28 #[.slice A xl.length c, .slice B yl.length d] w fun e w' => (¬ xl.Nodup ∧ ItpNo 8 w e w') ∨ (xl.Nodup ∧ ItpYes xl yl w e w') := by
  have hxh := Lib.hid h
  have hyh := Lib.hid h'
  obtain ⟨n, hn⟩ : ∃ n, xl.length = n := ⟨_, rfl⟩
  rw [he, hn]
  have heh := Lib.hid (he.trans hn)
  have hnh := Lib.hid hn
  rw [hn] at hx
  clear h h' hn he
  go_enter Try.func28, Try.ntmps28
  go_wp2
  go_loopw [6] (fun a wr => ∃ i : Nat, i ≤ n ∧ a = .int .i64 i ∧ Hid (∀ a b, a < i → b < a → xl.getD a 0 ≠ xl.getD b 0) ∧ Below w.heap.size w wr) (fun a _ => n - (intOf a).toNat)
  case atStart => exact ⟨0, Nat.zero_le _, rfl, Lib.hid (fun a b h => absurd h (Nat.not_lt_zero a)), Below.refl _ _⟩
  case round =>
    obtain ⟨i, hi, rfl, hd, hbw⟩ := hrel
    by_cases hlt : i < n
    · have hiI : (i : Int) < (n : Int) := by omega
      go_wp2
      go_loopw [7] (fun b wq => ∃ k : Nat, k ≤ i ∧ b = .int .i64 k ∧ Hid (∀ b, b < k → xl.getD i 0 ≠ xl.getD b 0) ∧ Below w.heap.size w wq) (fun b _ => i - (intOf b).toNat)
      case atStart => exact ⟨0, Nat.zero_le _, rfl, Lib.hid (fun b h => absurd h (Nat.not_lt_zero b)), hbw⟩
      case round =>
        clear hbw
        obtain ⟨k, hk, rfl, hd2, hbq⟩ := hrel
        by_cases hlk : k < i
        · obtain ⟨b1, o1, rfl, hbl1, hc1⟩ := (hxh.out.below hbq).read i (by rw [hnh.out]; exact hlt)
          obtain ⟨b2, o2, hA, hbl2, hc2⟩ := (hxh.out.below hbq).read k (by rw [hnh.out]; omega)
          injection hA with hA
          injection hA with hA1 hA2
          subst hA1 hA2
          obtain ⟨X, hX⟩ : ∃ X, xl.getD i 0 = X := ⟨_, rfl⟩
          obtain ⟨Y, hY⟩ : ∃ Y, xl.getD k 0 = Y := ⟨_, rfl⟩
          rw [hX] at hc1
          rw [hY] at hc2
          have hkI : (k : Int) < (i : Int) := by omega
          have hkn : (k : Int) < (n : Int) := by omega
          have hi0 : (0 : Int) ≤ (i : Int) := by omega
          have hk0 : (0 : Int) ≤ (k : Int) := by omega
          rcases hb : X == Y with _ | _
          · have ht : ((X.toNat : Int) == (Y.toNat : Int)) = false := by rw [bv_eq1]; exact hb
            have hd3 : Hid (∀ b, b < k + 1 → xl.getD i 0 ≠ xl.getD b 0) := Lib.hid (fun b hb' => by
              by_cases e : b = k
              · subst e
                rw [hX, hY]
                simpa using hb
              · exact hd2.out b (by omega))
            clear hb hX hY
            go_wp2
            go_quiet (fail)
            go_wp2
            rename_i nq _
            go_roundw
            case rel => exact ⟨k + 1, by omega, by go_num, hd3, chainN hbq nq⟩
            case measure => simp [intOf]; omega
          · have ht : ((X.toNat : Int) == (Y.toNat : Int)) = true := by rw [bv_eq1]; exact hb
            have hno := Lib.hid (show ¬ xl.Nodup from fun hnd => ne_of_nodup hnd (a := i) (b := k) (by rw [hnh.out]; exact hlt) (by rw [hnh.out]; omega) (by omega) (by rw [hX, hY]; simpa using hb))
            clear hb hX hY
            go_wp2
            go_quiet (fail)
            go_wp2
            go_ret2
            rename_i nq _
            exact .inl ⟨hno.out, _, 0, rfl, IsSl.made _ 5 [] #[] _ 0 rfl rfl rfl (by decide), (chainN hbq nq).alloc hbq.size _⟩
        · have hkI : ¬ (k : Int) < (i : Int) := by omega
          have hd3 : Hid (∀ a b, a < i + 1 → b < a → xl.getD a 0 ≠ xl.getD b 0) := Lib.hid (fun a b ha hb => by
            by_cases e : a = i
            · subst e
              exact hd2.out b (by omega)
            · exact hd.out a b (by omega) hb)
          go_wp2
          go_roundw
          case rel => exact ⟨i + 1, by omega, by go_num, hd3, hbq⟩
          case measure => simp [intOf]; omega
    · have hnd := Lib.hid (show xl.Nodup from nodup_of fun a b ha hb => hd.out a b (by rw [hnh.out] at ha; omega) hb)
      have hiI : ¬ (i : Int) < (n : Int) := by omega
      clear hd hlt hi
      go_wp2
      clear hiI
      go_loopw [8, 9] (fun v a ws => ∃ (m : List R) (E : Option Addr) (f nm i : Nat), v = .slice E nm f ∧ a = .int .i64 i ∧ i ≤ n ∧ nm ≤ 20 ∧ Hid (m.length = nm ∧ nm ≤ n ∧ Tr m ∧ ∀ x, ev m x = lsum xl yl n i x) ∧ Hid (IsSl ws E f m) ∧ Below w.heap.size w ws) (fun _ a _ => n - (intOf a).toNat)
      case atStart => exact ⟨[], _, 0, 0, 0, rfl, rfl, Nat.zero_le _, by decide, Lib.hid ⟨rfl, Nat.zero_le _, Tr.nil, fun x => rfl⟩, Lib.hid (IsSl.made wr 5 [] #[] _ 0 rfl rfl rfl (by decide)), hbw.alloc hbw.size _⟩
      case round =>
        clear hbw
        obtain ⟨m, E, f, nm, i, rfl, rfl, hi, hnm, hf, hsm, hb⟩ := hrel
        by_cases hlt : i < n
        · obtain ⟨b1, o1, rfl, hbl1, hc1⟩ := (hyh.out.below hb).read i (by rw [heh.out]; exact hlt)
          obtain ⟨Y, hY⟩ : ∃ Y, yl.getD i 0 = Y := ⟨_, rfl⟩
          rw [hY] at hc1
          have hYh := Lib.hid hY
          clear hY
          have hiI : (i : Int) < (n : Int) := by omega
          have ob := mb wr (.cells #[bv Y] 5)
          have cc := rtrim_any (IsSl.made wr 5 [Y] #[bv Y] wr.heap.size 1 rfl rfl rfl (by decide)) (by simp)
          simp only [List.length_cons, List.length_nil, Nat.reduceAdd] at cc
          have cc := Lib.hid cc
          go_wp2_with fail
          refine cc.out.mono ?_
          rintro e w1 ⟨A1, c1, rfl, hs1, hb1⟩
          have hsm1 := Lib.hid ((hsm.out.below ob).below hb1)
          have hbx := chain (chain hb ob) hb1
          have l1 := trim_len [Y]
          have hs1h := Lib.hid hs1
          obtain ⟨n1, hn1⟩ : ∃ n1, (trim [Y]).length = n1 := ⟨_, rfl⟩
          rw [hn1] at l1 ⊢
          have hn1h := Lib.hid hn1
          have l1 : n1 ≤ 1 := l1
          clear hs1 hb1 ob hsm hb hn1 cc
          go_wp2
          go_loopw [10, 11] (fun t b wq => ∃ (tm : List R) (G : Option Addr) (g nt k : Nat), t = .slice G nt g ∧ b = .int .i64 k ∧ k ≤ n ∧ nt ≤ 21 ∧ Hid (tm.length = nt ∧ nt ≤ 1 + k ∧ (i < k → nt ≤ k) ∧ Tr tm ∧ ∀ x, ev tm x = tms Y (lag xl i k x)) ∧ Hid (IsSl wq G g tm) ∧ Hid (IsSl wq E f m) ∧ Below w.heap.size w wq) (fun _ b _ => n - (intOf b).toNat)
          case atStart => exact ⟨trim [Y], A1, c1, n1, 0, rfl, rfl, Nat.zero_le _, by omega, Lib.hid ⟨hn1h.out, by omega, fun h => absurd h (Nat.not_lt_zero i), trim_trim _, fun x => by rw [ev_trim, ev_one]; exact (tms_one Y).symm⟩, hs1h, hsm1, hbx⟩
          case round =>
            clear hsm1 hbx hs1h hn1h l1
            obtain ⟨tm, G, g, nt, k, rfl, rfl, hk, hnt, hg, hst, hsm, hb⟩ := hrel
            by_cases hlk : k < n
            · have hkI : (k : Int) < (n : Int) := by omega
              by_cases hki : k = i
              · have hg2 : Hid (tm.length = nt ∧ nt ≤ 1 + (k + 1) ∧ (i < k + 1 → nt ≤ k + 1) ∧ Tr tm ∧ ∀ x, ev tm x = tms Y (lag xl i (k + 1) x)) := Lib.hid (by
                  obtain ⟨g1, g2, g3, g4, g5⟩ := hg.out
                  exact ⟨g1, by omega, fun _ => by omega, g4, fun x => by rw [g5 x, lag_at _ _ _ _ hki]⟩)
                have t1 : ((k : Int) == (i : Int)) = true := by rw [beq_iff_eq]; omega
                have t2 : (k == i) = true := by rw [beq_iff_eq]; exact hki
                clear hki
                go_wp2
                go_roundw
                case rel => exact ⟨tm, G, g, nt, k + 1, rfl, by go_num, by omega, hnt, hg2, hst, hsm, hb⟩
                case measure => simp [intOf]; omega
              · have t1 : ((k : Int) == (i : Int)) = false := by rw [beq_eq_false_iff_ne]; omega
                have t2 : (k == i) = false := by rw [beq_eq_false_iff_ne]; exact hki
                obtain ⟨b3, o3, rfl, hbl3, hc3⟩ := (hxh.out.below hb).read i (by rw [hnh.out]; exact hlt)
                obtain ⟨b4, o4, hA, hbl4, hc4⟩ := (hxh.out.below hb).read k (by rw [hnh.out]; exact hlk)
                injection hA with hA
                injection hA with hA1 hA2
                subst hA1 hA2
                have hlag := fun x => lag_on xl i k x hki
                obtain ⟨P, hP⟩ : ∃ P, xl.getD i 0 = P := ⟨_, rfl⟩
                obtain ⟨Q, hQ⟩ : ∃ Q, xl.getD k 0 = Q := ⟨_, rfl⟩
                simp only [hP, hQ] at hlag hc3 hc4
                have cA := fun W => (radd_any P Q W).mono fun _ _ ⟨a, b⟩ => And.intro a b.symm
                have cI := fun W => (rinv_one (P ^^^ Q) W).mono fun _ _ ⟨a, b⟩ => And.intro a b.symm
                obtain ⟨S, hS⟩ : ∃ S, P ^^^ Q = S := ⟨_, rfl⟩
                simp only [hS] at hlag cA cI
                obtain ⟨C, hC⟩ : ∃ C, iv S = C := ⟨_, rfl⟩
                obtain ⟨T, hT⟩ : ∃ T, (!(S == 0#8)) = T := ⟨_, rfl⟩
                rw [hC, hT] at cI
                simp only [hC] at hlag
                have hlag := Lib.hid hlag
                have cA := Lib.hid cA
                have cI := Lib.hid cI
                have hk0 : (0 : Int) ≤ (k : Int) := by omega
                have hi0 : (0 : Int) ≤ (i : Int) := by omega
                clear hki hP hQ hS hC hT
                go_wp2
                go_quiet ((first | (go_at_call 32; exact Calls.quiet_of_same (cA.out _)) | (go_at_call 39; exact Calls.quiet_of_same (cI.out _))))
                rename_i nq _
                have hc5 : (wr.drewN nq).cell? ⟨b3, o3 + k, none⟩ = some (bv Q) := hc4
                have ob := (chainN (Below.refl _ wr) nq).alloc (Nat.le_refl _) (.cells #[bv Q, .int .u8 1] 5)
                have hnl : tm.length = nt := hg.out.1
                have cc := rmul_poly (hst.out.below ob) (IsSl.made (wr.drewN nq) 5 [Q, 1#8] #[bv Q, .int .u8 1] wr.heap.size 2 rfl rfl rfl (by decide)) (by simp; omega)
                rw [hnl] at cc
                simp only [List.length_cons, List.length_nil, Nat.reduceAdd] at cc
                have cc := Lib.hid cc
                have lm := Lib.hid (mulL_lin_len Q 1#8 tm)
                clear hnl hc3 hc4
                go_wp2_with fail
                refine cc.out.mono ?_
                rintro e w3 ⟨A3, c3, rfl, hs3, hb3⟩
                have cc2 := rscale_any hs3 (by have := lm.out; have := hg.out.1; omega) C 0 (by omega)
                rw [show ((0 : Nat) : Int) = 0 from rfl] at cc2
                have cc2 := Lib.hid cc2
                have hb4 := chain ob hb3
                go_wp2_with fail
                refine cc2.out.mono ?_
                rintro e w4 ⟨A4, c4, rfl, hs4, hb5⟩
                have hb6 := chain hb4 hb5
                have hg2 : Hid ((scL (mulL tm [Q, 1#8]) C 0).length = (scL (mulL tm [Q, 1#8]) C 0).length ∧ (scL (mulL tm [Q, 1#8]) C 0).length ≤ 1 + (k + 1) ∧ (i < k + 1 → (scL (mulL tm [Q, 1#8]) C 0).length ≤ k + 1) ∧ Tr (scL (mulL tm [Q, 1#8]) C 0) ∧ ∀ x, ev (scL (mulL tm [Q, 1#8]) C 0) x = tms Y (lag xl i (k + 1) x)) := Lib.hid (by
                  obtain ⟨g1, g2, g3, g4, g5⟩ := hg.out
                  have l1 := scL0_len (mulL tm [Q, 1#8]) C
                  have l2 := lm.out
                  refine ⟨rfl, by omega, fun hik => ?_, scL_tr _ _ _, fun x => ?_⟩
                  · have hik2 : i < k := by
                      have : k ≠ i := by simpa using t2
                      omega
                    have := g3 hik2
                    omega
                  · rw [ev_scL, ev_mulL, show ev [Q, 1#8] x = Q ^^^ x from ev_lin Q x, g5 x, hlag.out x, show pw x 0 = 1 from rfl, one_tms, tms_assoc, tac])
                have hnb : (scL (mulL tm [Q, 1#8]) C 0).length ≤ 21 := by have := hg2.out.2.1; omega
                have hs4h := Lib.hid hs4
                have hsm2 := Lib.hid (hsm.out.below hb6)
                have hbb := chain hb hb6
                have hnb := Lib.hid hnb
                clear hs3 hs4 hb3 hb4 hb5 hb6 ob hst hsm hb
                go_wp2
                go_roundw
                case rel => exact ⟨scL (mulL tm [Q, 1#8]) C 0, A4, c4, _, k + 1, rfl, by go_num, by omega, hnb.out, Lib.hid ⟨rfl, hg2.out.2⟩, hs4h, hsm2, hbb⟩
                case measure => simp [intOf]; omega
            · have hkI : ¬ (k : Int) < (n : Int) := by omega
              obtain ⟨g1, g2, g3, g4, g5⟩ := hg.out
              obtain ⟨f1, f2, f3, f4⟩ := hf.out
              have hkn : k = n := by omega
              have cc := radd_poly hsm.out hst.out (by omega) (by omega)
              rw [g1, f1] at cc
              have cc := Lib.hid cc
              have hla := addL_len m tm
              have hf2 : Hid ((addL m tm).length = (addL m tm).length ∧ (addL m tm).length ≤ n ∧ Tr (addL m tm) ∧ ∀ x, ev (addL m tm) x = lsum xl yl n (i + 1) x) := Lib.hid (by
                have h3 := g3 (by omega)
                refine ⟨rfl, by omega, addL_tr _ _, fun x => ?_⟩
                rw [ev_addL, f4 x, g5 x, hkn, ← hYh.out]
                rfl)
              have hnb : (addL m tm).length ≤ 20 := by have := hf2.out.2.1; omega
              have hnb := Lib.hid hnb
              clear g1 g2 g3 g4 g5 f1 f2 f3 f4 hla hkn
              go_wp2_with fail
              refine cc.out.mono ?_
              rintro e w3 ⟨A3, c3, rfl, hs3, hb3⟩
              have hs3h := Lib.hid hs3
              have hbb := chain hb hb3
              clear hs3 hb3
              go_wp2
              go_roundw
              case rel => exact ⟨addL m tm, A3, c3, _, i + 1, rfl, by go_num, by omega, hnb.out, Lib.hid ⟨rfl, hf2.out.2⟩, hs3h, hbb⟩
              case measure => simp [intOf]; omega
        · have hiI : ¬ (i : Int) < (n : Int) := by omega
          have hin : i = n := by omega
          obtain ⟨f1, f2, f3, f4⟩ := hf.out
          have hitp := Lib.hid (Itp.of_lsum hnd.out f3 (by rw [hnh.out, f1]; exact f2) (fun x => by rw [hnh.out, f4 x, hin]) : Itp xl yl m)
          have f1 := Lib.hid f1
          clear f2 f3 f4 hin hlt
          go_wp2
          go_ret2
          exact .inr ⟨hnd.out, m, E, f, hitp.out, by rw [f1.out]; rfl, hsm.out, hb⟩
end Go.Proofs.Ytdinngcfjjajeaa.G6
