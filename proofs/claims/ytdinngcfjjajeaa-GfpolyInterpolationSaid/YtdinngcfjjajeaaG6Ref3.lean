/- The contract of the reference's DivMod. -/
import Derived.Test.YtdinngcfjjajeaaG6Ref2
import Derived.DataShut
import Derived.Deep.RegionWith
import Derived.Deep.QuietTactic
import Derived.BigQuiet
namespace Go.Proofs.Ytdinngcfjjajeaa.G6
open Go.Proofs.Ytdinngcfjjajeaa.G5
open Go.RowKit Mem
set_option linter.unusedVariables false
set_option linter.unusedSimpArgs false

theorem ad_snoc_eq : ∀ (p q : List R) (a b : R), p.length = q.length → ad (p ++ [a]) (q ++ [b]) = ad p q ++ [a ^^^ b]
  | [], [], a, b, _ => rfl
  | [], c :: q, a, b, h => by simp at h
  | c :: p, [], a, b, h => by simp at h
  | c :: p, d :: q, a, b, h => by
    show (c ^^^ d) :: ad (p ++ [a]) (q ++ [b]) = (c ^^^ d) :: (ad p q ++ [a ^^^ b])
    rw [ad_snoc_eq p q a b (by simpa using h)]
/-- A step of the division: the last coefficient goes. -/
theorem div_step {Q r : List R} {K j i : Nat} (hr : Tr r) (hQ : Tr Q) (hj : r.length = j + 1) (hi : Q.length = i + 1) (hK : j = i + K) :
    (addL r (scL Q (G5.dv (r.getD j 0) (Q.getD i 0)) K)).length ≤ j ∧ tms (G5.dv (r.getD j 0) (Q.getD i 0)) (Q.getD i 0) = r.getD j 0 ∧ Q.getD i 0 ≠ 0 := by
  obtain ⟨r0, X, rfl⟩ := snoc_of (p := r) (fun e => by rw [e] at hj; simp at hj)
  obtain ⟨q0, Y, rfl⟩ := snoc_of (p := Q) (fun e => by rw [e] at hi; simp at hi)
  have hjl : j = r0.length := by simp at hj; omega
  have hil : i = q0.length := by simp at hi; omega
  subst hjl hil
  rw [getD_last, getD_last]
  have hX := hr.last
  have hY := hQ.last
  have hm : tms (G5.dv X Y) Y = X := by rw [tms_comm, tms_dv X hY]
  refine ⟨?_, hm, hY⟩
  have hs : List.replicate K 0#8 ++ sc (G5.dv X Y) (q0 ++ [Y]) = (List.replicate K 0#8 ++ sc (G5.dv X Y) q0) ++ [X] := by
    simp [sc, hm]
  unfold scL addL
  rw [hs, trim_snoc hX, ad_snoc_eq _ _ _ _ (by simp [sc]; omega), xs, trim_snoc0]
  have := trim_len (ad r0 (List.replicate K 0#8 ++ sc (G5.dv X Y) q0))
  rw [ad_len, List.length_append, List.length_replicate, sc_len] at this
  omega

def Div0 (w : World) (e : Ending) (w' : World) : Prop := ∃ A c B f, e = .returned (.tuple #[.slice A 0 c, .slice B 0 f, .bool false]) ∧ IsSl w' A c [] ∧ IsSl w' B f [] ∧ Below w.heap.size w w'
def Div1 (p q : List R) (w : World) (e : Ending) (w' : World) : Prop := ∃ (d r : List R) (A : Option Addr) (c : Nat) (B : Option Addr) (f : Nat), Dvd p q d r ∧
  e = .returned (.tuple #[.slice A d.length c, .slice B r.length f, .bool true]) ∧ IsSl w' A c d ∧ IsSl w' B f r ∧ Below w.heap.size w w'

set_option maxRecDepth 100000 in
set_option maxHeartbeats 2000000 in
theorem rdiv0_any {A B : Option Addr} {c d : Nat} {p q : List R} {w : World} (h : IsSl w A c p) (h' : IsSl w B d q) (hq : q.length ≤ 100) (h0 : trim q = []) :
    Calls Try.prog 24 #[.slice A p.length c, .slice B q.length d] w (Div0 w) := by
  have c1 := rtrim_any h' (by omega)
  rw [h0] at c1
  have c1 := Lib.hid c1
  clear h h' h0
  go_enter Try.func24, Try.ntmps24
  go_wp2_with fail
  refine c1.out.mono ?_
  rintro e w1 ⟨A2, d2, rfl, hs2, hb2⟩
  go_wp2
  go_ret3
  exact ⟨_, 0, _, 0, rfl, IsSl.below (IsSl.made w1 5 [] #[] _ 0 rfl rfl rfl (by decide)) ((Below.refl _ _).alloc (Nat.le_refl _) _), IsSl.made _ 5 [] #[] _ 0 rfl (by simp) rfl (by decide), (hb2.alloc hb2.size _).alloc (by have := hb2.size; simp; omega) _⟩

set_option maxRecDepth 100000 in
set_option maxHeartbeats 4000000 in
theorem rdiv1_any {A B : Option Addr} {c d : Nat} {p q : List R} {w : World} (h : IsSl w A c p) (h' : IsSl w B d q) (hp : p.length ≤ 100) (hq : q.length ≤ 100) (h0 : trim q ≠ []) :
    Calls Try.prog 24 #[.slice A p.length c, .slice B q.length d] w (Div1 p q w) := by
  have c1 := rtrim_any h' (by omega)
  have hQl := trim_len q
  have hQt := trim_trim q
  have hQe := ev_trim q
  obtain ⟨i, hi⟩ : ∃ i, (trim q).length = i + 1 := ⟨(trim q).length - 1, by have := List.length_pos_iff.2 h0; omega⟩
  obtain ⟨Q, hQ⟩ : ∃ Q, trim q = Q := ⟨_, rfl⟩
  obtain ⟨nQ, hnQ⟩ : ∃ nQ, nQ = i + 1 := ⟨_, rfl⟩
  rw [hQ] at c1 hQl hQt hQe hi
  have hQh := Lib.hid hQ
  have hpl := trim_len p
  obtain ⟨n0, hn0⟩ : ∃ n0, (trim p).length = n0 := ⟨_, rfl⟩
  have hn0h := Lib.hid hn0
  have hph := Lib.hid h
  have c1 := Lib.hid c1
  have hQt := Lib.hid hQt
  have hQe := Lib.hid hQe
  have hih := Lib.hid hi
  have hi100 : i < 100 := by omega
  have hn100 : n0 ≤ 100 := by omega
  have hnp := Lib.hid (show n0 ≤ p.length by omega)
  clear h h' h0 hQ hi hQl hpl
  clear hn0
  go_enter Try.func24, Try.ntmps24
  go_wp2_with fail
  refine c1.out.mono ?_
  rintro e w1 ⟨A2, d2, rfl, hs2, hb2⟩
  have c2 := rtrim_any (hph.out.below (hb2.alloc hb2.size (.cells #[] 5))) (by omega)
  have c2 := Lib.hid c2
  rw [hih.out, ← hnQ]
  have hnQh := Lib.hid hnQ
  have hne : ((nQ : Int) == 0) = false := by rw [beq_eq_false_iff_ne]; omega
  have hnQ1 : nQ ≤ 101 := by omega
  clear hnQ
  go_wp2_with fail
  refine c2.out.mono ?_
  rintro e w2 ⟨A3, d3, rfl, hs3, hb3⟩
  have hs2a : IsSl w2 A2 d2 Q := (hs2.below ((Below.refl _ _).alloc (Nat.le_refl _) (.cells #[] 5))).below hb3
  have hs2h := Lib.hid hs2a
  have hs3h := Lib.hid hs3
  have hm0 : IsSl w2 (some ⟨w1.heap.size, 0, none⟩) 0 [] := (IsSl.made w1 5 [] #[] _ 0 rfl rfl rfl (by decide)).below hb3
  have hm0 := Lib.hid hm0
  have hb4 : Below w.heap.size w w2 := chain (hb2.alloc hb2.size _) hb3
  clear hs2 hs3 hs2a hb2 hb3 hne c1 c2
  rw [hn0h.out]
  go_wp2
  go_loopw [7, 8] (fun v u wr => ∃ (m r : List R) (E : Option Addr) (f nm : Nat) (G : Option Addr) (g nr : Nat), v = .slice E nm f ∧ u = .slice G nr g ∧ nm ≤ 100 ∧ nr ≤ 100 ∧ Hid (m.length = nm ∧ r.length = nr ∧ nm ≤ p.length ∧ nr ≤ p.length ∧ Tr m ∧ Tr r ∧ ∀ x, ev p x = tms (ev m x) (ev Q x) ^^^ ev r x) ∧
    Hid (IsSl wr E f m) ∧ Hid (IsSl wr G g r) ∧ Hid (IsSl wr A2 d2 Q) ∧ Below w.heap.size w wr) (fun _ u _ => lenOf u)
  case atStart => exact ⟨[], trim p, _, 0, 0, A3, d3, n0, rfl, rfl, Nat.zero_le _, hn100, Lib.hid ⟨rfl, hn0h.out, Nat.zero_le _, hnp.out, Tr.nil, trim_trim p, fun x => by rw [ev_nil, zero_tms, zx, ev_trim]⟩, hm0, hs3h, hs2h, hb4⟩
  case round =>
    clear hm0 hs3h hs2h hb4
    obtain ⟨m, r, E, f, nm, G, g, nr, rfl, rfl, hnm, hnr, hf, hsm, hsr, hsq, hb⟩ := hrel
    have hnQ := hnQh.out
    by_cases hlt : nQ ≤ nr
    · obtain ⟨J, hJ⟩ : ∃ J, nr = J + 1 := ⟨nr - 1, by omega⟩
      obtain ⟨K, hK⟩ : ∃ K, J = i + K := ⟨J - i, by omega⟩
      have hKh := Lib.hid hK
      obtain ⟨f1, f2, f3, f4, f5, f6, f7⟩ := hf.out
      obtain ⟨s1, s2, s3⟩ := div_step (K := K) (j := J) (i := i) f6 hQt.out (by omega) hih.out hK
      obtain ⟨b1, o1, rfl, hbl1, hc1⟩ := hsr.out.read J (by omega)
      obtain ⟨b2, o2, rfl, hbl2, hc2⟩ := hsq.out.read i (by have := hih.out; omega)
      obtain ⟨X, hX⟩ : ∃ X, r.getD J 0 = X := ⟨_, rfl⟩
      obtain ⟨Y, hY⟩ : ∃ Y, Q.getD i 0 = Y := ⟨_, rfl⟩
      rw [hX, hY] at s1 s2
      rw [hY] at s3
      rw [hX] at hc1
      rw [hY] at hc2
      have c1 := fun W => (rdiv_one X Y W).mono fun _ _ ⟨a, b⟩ => And.intro a b.symm
      obtain ⟨C, hC⟩ : ∃ C, G5.dv X Y = C := ⟨_, rfl⟩
      rw [hC] at c1 s1 s2
      have hY0 : (Y == 0#8) = false := by rw [beq_eq_false_iff_ne]; exact s3
      rw [hY0] at c1
      have c1 := Lib.hid c1
      have hs := Lib.hid (And.intro s1 s2)
      have hval : ∀ x, ev p x = tms (ev (addL m (scL [1#8] C K)) x) (ev Q x) ^^^ ev (addL r (scL Q C K)) x := fun x => by
        rw [ev_addL, ev_scL, ev_addL, ev_scL, show ev [1#8] x = 1 from ev_one 1 x, tms_one, f7 x, tms_a, tms_assoc]
        simp only [BitVec.xor_assoc, BitVec.xor_comm, xac, xcan, xs, xz, zx]
      have hval := Lib.hid hval
      have hi1 : (nQ : Int) ≤ (nr : Int) := by omega
      have hJ0 : (0 : Int) ≤ (J : Int) := by omega
      have hJ1 : (J : Int) < (nr : Int) := by omega
      have hI0 : (0 : Int) ≤ (i : Int) := by omega
      have hI1 : (i : Int) < (nQ : Int) := by omega
      have hJe : (nr : Int) - 1 = (J : Int) := by omega
      have hIe : (nQ : Int) - 1 = (i : Int) := by omega
      have hsub : (nr : Int) - (nQ : Int) = (K : Int) := by omega
      have hK200 : K ≤ 100 := by omega
      have hKn := Lib.hid (show K + 1 ≤ p.length by omega)
      have hQn := Lib.hid (show Q.length = nQ by rw [hih.out, hnQ])
      have hJh := Lib.hid hJ
      clear hJ hnQ
      clear hK hX hY hC hY0 s1 s2 s3 f1 f2 f3 f4 f5 f6 f7
      go_wp2_with fail
      go_quiet ((go_at_call 36; exact Calls.quiet_of_same (c1.out _)))
      rename_i nq _
      have hb0 : Below wr.heap.size wr ((wr.drewN nq).alloc (.cells #[.int .u8 1] 5)) := (chainN (Below.refl _ wr) nq).alloc (Nat.le_refl _) _
      have c2 := rscale_any (IsSl.made (wr.drewN nq) 5 [1#8] #[.int .u8 1] wr.heap.size 1 rfl rfl rfl (by decide)) (by decide) C K (by omega)
      have c2 := Lib.hid c2
      go_wp2_with fail
      refine c2.out.mono ?_
      rintro e w3 ⟨A4, d4, rfl, hs4, hb5⟩
      have hb6 := chain hb0 hb5
      have l4 := scL_len [1#8] C K
      have c3 := radd_poly (hsm.out.below hb6) hs4 (by have := hf.out; omega) (by simp at l4; omega)
      have l5 := addL_len m (scL [1#8] C K)
      rw [show m.length = nm from hf.out.1] at c3
      have c3 := Lib.hid c3
      have l4 := Lib.hid l4
      have l5 := Lib.hid l5
      go_wp2_with fail
      refine c3.out.mono ?_
      rintro e w4 ⟨A5, d5, rfl, hs5, hb7⟩
      have hb8 := chain hb6 hb7
      have c4 := rscale_any (hsq.out.below hb8) (by have := hQn.out; omega) C K (by omega)
      rw [hQn.out] at c4
      have c4 := Lib.hid c4
      go_wp2_with fail
      refine c4.out.mono ?_
      rintro e w5 ⟨A6, d6, rfl, hs6, hb9⟩
      have hb10 := chain hb8 hb9
      have l6 := scL_len Q C K
      have c5 := radd_poly (hsr.out.below hb10) hs6 (by have := hf.out; omega) (by have := hQn.out; omega)
      rw [show r.length = nr from hf.out.2.1] at c5
      have c5 := Lib.hid c5
      have l6 := Lib.hid l6
      go_wp2_with fail
      refine c5.out.mono ?_
      rintro e w6 ⟨A7, d7, rfl, hs7, hb11⟩
      have hb12 := chain hb10 hb11
      have hs5h := Lib.hid ((hs5.below hb9).below hb11)
      have hs7h := Lib.hid hs7
      have hsqh := Lib.hid (hsq.out.below hb12)
      have hbb := chain hb hb12
      have L1 : (addL m (scL [1#8] C K)).length ≤ 100 ∧ (addL m (scL [1#8] C K)).length ≤ p.length := by
        have h1 := l4.out
        have h2 := l5.out
        have h3 := hf.out
        have h4 := hKn.out
        simp at h1
        omega
      have L2 : (addL r (scL Q C K)).length ≤ J := hs.out.1
      have L3 := hJh.out
      have L4 : nr ≤ p.length := hf.out.2.2.2.1
      have L1 := Lib.hid L1
      have L2 := Lib.hid L2
      have L3 := Lib.hid L3
      have L4 := Lib.hid L4
      clear hs4 hs5 hs6 hs7 hb5 hb6 hb7 hb8 hb9 hb10 hb11 hb12 hb0
      go_wp2
      go_roundw
      case rel => exact ⟨addL m (scL [1#8] C K), addL r (scL Q C K), A5, d5, _, A7, d7, _, rfl, rfl, L1.out.1, by have := L2.out; have := L3.out; omega, Lib.hid ⟨rfl, rfl, L1.out.2, by have := L2.out; have := L3.out; have := L4.out; omega, addL_tr _ _, addL_tr _ _, hval.out⟩, hs5h, hs7h, hsqh, hbb⟩
      case measure => simp [lenOf]; have := L2.out; have := L3.out; omega
    · have h1 : (nr : Int) < (nQ : Int) := by omega
      obtain ⟨f1, f2, f3, f4, f5, f6, f7⟩ := hf.out
      have hdv : Dvd p q m r := ⟨f5, f6, by rw [f2, hQh.out, hih.out]; omega, by omega, fun x => by rw [f7 x, hQe.out x]⟩
      have hdv := Lib.hid hdv
      have f1 := Lib.hid f1
      have f2 := Lib.hid f2
      clear f3 f4 f5 f6 f7 hlt hnQ
      go_wp2
      go_ret3
      exact ⟨m, r, E, f, G, g, hdv.out, by rw [f1.out, f2.out]; rfl, hsm.out, hsr.out, hb⟩
end Go.Proofs.Ytdinngcfjjajeaa.G6
