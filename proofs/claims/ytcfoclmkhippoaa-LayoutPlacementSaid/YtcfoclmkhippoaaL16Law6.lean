/- The walk of the law LayoutPlacement. -/
import Derived.Test.YtcfoclmkhippoaaL16Open
import Derived.Test.YtcfoclmkhippoaaL16Lp
import Derived.Test.YtcfoclmkhippoaaL16Ref2
namespace Go.Proofs.Ytcfoclmkhippoaa.L16
set_option maxRecDepth 100000
open Go.RowKit Mem
open Go.Proofs.Ytcfoclmkhippoaa.G5 Go.Proofs.Ytcfoclmkhippoaa.G7 Go.Proofs.Ytcfoclmkhippoaa.E15
set_option linter.unusedVariables false
set_option linter.unusedSimpArgs false

theorem stp_len28 {n S : Nat} (x : List R) (a : Nat) {k : Nat} (h : k < n + S) : ((stp n S x a).getD k []).length = 28 := by
  have hk : k < (stp n S x a).length := by rw [stp_len]; exact h
  rw [List.getD_eq_getElem?_getD, List.getElem?_eq_getElem hk]
  exact stp_28 _ (List.getElem_mem hk)
theorem str_byte (l : List R) (j : Nat) (h : j < (str l).size) (v : R) (hv : l.getD j 0 = v) : (((str l)[j]).toNat : Int) = (v.toNat : Int) := byte_val (str l) j h v (by rw [el_str]; exact hv)
theorem off_at {n S i k j : Nat} (hL : Lok (n : Int) (S : Int)) (hi : i ≤ 100000) (hk : k < n) (hj : j < 28) {X q : Int} (h : OffQ (n : Int) (S : Int) (i : Int) (k : Int) (j : Int) X q) : X = ((i * (28 * n) + 28 * k + j : Nat) : Int) ∧ q = 0 := by
  have hn8 : n ≤ 8 := by have := hL.2.1; omega
  have e : ((i : Int) * (n : Int) + (k : Int)) * 28 + (j : Int) = ((i * (28 * n) + 28 * k + j : Nat) : Int) := by
    have : i * (28 * n) = 28 * (i * n) := by rw [Nat.mul_left_comm]
    rw [this]
    simp only [Int.natCast_add, Int.natCast_mul]
    omega
  have hle : i * (28 * n) ≤ 100000 * 224 := Nat.mul_le_mul hi (by omega)
  exact h.only ⟨Or.inl rfl, fun _ => ⟨hL, ⟨by omega, by omega, by omega, by omega, by omega, e.symm⟩, by omega⟩, fun h => absurd h (by decide)⟩
set_option maxHeartbeats 8000000 in
theorem walk_placement (D S : Int) (c : ByteArray) (w : World) :
    Calls Try.prog 6 #[lyV D S, .string c] w fun e w' => e = .returned (.bool true) ∧ Below w.heap.size w w' := by
  have cA := fun W => alive_any W
  have hP := LB.new w D S 23
  obtain ⟨W0, hW0⟩ : ∃ W0, w.alloc (.cells #[.int .i64 D, .int .i64 S] 23) = W0 := ⟨_, rfl⟩
  rw [hW0] at hP
  obtain ⟨G, hG⟩ : ∃ A, w.heap.size = A := ⟨_, rfl⟩
  rw [hG] at hP
  have hGh := Lib.hid hG
  replace cA := Lib.hid cA
  replace hP := Lib.hid hP
  unfold lyV
  by_cases hbig : 600 < c.size
  · have t1 : decide ((600 : Int) < (c.size : Int)) = true := decide_eq_true (by omega)
    have t2 : decide (600 < c.size) = true := decide_eq_true hbig
    clear hbig
    go_enter Try.func6, Try.ntmps6
    go_wp2_with fail
    refine (cA.out _).mono ?_
    rintro e w1 ⟨rfl, hb1⟩
    have hfin := Lib.hid (hP.out.next hb1).bel
    clear hP hb1 hW0
    go_wp2
    go_ret
    exact ⟨rfl, hfin.out⟩
  have t1 : decide ((600 : Int) < (c.size : Int)) = false := decide_eq_false (by omega)
  have t2 : decide (600 < c.size) = false := decide_eq_false hbig
  have c600 : c.size ≤ 600 := by omega
  have ci600 : (c.size : Int) ≤ 600 := by omega
  have c1 := fun W => sts_own D S c (by omega) W
  unfold lyV at c1
  obtain ⟨K, c5, hK⟩ := chk_one D S
  replace c1 := Lib.hid c1
  replace c5 := Lib.hid c5
  clear hbig
  by_cases hL : Lok D S
  · obtain ⟨n, rfl⟩ := Int.eq_ofNat_of_zero_le (show 0 ≤ D by have := hL.1; omega)
    obtain ⟨m, rfl⟩ := Int.eq_ofNat_of_zero_le hL.2.2.1
    have n1 : 1 ≤ n := by have := hL.1; omega
    have n8 : n ≤ 8 := by have := hL.2.1; omega
    have m7 : m ≤ 7 := by have := hL.2.2.2; omega
    have hok := fun x k L (h : StsQ (n : Int) (m : Int) x k L) => stsq_ok hL h
    have c2 := fun (i k j : Nat) (hi : i ≤ 100000) W => off_own (n : Int) (m : Int) (i : Int) (k : Int) (j : Int) ⟨by omega, by omega⟩ W
    unfold lyV psV at c2
    have hoff := fun (i k j : Nat) (hi : i ≤ 100000) (hk : k < n) (hj : j < 28) X q (h : OffQ (n : Int) (m : Int) (i : Int) (k : Int) (j : Int) X q) => off_at hL hi hk hj h
    obtain ⟨z, hz⟩ : ∃ z, 28 * n = z := ⟨_, rfl⟩
    obtain ⟨N, hN⟩ : ∃ N, cnt n (el c).length = N := ⟨_, rfl⟩
    have hN6 : N ≤ 600 := by rw [← hN]; exact Nat.le_trans (cnt_le n1) (by rw [el_len]; exact c600)
    have hNl : (sts n m (el c)).length = N := by rw [sts_len, hN]
    have htop : c.size ≤ N * z := by have := cnt_top (D := n) (n := (el c).length) n1; rw [hN, hz, el_len] at this; exact this
    have hget := fun i (h : i < N) => show (sts n m (el c)).getD i [] = stp n m (el c) (i * z) by rw [← hz]; exact sts_getD _ (by rw [hN]; exact h)
    simp only [hz] at hoff
    replace hok := Lib.hid hok
    replace c2 := Lib.hid c2
    replace hoff := Lib.hid hoff
    replace hget := Lib.hid hget
    replace htop := Lib.hid htop
    replace hNl := Lib.hid hNl
    replace hz := Lib.hid hz
    clear hK hL hN c5
    go_enter Try.func6, Try.ntmps6
    go_wp2_with fail
    refine (cA.out _).mono ?_
    rintro e w1 ⟨rfl, hb1⟩
    replace hP := Lib.hid (hP.out.next hb1)
    clear hW0 hb1
    have x0 := hP.out.c0
    have x1 := hP.out.c1
    go_wp2_with fail
    refine (c1.out _).mono ?_
    rintro e w2 ⟨k1, L1, A1, m1, hq1, rfl, hI1, hb2⟩
    obtain ⟨rfl, rfl⟩ := hok.out _ _ _ hq1
    replace hP := Lib.hid (hP.out.next hb2)
    rw [hNl.out] at hI1 ⊢
    replace hI1 := Lib.hid hI1
    clear x0 x1 hb2 hq1 c1 hok hNl
    have nn8 : (n : Int) ≤ 8 := by omega
    have mm7 : (m : Int) ≤ 7 := by omega
    go_wp2
    go_loopw [7, 8] (fun nv iv wr => ∃ (i q : Nat), iv = .int .i64 (i : Int) ∧ nv = .int .i64 (q : Int) ∧ i ≤ N ∧ Hid (q = min (i * z) c.size) ∧ Hid (Below w2.heap.size w2 wr)) (fun _ iv _ => N - (intOf iv).toNat)
    case atStart => exact ⟨0, 0, rfl, rfl, Nat.zero_le _, Lib.hid (by simp), Lib.hid (Below.refl _ _)⟩
    case round =>
      obtain ⟨i, q, rfl, rfl, hi, hq, hbw⟩ := hrel
      by_cases hlt : i < N
      · have di : decide ((i : Int) < (N : Int)) = true := decide_eq_true (by omega)
        have i0 : (0 : Int) ≤ (i : Int) := by omega
        have i1 : (i : Int) < (N : Int) := by omega
        obtain ⟨b1, o1, A2, l2, k2, rfl, hbl1, g1, hB1⟩ := hI1.out.getD hlt
        rw [hget.out i hlt] at hB1
        obtain rfl : n + m = l2 := by rw [← hB1.len, stp_len]
        have g1' := (hbw.out.cell (p := ⟨b1, o1 + i, none⟩) hbl1).trans g1
        have hP2 := hP.out.next hbw.out
        have x0 := hP2.c0
        have x1 := hP2.c1
        have e1 : (n : Int) + (m : Int) = ((n + m : Nat) : Int) := by omega
        obtain ⟨V, hV⟩ : ∃ V, n + m = V := ⟨_, rfl⟩
        rw [hV] at e1 g1' g1
        have hV15 : (V : Int) ≤ 15 := by omega
        have t4 : ((V : Int) != (V : Int)) = false := by simp
        have i600 : i ≤ 100000 := by omega
        obtain ⟨a, ha⟩ : ∃ a, i * z = a := ⟨_, rfl⟩
        rw [ha] at hB1
        replace hB1 := Lib.hid hB1
        replace hV := Lib.hid hV
        replace ha := Lib.hid ha
        obtain ⟨wA, rfl⟩ : ∃ W, W = wr := ⟨_, rfl⟩
        go_wp2
        go_quiet (fail)
        rename_i nq _
        have hbw2 := Lib.hid (chain hbw.out (chainN (Below.refl _ _) nq))
        clear x0 x1 g1' hP2
        go_wp2
        go_loopw [7, 9] (fun nv kv wr => ∃ (k p : Nat), kv = .int .i64 (k : Int) ∧ nv = .int .i64 (p : Int) ∧ k ≤ V ∧ Hid (p = min (a + 28 * min k n) c.size) ∧ Hid (Below w2.heap.size w2 wr)) (fun _ kv _ => V - (intOf kv).toNat)
        case atStart => exact ⟨0, q, rfl, rfl, Nat.zero_le _, Lib.hid (by rw [hq.out, ha.out]; simp), hbw2⟩
        case round =>
          clear hbw2 hq hbw
          obtain ⟨k, p, rfl, rfl, hk, hp, hbw⟩ := hrel
          have g1' := (hbw.out.cell (p := ⟨b1, o1 + i, none⟩) hbl1).trans g1
          have hP2 := hP.out.next hbw.out
          have x0 := hP2.c0
          have x1 := hP2.c1
          by_cases hkV : k < V
          · have dk : decide ((k : Int) < (V : Int)) = true := decide_eq_true (by omega)
            have k0 : (0 : Int) ≤ (k : Int) := by omega
            have k1 : (k : Int) < (V : Int) := by omega
            have hkV2 : k < n + m := by have := hV.out; omega
            obtain ⟨b3, o3, rfl, hbl3, g3⟩ := bs_getD hB1.out hkV2
            have hT28 : (str ((stp n m (el c) a).getD k [])).size = 28 := by rw [size_str, stp_len28 _ _ hkV2]
            have hTk := fun (h : k < n) => stp_get (S := m) (el c) a h
            obtain ⟨T, hT⟩ : ∃ T, str ((stp n m (el c) a).getD k []) = T := ⟨_, rfl⟩
            have hTb : ∀ (h : k < n) (j : Nat) (hj : j < T.size) (v : R), (el c).getD (a + 28 * k + j) 0 = v → ((T[j]).toNat : Int) = (v.toNat : Int) := fun h j hj v hv => by
              subst hT
              refine str_byte _ j hj v ?_
              rw [hTk h, bk_get _ _ (by rw [hT28] at hj; exact hj)]
              exact hv
            rw [hT] at g3 hT28
            have g3' := (hbw.out.cell (p := ⟨b3, o3 + k, none⟩) hbl3).trans g3
            have tT : (T.size : Int) = 28 := by omega
            have tT2 : ((T.size : Int) != 28) = false := by rw [tT]; rfl
            replace hTb := Lib.hid hTb
            replace tT := Lib.hid tT
            clear hT hTk hkV2
            by_cases hkn : k < n
            · have tk : decide ((n : Int) ≤ (k : Int)) = false := decide_eq_false (by omega)
              have tk2 : decide (n ≤ k) = false := decide_eq_false (by omega)
              replace hT28 := Lib.hid hT28
              obtain ⟨wB, rfl⟩ : ∃ W, W = wr := ⟨_, rfl⟩
              go_wp2
              clear g1' g3' x0 x1
              go_loopw [7, 10] (fun nv jv wr => ∃ (j r : Nat), jv = .int .i64 (j : Int) ∧ nv = .int .i64 (r : Int) ∧ j ≤ 28 ∧ Hid (r = min (a + 28 * k + j) c.size) ∧ Hid (Below w2.heap.size w2 wr)) (fun _ jv _ => 28 - (intOf jv).toNat)
              case atStart => exact ⟨0, p, rfl, rfl, Nat.zero_le _, Lib.hid (by have e : min k n = k := Nat.min_eq_left (by omega); rw [hp.out, e, Nat.add_zero]), hbw⟩
              case round =>
                clear hp hbw hP2
                obtain ⟨j, r, rfl, rfl, hj, hr, hbw⟩ := hrel
                by_cases hj28 : j < 28
                · have dj : decide ((j : Int) < 28) = true := decide_eq_true (by omega)
                  have j0 : (0 : Int) ≤ (j : Int) := by omega
                  have j1 : (j : Int) < 28 := by omega
                  have hP2 := hP.out.next hbw.out
                  have x0 := hP2.c0
                  have x1 := hP2.c1
                  have cO := c2.out i k j i600 wr
                  have hO := hoff.out i k j i600 hkn hj28
                  obtain ⟨O, hOe⟩ : ∃ O, a + 28 * k + j = O := ⟨_, rfl⟩
                  rw [ha.out, hOe] at hO
                  replace cO := Lib.hid cO
                  replace hO := Lib.hid hO
                  clear hP2
                  go_wp2_with fail
                  refine (cO.out).mono ?_
                  rintro e w5 ⟨X, q5, hq5, rfl, hb5⟩
                  obtain ⟨rfl, rfl⟩ := hO.out _ _ hq5
                  have hbw5 := chain hbw.out hb5
                  have y1 := (hbw5.cell (p := ⟨b1, o1 + i, none⟩) hbl1).trans g1
                  have y3 := (hbw5.cell (p := ⟨b3, o3 + k, none⟩) hbl3).trans g3
                  have jT : j < T.size := by have := hT28.out; omega
                  have jT2 : (j : Int) < (T.size : Int) := by omega
                  replace hbw5 := Lib.hid hbw5
                  clear x0 x1 hb5 hq5 cO hO
                  by_cases hOc : O < c.size
                  · have tO : decide ((O : Int) < (c.size : Int)) = true := decide_eq_true (by omega)
                    have tO2 : decide (O < c.size) = true := decide_eq_true hOc
                    have tO3 : decide ((c.size : Int) ≤ (O : Int)) = false := decide_eq_false (by omega)
                    have tO4 : decide (c.size ≤ O) = false := decide_eq_false (by omega)
                    have O0 : (0 : Int) ≤ (O : Int) := by omega
                    have O1 : (O : Int) < (c.size : Int) := by omega
                    have hv1 := hTb.out hkn j jT _ rfl
                    rw [hOe] at hv1
                    have hv2 := byte_val c O hOc _ rfl
                    obtain ⟨v, hv⟩ : ∃ v, (el c).getD O 0 = v := ⟨_, rfl⟩
                    rw [hv] at hv1 hv2
                    have tv : (((v.toNat : Nat) : Int) != ((v.toNat : Nat) : Int)) = false := by simp
                    have hr2 : Hid (r + 1 = min (a + 28 * k + (j + 1)) c.size) := Lib.hid (by have := hr.out; omega)
                    have r600 : (r : Int) ≤ 600 := by have := hr.out; omega
                    replace hOe := Lib.hid hOe
                    clear hv hr hTb
                    go_wp2
                    go_quiet (fail)
                    have hbw6 := Lib.hid (chain hbw5.out (chainN (Below.refl _ _) nq))
                    clear y1 y3 hv1 hv2
                    go_wp2
                    go_roundw
                    case rel => exact ⟨j + 1, r + 1, by go_num, by go_num, by omega, hr2, hbw6⟩
                    case measure => simp [intOf]; omega
                  · have tO : decide ((O : Int) < (c.size : Int)) = false := decide_eq_false (by omega)
                    have tO2 : decide (O < c.size) = false := decide_eq_false hOc
                    have tO3 : decide ((c.size : Int) ≤ (O : Int)) = true := decide_eq_true (by omega)
                    have tO4 : decide (c.size ≤ O) = true := decide_eq_true (by omega)
                    have hv1 := hTb.out hkn j jT 0#8 (by rw [hOe, List.getD_eq_getElem?_getD, List.getElem?_eq_none (by rw [el_len]; omega)]; rfl)
                    rw [show (((0#8 : R).toNat : Nat) : Int) = 0 from rfl] at hv1
                    have hr2 : Hid (r = min (a + 28 * k + (j + 1)) c.size) := Lib.hid (by have := hr.out; omega)
                    replace hOe := Lib.hid hOe
                    clear hOc hr hTb
                    go_wp2
                    go_quiet (fail)
                    have hbw6 := Lib.hid (chain hbw5.out (chainN (Below.refl _ _) nq))
                    clear y1 y3 hv1
                    go_wp2
                    go_roundw
                    case rel => exact ⟨j + 1, r, by go_num, rfl, by omega, hr2, hbw6⟩
                    case measure => simp [intOf]; omega
                · obtain rfl : j = 28 := by omega
                  have dj : decide (((28 : Nat) : Int) < 28) = false := by decide
                  have dj2 : decide ((28 : Int) < 28) = false := by decide
                  have hp2 : Hid (r = min (a + 28 * min (k + 1) n) c.size) := Lib.hid (by have e : min (k + 1) n = k + 1 := Nat.min_eq_left (by omega); rw [hr.out, e]; congr 1)
                  clear hr hTb
                  go_wp2
                  go_roundw
                  case rel => exact ⟨k + 1, r, by go_num, rfl, by omega, hp2, hbw⟩
                  case measure => simp [intOf]; omega
            · have tk : decide ((n : Int) ≤ (k : Int)) = true := decide_eq_true (by omega)
              have tk2 : decide (n ≤ k) = true := decide_eq_true (by omega)
              have hp2 : Hid (p = min (a + 28 * min (k + 1) n) c.size) := Lib.hid (by have e : min k n = n := Nat.min_eq_right (by omega); have e2 : min (k + 1) n = n := Nat.min_eq_right (by omega); rw [hp.out, e, e2])
              clear hp hTb hP2
              go_wp2
              go_roundw
              case rel => exact ⟨k + 1, p, by go_num, rfl, by omega, hp2, hbw⟩
              case measure => simp [intOf]; omega
          · obtain rfl : k = V := by omega
            have dk : decide ((k : Int) < (k : Int)) = false := decide_eq_false (by omega)
            have hq2 : Hid (p = min ((i + 1) * z) c.size) := Lib.hid (by
              have e : min k n = n := Nat.min_eq_right (by have := hV.out; omega)
              rw [hp.out, e, hz.out, ← ha.out, Nat.add_mul, Nat.one_mul])
            clear hp hP2 hB1
            go_wp2
            go_roundw
            case rel => exact ⟨i + 1, p, by go_num, rfl, by omega, hq2, hbw⟩
            case measure => simp [intOf]; omega
      · obtain rfl : i = N := by omega
        have di : decide ((i : Int) < (i : Int)) = false := decide_eq_false (by omega)
        have hqc : q = c.size := by rw [hq.out]; exact Nat.min_eq_right htop.out
        have tq : ((q : Int) == (c.size : Int)) = true := by rw [hqc]; simp
        have tq2 : ((c.size : Int) == (c.size : Int)) = true := by simp
        have hfin := Lib.hid (hP.out.next hbw.out).bel
        replace hqc := Lib.hid hqc
        clear hq hbw hP hI1 htop
        go_wp2
        go_ret
        exact ⟨rfl, hfin.out⟩
  · obtain rfl : K = 2 := by
      rcases hK with h | h
      · exact absurd h.2 hL
      · exact h.1
    have hno := fun k L (h : StsQ D S (el c) k L) => show k = 2 ∧ L = [] from by
      rcases h.err with e | e
      · exact absurd (h.yes e).1 hL
      · exact ⟨e, (h.no e).2⟩
    replace hno := Lib.hid hno
    clear hK hL
    go_enter Try.func6, Try.ntmps6
    go_wp2_with fail
    refine (cA.out _).mono ?_
    rintro e w1 ⟨rfl, hb1⟩
    replace hP := Lib.hid (hP.out.next hb1)
    clear hW0 hb1
    have x0 := hP.out.c0
    have x1 := hP.out.c1
    go_wp2_with fail
    refine (c1.out _).mono ?_
    rintro e w2 ⟨k1, L1, A1, m1, hq1, rfl, hI1, hb2⟩
    obtain ⟨rfl, rfl⟩ := hno.out _ _ hq1
    replace hP := Lib.hid (hP.out.next hb2)
    clear x0 x1 hb2 hq1 c1 hI1
    have x0 := hP.out.c0
    have x1 := hP.out.c1
    go_wp2_with fail
    refine (c5.out _).mono ?_
    rintro e w3 ⟨rfl, hb3⟩
    have hfin := Lib.hid (hP.out.next hb3).bel
    clear x0 x1 hb3 hP
    go_wp2
    go_ret
    exact ⟨rfl, hfin.out⟩
/-- The same at what the reading says. -/
theorem row_placement (D S : Int) (c : ByteArray) (w : World) (hD : (Lit.int .i64 D).wf = true) (hS : (Lit.int .i64 S).wf = true) (hc : c.size ≤ 140737488351232) : Calls Try.prog 6 #[lyV D S, .string c] w fun e w' => e = .returned (.bool true) ∧ Below w.heap.size w w' := by
  exact walk_placement D S c w
end Go.Proofs.Ytcfoclmkhippoaa.L16
