/- The contracts of the reference's Index and Order of layer 11. -/
import Derived.Test.YthncpflbojoejaaRows
import Derived.Test.YthncpflbojoejaaI11Con
import Derived.Lib.Hide
import Derived.WalkKit
import Derived.BigQuiet
import Derived.Deep.QuietTactic
import Derived.Deep.RegionHeld3
import Derived.WalkSpells
import Derived.WalkLawsBesides
import Derived.Laws.AppendOwn
namespace Go.Proofs.Ythncpflbojoejaa.I11
open Go.RowKit Mem
set_option linter.unusedVariables false
set_option linter.unusedSimpArgs false

theorem ret_twoR {x y x' y' : Int} (h : x = x') (h' : y = y') : Ending.returned (.tuple #[.int .i64 x, .int .i64 y]) = .returned (.tuple #[.int .i64 x', .int .i64 y']) := by rw [h, h']
set_option maxRecDepth 100000 in
set_option maxHeartbeats 2000000 in
theorem rindex_core (i n r : Nat) (w : World) (hr : 1 ≤ r) (hi : i < n) (hn : n ≤ 9223372036854775807) (hr2 : r ≤ 9223372036854775807) :
    Calls Try.prog 17 #[.int .i64 (i : Int), .int .i64 (n : Int), .int .i64 (r : Int)] w fun e w' => e = .returned (.tuple #[.int .i64 (pos n r i : Int), .int .i64 0]) ∧ w = w' := by
  obtain ⟨p, q, N, M, X, hP⟩ := parts hr hi
  have e1 := hP.rem
  have e1' := hP.rem'
  have e2 := hP.quo
  have e2' := hP.quo'
  have e3 := hP.nquo
  have e3' := hP.nquo'
  have e4 := hP.nrem
  have e4' := hP.nrem'
  have e5 := hP.mul
  have pl := hP.pl
  have ql := hP.ql
  have Nl := hP.Nl
  have Ml := hP.Ml
  have hlt := hP.lt
  have hall := Lib.hid hP.all
  obtain ⟨K, hK⟩ : ∃ K, min p M = K := ⟨_, rfl⟩
  have r0 : (1 : Int) ≤ (r : Int) := by omega
  have r1 : (r : Int) ≠ 0 := by omega
  have i0 : (0 : Int) ≤ (i : Int) := by omega
  have n0 : (0 : Int) ≤ (n : Int) := by omega
  have d1 : decide ((r : Int) < 1) = false := decide_eq_false (by omega)
  have d2 : decide ((n : Int) < 0) = false := decide_eq_false (by omega)
  have d3 : decide ((i : Int) < 0) = false := decide_eq_false (by omega)
  have d4 : decide ((n : Int) ≤ (i : Int)) = false := decide_eq_false (by omega)
  rw [hK] at hlt hall
  have b1 : (X : Int) ≤ 9223372036854775807 := by omega
  have b2 : (X : Int) + (K : Int) ≤ 9223372036854775807 := by omega
  have b3 : (X : Int) + (K : Int) + (q : Int) ≤ 9223372036854775807 := by omega
  have b4 : (i : Int) ≤ 9223372036854775807 := by omega
  have b5 : (N : Int) ≤ 9223372036854775807 := by omega
  have b6 : (M : Int) ≤ 9223372036854775807 := by omega
  clear hP pl ql Nl Ml hlt
  rcases hmp : decide ((p : Int) < (M : Int)) with _ | _
  · obtain rfl : M = K := by have := of_decide_eq_false hmp; omega
    have hmp' : ¬ p < M := by have := of_decide_eq_false hmp; omega
    go_enter Try.func17, Try.ntmps17
    go_wp2
    go_ret2
    exact ⟨ret_twoR (by rw [← hall.out]; omega) rfl, rfl⟩
  · obtain rfl : p = K := by have := of_decide_eq_true hmp; omega
    have hmp' : p < M := by have := of_decide_eq_true hmp; omega
    go_enter Try.func17, Try.ntmps17
    go_wp2
    go_ret2
    exact ⟨ret_twoR (by rw [← hall.out]; omega) rfl, rfl⟩
set_option maxRecDepth 100000 in
set_option maxHeartbeats 2000000 in
theorem rindex_any (i n r : Int) (w : World) (i1 : -9223372036854775808 ≤ i) (i2 : i ≤ 9223372036854775807) (n1 : -9223372036854775808 ≤ n) (n2 : n ≤ 9223372036854775807) (r1 : -9223372036854775808 ≤ r) (r2 : r ≤ 9223372036854775807) :
    Calls Try.prog 17 #[.int .i64 i, .int .i64 n, .int .i64 r] w fun e w' => e = .returned (.tuple #[.int .i64 (ixN i n r), .int .i64 (ixE i n r)]) ∧ w = w' := by
  by_cases h : r < 1 ∨ n < 0
  · obtain ⟨g1, g2⟩ := ix_arg (i := i) h
    rw [g1, g2]
    clear g1 g2
    rcases h1 : decide (r < 1) with _ | _
    · have d2 : decide (n < 0) = true := decide_eq_true (by have := of_decide_eq_false h1; omega)
      clear h
      go_enter Try.func17, Try.ntmps17
      go_wp2
      go_ret2
      exact ⟨rfl, rfl⟩
    · clear h
      go_enter Try.func17, Try.ntmps17
      go_wp2
      go_ret2
      exact ⟨rfl, rfl⟩
  · have d1 : decide (r < 1) = false := decide_eq_false (by omega)
    have d2 : decide (n < 0) = false := decide_eq_false (by omega)
    by_cases h' : i < 0 ∨ n ≤ i
    · obtain ⟨g1, g2⟩ := ix_range h h'
      rw [g1, g2]
      clear g1 g2 h
      rcases h1 : decide (i < 0) with _ | _
      · have d3 : decide (n ≤ i) = true := decide_eq_true (by have := of_decide_eq_false h1; omega)
        clear h'
        go_enter Try.func17, Try.ntmps17
        go_wp2
        go_ret2
        exact ⟨rfl, rfl⟩
      · clear h'
        go_enter Try.func17, Try.ntmps17
        go_wp2
        go_ret2
        exact ⟨rfl, rfl⟩
    · obtain ⟨I, rfl⟩ : ∃ I : Nat, i = I := ⟨i.toNat, by omega⟩
      obtain ⟨N, rfl⟩ : ∃ I : Nat, n = I := ⟨n.toNat, by omega⟩
      obtain ⟨R, rfl⟩ : ∃ I : Nat, r = I := ⟨r.toNat, by omega⟩
      obtain ⟨g1, g2⟩ := ix_ok (i := I) (n := N) (r := R) (by omega) (by omega)
      rw [g1, g2]
      exact rindex_core I N R w (by omega) (by omega) (by omega) (by omega)
theorem info_intR : (Try.prog.info? 3).map (fun i => (i.zero, i.size, i.bytes)) = some (some (.int .i64 0), 1, 8) := by kernel_rfl
/-- What Order hands back. -/
def Ordd (n r : Nat) (w : World) (e : Ending) (w' : World) : Prop := ∃ (v : Value) (l : List Nat), e = .returned v ∧ Hid (Ord n r l n) ∧ w'.ownsRow w.heap.size 3 1 v n (nats l) ∧ Below w.heap.size w w'
set_option maxRecDepth 100000 in
set_option maxHeartbeats 4000000 in
theorem rorder_any (n r : Nat) (w : World) (hr : 1 ≤ r) (hn : n ≤ 1000) (hr2 : r ≤ 9223372036854775807) :
    Calls Try.prog 23 #[.int .i64 (n : Int), .int .i64 (r : Int)] w (Ordd n r w) := by
  obtain ⟨j0, hj, hy0, hy1, hy2⟩ := info_parts info_intR
  go_enter Try.func23, Try.ntmps23
  go_wp2
  go_loopw [5, 6] (fun v x wr => ∃ (p K : Nat) (l : List Nat), p ≤ r ∧ p ≤ n ∧ K ≤ n ∧ x = .int .i64 (p : Int) ∧ Hid (K = st n r p) ∧ Hid (Ord n r l K) ∧ wr.ownsRow w.heap.size 3 1 v K (nats l) ∧ Below w.heap.size w wr) (fun _ x _ => r - (intOf x).toNat)
  case atStart => exact ⟨0, 0, [], Nat.zero_le _, Nat.zero_le _, Nat.zero_le _, rfl, Lib.hid (st_zero n r).symm, Lib.hid (Ord.nil n r), empty_at rfl (Nat.le_refl _), (Below.refl _ _).alloc (Nat.le_refl _) _⟩
  case round =>
    obtain ⟨p, K, l, hpr, hpn, hKn, rfl, hK, ho, hown, hb⟩ := hrel
    by_cases hlt : p < r ∧ p < n
    · have d1 : decide ((p : Int) < (r : Int)) = true := decide_eq_true (by omega)
      have d2 : decide ((p : Int) < (n : Int)) = true := decide_eq_true (by omega)
      have hKp := hK.out
      have q1 := hlt.1
      have q2 := hlt.2
      have hin := Lib.hid (fun q => in_row n r p q q1)
      have hsu := Lib.hid (st_succ n r p)
      have hle := Lib.hid (st_le n r (show p + 1 ≤ r from q1))
      have hal := Lib.hid (st_all n r hr)
      have hps := Lib.hid (fun q => pos_at n r p q q1)
      replace hKp := Lib.hid hKp
      clear hK hlt
      go_wp2
      go_loopw [5, 7] (fun v x wr => ∃ (q I J : Nat) (l : List Nat), I ≤ n ∧ J ≤ n ∧ x = .int .i64 (I : Int) ∧ Hid (I = q * r + p) ∧ Hid (J = st n r p + q) ∧ Hid (q ≤ ln n r p) ∧ Hid (Ord n r l J) ∧ wr.ownsRow w.heap.size 3 1 v J (nats l) ∧ Below w.heap.size w wr) (fun _ x _ => n - (intOf x).toNat)
      case atStart => exact ⟨0, p, K, l, hpn, hKn, rfl, Lib.hid (by omega), Lib.hid (by have := hKp.out; omega), Lib.hid (Nat.zero_le _), ho, hown, hb⟩
      case round =>
        clear ho hown hb hKp hKn
        obtain ⟨q, I, J, l, hI, hJ, rfl, hIq, hJq, hql, ho, hown, hb⟩ := hrel
        by_cases hlt : I < n
        · have d3 : decide ((I : Int) < (n : Int)) = true := decide_eq_true (by omega)
          have hq : q < ln n r p := (hin.out q).1 (by rw [← hIq.out]; exact hlt)
          have hpos : pos n r I = J := by rw [hIq.out, hps.out q, hJq.out]
          have ho2 := Lib.hid (ho.out.snoc hlt hpos)
          have hsn := Lib.hid (nats_snoc l I)
          have J1 : J + 1 ≤ n := by have := hsu.out; have := hle.out; have := hal.out; have := hJq.out; omega
          have hmul : (q + 1) * r + p = I + r := by rw [Nat.add_mul, Nat.one_mul, hIq.out]; omega
          have hJ2 : Hid (J + 1 = st n r p + (q + 1)) := Lib.hid (by have := hJq.out; omega)
          rcases hbr : decide ((n : Int) - (r : Int) < (I : Int)) with _ | _
          · have hIr : I + r ≤ n := by have := of_decide_eq_false hbr; omega
            have hI2 : Hid (I + r = (q + 1) * r + p) := Lib.hid hmul.symm
            have hq2 : Hid (q + 1 ≤ ln n r p) := Lib.hid hq
            clear hq hpos hmul hIq hJq hql ho
            go_wp2_with (at_builtin; refine wpList_append_own _ rfl _ _ 42 rfl w.heap.size 3 j0 (.int .i64 0) 1 8 Try.underlying42 hj hy0 hy1 hy2 rfl (by decide) _ _ _ rfl (hown.alloc _) ⟨wr.heap.size, 0, none⟩ 1 1 [.int .i64 (I : Int)] rfl rfl (one_new _ _ _) (one_cell _ _) ?d3 ?d4 ?d5 ?_)
            case d3 => unfold maxLen; omega
            case d4 => omega
            case d5 => have := hb.size; simp; omega
            intro v' w2 hown2 hgr _
            rw [← hsn.out] at hown2
            have hb2 := (hb.alloc hb.size _).grown hgr (by have := hb.size; simp; omega) (fun j hj => (hown.lt j hj).1)
            clear hown hgr hb
            go_wp2
            go_roundw
            case rel => exact ⟨q + 1, I + r, J + 1, l ++ [I], hIr, J1, by go_num, hI2, hJ2, hq2, ho2, by simpa using hown2, hb2⟩
            case measure => simp [intOf]; omega
          · have hend : ln n r p = q + 1 := by
              have h1 : ¬ (q + 1) * r + p < n := by have := of_decide_eq_true hbr; omega
              have h2 := Nat.not_lt.1 (fun h => h1 ((hin.out (q + 1)).2 h))
              omega
            have hK2 : Hid (J + 1 = st n r (p + 1)) := Lib.hid (by rw [hsu.out, hend]; exact hJ2.out)
            clear hq hpos hmul hIq hJq hql ho hend hJ2
            go_wp2_with (at_builtin; refine wpList_append_own _ rfl _ _ 42 rfl w.heap.size 3 j0 (.int .i64 0) 1 8 Try.underlying42 hj hy0 hy1 hy2 rfl (by decide) _ _ _ rfl (hown.alloc _) ⟨wr.heap.size, 0, none⟩ 1 1 [.int .i64 (I : Int)] rfl rfl (one_new _ _ _) (one_cell _ _) ?d3 ?d4 ?d5 ?_)
            case d3 => unfold maxLen; omega
            case d4 => omega
            case d5 => have := hb.size; simp; omega
            intro v' w2 hown2 hgr _
            rw [← hsn.out] at hown2
            have hb2 := (hb.alloc hb.size _).grown hgr (by have := hb.size; simp; omega) (fun j hj => (hown.lt j hj).1)
            clear hown hgr hb
            go_wp2
            go_roundw
            case rel => exact ⟨p + 1, J + 1, l ++ [I], q1, q2, J1, by go_num, hK2, ho2, by simpa using hown2, hb2⟩
            case measure => simp [intOf]; omega
        · have d3 : decide ((I : Int) < (n : Int)) = false := decide_eq_false (by omega)
          have hend : ln n r p = q := by
            have h1 : ¬ q * r + p < n := by have := hIq.out; omega
            have h2 := Nat.not_lt.1 (fun h => h1 ((hin.out q).2 h))
            have := hql.out
            omega
          have hK2 : Hid (J = st n r (p + 1)) := Lib.hid (by rw [hsu.out, hend]; exact hJq.out)
          clear hIq hJq hql hend
          go_wp2
          go_roundw
          case rel => exact ⟨p + 1, J, l, q1, q2, hJ, by go_num, hK2, ho, hown, hb⟩
          case measure => simp [intOf]; omega
    · have hK2 := st_end (n := n) (r := r) (p := p) hr hpr hpn hlt
      rw [← hK.out] at hK2
      subst hK2
      obtain ⟨A', c', rfl, _, _⟩ := own_slice hown
      rcases d1 : decide ((p : Int) < (r : Int)) with _ | _
      · go_wp2
        all_goals exact bodyPost_ret (v := .slice A' K c') (by simp [results, Try.results23, go_sem]) rfl ⟨_, l, rfl, ho, hown, hb⟩
      · have d2 : decide ((p : Int) < (K : Int)) = false := decide_eq_false (by have := of_decide_eq_true d1; omega)
        go_wp2
        all_goals exact bodyPost_ret (v := .slice A' K c') (by simp [results, Try.results23, go_sem]) rfl ⟨_, l, rfl, ho, hown, hb⟩
end Go.Proofs.Ythncpflbojoejaa.I11
