/- The walk of the law ConvcodeDistance, under the package's contracts. -/
import Derived.Test.YthbhjbbgghpiaaaC9Xor
import Derived.Lib.OthersKept
import Derived.Deep.QuietTactic
import Derived.BigQuiet
namespace Go.Proofs.Ythbhjbbgghpiaaa.C9
open Go.RowKit Mem
set_option linter.unusedVariables false
set_option linter.unusedSimpArgs false

theorem wgt_step {l m : List Bool} (h : l.length = m.length) {k : Nat} (hk : k < l.length) : wgt ((xo l m).take (k + 1)) = wgt ((xo l m).take k) + (if (l.getD k false ^^ m.getD k false) then 1 else 0) := by
  have hx : k < (xo l m).length := by rw [xo_len l m h]; exact hk
  have e3 : (xo l m)[k] = (l.getD k false ^^ m.getD k false) := by
    rw [← xo_get l m k hk (by rw [← h]; exact hk)]
    simp [List.getD_eq_getElem?_getD, List.getElem?_eq_getElem hx]
  rw [List.take_succ_eq_append_getElem hx, wgt_app, e3]
  cases (l.getD k false ^^ m.getD k false) <;> rfl
theorem cell_small (b : Bool) : (cell b).toNat < 128 := by cases b <;> decide
theorem wgt_le (l : List Bool) : wgt l ≤ l.length := List.length_filter_le _ _

set_option maxRecDepth 100000 in
set_option maxHeartbeats 8000000 in
theorem walk_distance (D : Dev) (a b : ByteArray) (w : World) (ha : a.size ≤ 140737488351232) (hb0 : b.size ≤ 140737488351232) :
    Calls Try.prog 8 #[.string a, .string b] w fun e w' => e = .returned (.bool true) ∧ Below w.heap.size w w' := by
  have cA := Lib.hid (alive_any D w)
  have c1 := Lib.hid (fun W => D.encode a W (by omega))
  have c2 := Lib.hid (fun W => D.encode b W (by omega))
  go_enter Try.func8, Try.ntmps8
  go_wp2_with fail
  refine cA.out.mono ?_
  rintro e w1 ⟨rfl, hB⟩
  go_wp2_with fail
  refine (c1.out _).mono ?_
  rintro e w2 ⟨X, k1, hq1, rfl, hb⟩
  replace hB := chain hB hb
  clear hb
  replace hq1 := Lib.hid hq1
  go_wp2_with fail
  refine (c2.out _).mono ?_
  rintro e w3 ⟨Y, k2, hq2, rfl, hb⟩
  replace hB := chain hB hb
  clear hb cA c1 c2
  replace hq2 := Lib.hid hq2
  by_cases h1 : a.size ≤ 1000
  · have d1 : decide (1000 < a.size) = false := decide_eq_false (by omega)
    have d1' : decide ((1000 : Int) < (a.size : Int)) = false := decide_eq_false (by omega)
    by_cases h2 : a.size = b.size
    · have d2 : (a.size != b.size) = false := by rw [h2]; simp
      have d2' : ((a.size : Int) != (b.size : Int)) = false := by rw [h2]; simp
      have h2 := Lib.hid h2
      rcases hab0 : (a.toList == b.toList) with _ | _
      · by_cases h3 : k1 = 0
        · have d3 : (k1 != 0) = false := by rw [h3]; rfl
          by_cases h4 : k2 = 0
          · have d4 : (k2 != 0) = false := by rw [h4]; rfl
            obtain ⟨s1, b1, e1⟩ := hq1.out.ok h3
            obtain ⟨s2, b2, e2⟩ := hq2.out.ok h4
            have hab : (tb a).length = (tb b).length := by rw [tb_len, tb_len]; exact h2.out
            have hne : tb a ≠ tb b := fun e => by
              have e3 : a = b := by rw [← sb_tb b1, ← sb_tb b2, e]
              rw [e3] at hab0
              simp at hab0
            have hdist := distance hab hne
            have hlen : (enc (tb a)).length = (enc (tb b)).length := by rw [enc_len, enc_len, hab]
            have cX := fun W => xor_any (sb_tb b1).symm (sb_tb b2).symm hab (by rw [tb_len]; omega) W
            have cW := fun W => D.weight (sb (xo (tb a) (tb b))) W (by rw [sb_size, xo_len _ _ hab, tb_len]; omega)
            have hfin : ∀ n k, WgtQ (sb (xo (tb a) (tb b))) n k → n = (wgt (xo (enc (tb a)) (enc (tb b))) : Int) ∧ k = 0 := fun n k h => by rw [← enc_xo hab]; exact h.sb (by rw [xo_len _ _ hab, tb_len]; omega)
            have hwl := wgt_le (xo (enc (tb a)) (enc (tb b)))
            rw [xo_len _ _ hlen, enc_len, tb_len] at hwl
            obtain ⟨M, hM⟩ : ∃ M, sb (xo (tb a) (tb b)) = M := ⟨_, rfl⟩
            obtain ⟨P, hP⟩ : ∃ P, enc (tb a) = P := ⟨_, rfl⟩
            obtain ⟨Q, hQ⟩ : ∃ Q, enc (tb b) = Q := ⟨_, rfl⟩
            have hPl : P.length = 2 * a.size + 4 := by rw [← hP, enc_len, tb_len]
            rw [hM] at cX cW hfin
            rw [hP] at e1 hlen hdist hfin hwl
            rw [hQ] at e2 hlen hdist hfin hwl
            obtain ⟨L, hL⟩ : ∃ L, P.length = L := ⟨_, rfl⟩
            have hXs : X.size = L := by rw [e1, sb_size, hL]
            have hYs : Y.size = L := by rw [e2, sb_size, ← hlen, hL]
            have hbx := fun k h => sb_byte e1 k h
            have hby := fun k h => sb_byte e2 k h
            have hL3 : L ≤ 3000 := by omega
            obtain ⟨N, hN⟩ : ∃ N, wgt (xo P Q) = N := ⟨_, rfl⟩
            rw [hN] at hdist hfin
            have hN3 : N ≤ 3000 := by omega
            have hNh := Lib.hid hN
            have hlenh := Lib.hid hlen
            have hLh := Lib.hid hL
            have hXsh := Lib.hid hXs
            have hYsh := Lib.hid hYs
            replace hbx := Lib.hid hbx
            replace hby := Lib.hid hby
            replace cX := Lib.hid cX
            replace cW := Lib.hid cW
            replace hfin := Lib.hid hfin
            clear hq1 hq2 h2 h3 h4 s1 s2 b1 b2 e1 e2 hab hne hM hP hQ hPl hlen hL hXs hYs hN hwl
            obtain ⟨g, hg⟩ : ∃ g, w3.heap.size = g := ⟨_, rfl⟩
            have hk0 : (w3.iter X 0).heap[g]? = some (.stringIter X 0) := by rw [← hg]; exact World.iter_heap w3 X 0
            have hbi : Below w3.heap.size w3 (w3.iter X 0) := (Below.refl _ w3).alloc (Nat.le_refl _) _
            have hgh := Lib.hid hg
            go_wp2
            clear hg
            go_loopw [9] (fun v wr => ∃ k m : Nat, k ≤ L ∧ m ≤ k ∧ v = .int .i64 m ∧ Hid (wgt ((xo P Q).take k) = m) ∧ wr.heap[g]? = some (.stringIter X k) ∧ Hid (Below w3.heap.size w3 wr)) (fun _ wr => L - wr.iterPos g)
            case atStart => exact ⟨0, 0, Nat.zero_le _, Nat.le_refl _, rfl, Lib.hid rfl, hk0, Lib.hid hbi⟩
            case round =>
              clear hk0 hbi
              obtain ⟨k, m, hk, hmk, rfl, hm, hit, hb⟩ := hrel
              by_cases hlt : k < L
              · have hkX : k < X.size := by rw [hXsh.out]; exact hlt
                have hkY : k < Y.size := by rw [hYsh.out]; exact hlt
                have hx := hbx.out k hkX
                have hy := hby.out k hkY
                have ha128 : (X[k]'hkX).toNat < 128 := by
                  have := cell_small (P.getD k false)
                  omega
                have hst := wgt_step hlenh.out (k := k) (by rw [hLh.out]; exact hlt)
                rw [hm.out] at hst
                have hnext : ∀ ty, (Instr.next (.pointer (some ⟨g, 0, none⟩)) true ty).run Try.prog wr = _ := fun ty => Lib.run_next_ascii_at wr g X k ty hit hkX ha128
                have hit1 := Lib.iterAt_heap wr g X k (k + 1) hit
                have hb1 := Lib.hid (Lib.below_iterAt hb.out (by rw [hgh.out]; exact Nat.le_refl _) X (k + 1))
                have hmu : wr.iterPos g = k := by simp [World.iterPos, hit]
                obtain ⟨W1, hW1⟩ : ∃ W1, wr.iterAt g X (k + 1) = W1 := ⟨_, rfl⟩
                rw [hW1] at hnext hit1 hb1
                obtain ⟨x, hx'⟩ : ∃ x, P.getD k false = x := ⟨_, rfl⟩
                obtain ⟨y, hy'⟩ : ∃ y, Q.getD k false = y := ⟨_, rfl⟩
                rw [hx'] at hx hst
                rw [hy'] at hy hst
                have i1 : (0 : Int) ≤ (k : Int) := by omega
                have i2 : (k : Int) < (X.size : Int) := by omega
                have i3 : (k : Int) < (Y.size : Int) := by omega
                have hmuh := Lib.hid hmu
                replace hst := Lib.hid hst
                replace hit1 := Lib.hid hit1
                clear hx' hy' hW1 hm hb ha128 hmu hit
                rcases x with _ | _ <;> rcases y with _ | _
                all_goals
                  first
                  | rw [show ((cell false).toNat : Int) = 48 from rfl] at hx
                  | rw [show ((cell true).toNat : Int) = 49 from rfl] at hx
                  first
                  | rw [show ((cell false).toNat : Int) = 48 from rfl] at hy
                  | rw [show ((cell true).toNat : Int) = 49 from rfl] at hy
                  go_wp2
                  go_quiet (fail)
                  rename_i nq _
                  have hit2 := Lib.hid (show (W1.drewN nq).heap[g]? = some (.stringIter X (k + 1)) from hit1.out)
                  have hb2 := Lib.hid (chainN hb1.out nq)
                  have hmu2 : (W1.drewN nq).iterPos g = k + 1 := by
                    unfold World.iterPos
                    rw [hit2.out]
                  replace hmu2 := Lib.hid hmu2
                  go_wp2
                  go_roundw
                  case rel => first | exact ⟨k + 1, m, by omega, by omega, rfl, hst, hit2.out, hb2⟩ | exact ⟨k + 1, m + 1, by omega, by omega, by go_num, hst, hit2.out, hb2⟩
                  case measure => rw [hmuh.out, hmu2.out]; omega
              · have hke : k = L := by omega
                rw [hke, List.take_of_length_le (by rw [xo_len _ _ hlenh.out, hLh.out]; exact Nat.le_refl _), hNh.out] at hm
                have hmN := hm.out
                have hnx := fun ty => Lib.run_next_end_at (P := Try.prog) wr g X k ty hit (by rw [hXsh.out]; omega)
                have hbb := Lib.hid (chain hB hb.out)
                have d5 : (5 : Int) ≤ (m : Int) := by omega
                have d6 : decide (5 ≤ m) = true := decide_eq_true (by omega)
                have d7 : decide ((5 : Int) ≤ (m : Int)) = true := decide_eq_true d5
                rw [hmN] at hfin
                clear hke hm hit hb hmN hB
                go_wp2_with fail
                refine (cX.out _).mono ?_
                rintro e w4 ⟨rfl, hb⟩
                have hB := chain hbb.out hb
                clear hb
                go_wp2_with fail
                refine (cW.out _).mono ?_
                rintro e w5 ⟨n, k', hq, rfl, hb⟩
                obtain ⟨rfl, rfl⟩ := hfin.out n k' hq
                replace hB := chain hB hb
                clear hb hq
                go_wp2
                go_ret
                exact ⟨rfl, hB⟩
          · have d4 : (k2 != 0) = true := by simpa using h4
            go_wp2
            go_ret
            exact ⟨rfl, hB⟩
        · have d3 : (k1 != 0) = true := by simpa using h3
          go_wp2
          go_ret
          exact ⟨rfl, hB⟩
      · go_wp2
        go_ret
        exact ⟨rfl, hB⟩
    · have d2 : (a.size != b.size) = true := by simpa using h2
      have d2' : ((a.size : Int) != (b.size : Int)) = true := by rw [bne_iff_ne]; omega
      go_wp2
      go_ret
      exact ⟨rfl, hB⟩
  · have d1 : decide (1000 < a.size) = true := decide_eq_true (by omega)
    have d1' : decide ((1000 : Int) < (a.size : Int)) = true := decide_eq_true (by omega)
    go_wp2
    go_ret
    exact ⟨rfl, hB⟩
end Go.Proofs.Ythbhjbbgghpiaaa.C9
