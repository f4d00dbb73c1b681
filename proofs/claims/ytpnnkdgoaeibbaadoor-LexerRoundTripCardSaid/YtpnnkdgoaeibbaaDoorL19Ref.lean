/- The contracts of the reference's Lines, Same, Decimal (layer 19). -/
import Derived.Test.YtpnnkdgoaeibbaaDoorL19Mem
import Derived.Laws.StructEq
namespace Go.Proofs.YtpnnkdgoaeibbaaDoor.L19
set_option maxRecDepth 100000
open Go.RowKit Mem
open A18 (ba_get drop_get ext_list str_of)
set_option linter.unusedVariables false
set_option linter.unusedSimpArgs false

set_option maxHeartbeats 4000000 in
theorem Lines_any (s : ByteArray) (hs : s.size ≤ 1000000) (w : World) : Calls Tryd.prog 12 #[.string s] w fun e w' => e = .returned (.int .i64 (s.data.toList.count 10 : Int)) ∧ w = w' := by
  have hn : s.data.toList.length = s.size := by simp
  have hle := Lib.hid (fun k => show (s.data.toList.take k).count 10 ≤ k from Nat.le_trans List.count_le_length (List.length_take_le _ _))
  have hfin := Lib.hid (show (s.data.toList.take s.size).count 10 = s.data.toList.count 10 by rw [← hn, List.take_length])
  have hstep := Lib.hid (fun (k : Nat) (hk : k < s.size) => show (s.data.toList.take (k + 1)).count 10 = (s.data.toList.take k).count 10 + (if s[k] = 10 then 1 else 0) by
    rw [List.take_succ_eq_append_getElem (by omega), List.count_append, ba_get s k hk, List.count_singleton]
    simp)
  obtain ⟨R, hR⟩ : ∃ R, s.data.toList.count 10 = R := ⟨_, rfl⟩
  rw [hR] at hfin ⊢
  obtain ⟨f, hf⟩ : ∃ f : Nat → Nat, (fun k => (s.data.toList.take k).count 10) = f := ⟨_, rfl⟩
  have hle := Lib.hid (fun k => show f k ≤ k by rw [← hf]; exact hle.out k)
  have hfin := Lib.hid (show f s.size = R by rw [← hf]; exact hfin.out)
  have hstep := Lib.hid (fun (k : Nat) (hk : k < s.size) => show f (k + 1) = f k + (if s[k] = 10 then 1 else 0) by rw [← hf]; exact hstep.out k hk)
  have h0 : f 0 = 0 := by rw [← hf]; rfl
  replace h0 := Lib.hid h0
  clear hR hf hn
  go_enter Tryd.func12, Tryd.ntmps12
  go_wp2
  go_loop [3, 4] (fun nv iv => ∃ (k m : Nat), nv = .int .i64 (m : Int) ∧ iv = .int .i64 (k : Int) ∧ k ≤ s.size ∧ m ≤ k ∧ Hid (f k = m)) (fun _ iv => s.size - (intOf iv).toNat)
  case atStart => exact ⟨0, 0, rfl, rfl, Nat.zero_le _, Nat.le_refl _, h0⟩
  case round =>
    obtain ⟨k, m, rfl, rfl, hk, hmk, hm⟩ := hrel
    by_cases hlt : k < s.size
    · have dk : decide ((k : Int) < (s.size : Int)) = true := decide_eq_true (by omega)
      have dk2 : decide (k < s.size) = true := decide_eq_true hlt
      have k0 : (0 : Int) ≤ (k : Int) := by omega
      have k1 : (k : Int) < (s.size : Int) := by omega
      have m0 : (0 : Int) ≤ (m : Int) := by omega
      have m1 : (m : Int) ≤ 1000000 := by omega
      have hst := hstep.out k hlt
      obtain ⟨c, hc⟩ : ∃ c, s[k] = c := ⟨_, rfl⟩
      rw [hc, hm.out] at hst
      by_cases e10 : c = 10
      · subst e10
        rw [if_pos rfl] at hst
        replace hst := Lib.hid hst
        clear hstep hm hfin hle h0
        go_wp2
        go_round
        case rel => exact ⟨k + 1, m + 1, by go_num, by go_num, by omega, by omega, hst⟩
        case measure => simp [intOf]; omega
      · rw [if_neg e10] at hst
        have t1 : ((c.toNat : Int) == 10) = false := by
          rw [beq_eq_false_iff_ne]
          intro e
          apply e10
          exact UInt8.toNat_inj.1 (by rw [show (10 : UInt8).toNat = 10 from rfl]; omega)
        replace hst := Lib.hid hst
        clear hstep hm hfin hle h0 e10
        go_wp2
        go_round
        case rel => exact ⟨k + 1, m, rfl, by go_num, by omega, by omega, hst⟩
        case measure => simp [intOf]; omega
    · obtain rfl : k = s.size := by omega
      have dk : decide ((s.size : Int) < (s.size : Int)) = false := decide_eq_false (by omega)
      have hz : m = R := by rw [← hm.out]; exact hfin.out
      subst hz
      clear hstep hm hfin hle h0
      go_wp2
      first | go_ret | skip
      exact ⟨rfl, rfl⟩
theorem str_inj' (a b : List UInt8) : ((⟨a.toArray⟩ : ByteArray).toList == (⟨b.toArray⟩ : ByteArray).toList) = decide (a = b) := by
  rw [str_toList, str_toList, Bool.eq_iff_iff, beq_iff_eq, decide_eq_true_iff]
theorem take_same {α : Type} {l m : List α} {k : Nat} {x : α} (h : l.take k = m.take k) (h1 : l[k]? = some x) (h2 : m[k]? = some x) : l.take (k + 1) = m.take (k + 1) := by
  rw [List.take_add_one, List.take_add_one, h, h1, h2]
theorem take_diff {α : Type} {l m : List α} {k : Nat} {x y : α} (h1 : l[k]? = some x) (h2 : m[k]? = some y) (hxy : x ≠ y) : l ≠ m := fun e => by
  subst e
  rw [h1] at h2
  injection h2 with h2
  exact hxy h2
theorem take_eq {α : Type} {l m : List α} {n : Nat} (h : l.take n = m.take n) (h1 : l.length = n) (h2 : m.length = n) : l = m := by
  rw [List.take_of_length_le (by omega), List.take_of_length_le (by omega)] at h
  exact h
set_option maxHeartbeats 8000000 in
theorem same_any {A B : Option Addr} {n m ca cb : Nat} {l r : List Tok} {w : World} (hA : IsTk w A n ca l) (hB : IsTk w B m cb r) (hn : n ≤ 1000000) (hm : m ≤ 1000000) (d : Nat) (hd : d ≤ 1000000) (hz : ∀ t ∈ l, t.2.2 ≤ 1000000) :
    Calls Tryd.prog 13 #[.slice A n ca, .slice B m cb, .int .i64 (d : Int)] w fun e w' => e = .returned (.bool (decide (l.map (shf d) = r))) ∧ ∃ q, w' = w.drewN q := by
  have h1 := hA.len
  have h2 := hB.len
  have hca := hA.le
  have hcb := hB.le
  obtain ⟨bq, hbq⟩ : ∃ bq, decide (l.map (shf d) = r) = bq := ⟨_, rfl⟩
  rw [hbq]
  by_cases e : n = m
  · subst e
    have hga := Lib.hid (fun (k : Nat) (hk : k < n) => hA.at hk)
    have hgb := Lib.hid (fun (k : Nat) (hk : k < n) => hB.at hk)
    have h1' : (l.map (shf d)).length = n := by rw [List.length_map, h1]
    have hyes := Lib.hid (fun (h : (l.map (shf d)).take n = r.take n) => show bq = true by rw [← hbq]; exact decide_eq_true (take_eq h h1' h2))
    have hno := Lib.hid (fun (k : Nat) (x y : Tok) (h1 : (l.map (shf d))[k]? = some x) (h2 : r[k]? = some y) (h : x ≠ y) => show bq = false by rw [← hbq]; exact decide_eq_false (take_diff h1 h2 h))
    have hmp := Lib.hid (fun (k : Nat) (t : Tok) (h : l[k]? = some t) => show (l.map (shf d))[k]? = some (shf d t) ∧ t.2.2 ≤ 1000000 by
      refine ⟨by rw [List.getElem?_map, h]; rfl, ?_⟩
      obtain ⟨hk, rfl⟩ := List.getElem?_eq_some_iff.1 h
      exact hz _ (List.getElem_mem hk))
    have d0 : ((n : Int) != (n : Int)) = false := by simp
    have d1 : (0 : Int) ≤ (d : Int) := by omega
    have d2 : (d : Int) ≤ 1000000 := by omega
    clear hA hB hbq h1 h2 h1'
    obtain ⟨l', hl'⟩ : ∃ l', l.map (shf d) = l' := ⟨_, rfl⟩
    rw [hl'] at hyes hno hmp
    go_enter Tryd.func13, Tryd.ntmps13
    go_wp2
    go_loopw [7] (fun iv wr => ∃ (k : Nat), iv = .int .i64 (k : Int) ∧ k ≤ n ∧ Hid (l'.take k = r.take k) ∧ Hid (∃ q, wr = w.drewN q)) (fun iv _ => n - (intOf iv).toNat)
    case atStart => exact ⟨0, rfl, Nat.zero_le _, Lib.hid (by simp), Lib.hid ⟨0, rfl⟩⟩
    case round =>
      obtain ⟨k, rfl, hk, hI, hw⟩ := hrel
      by_cases hlt : k < n
      · have dk : decide ((k : Int) < (n : Int)) = true := decide_eq_true (by omega)
        have k0 : (0 : Int) ≤ (k : Int) := by omega
        have k1 : (k : Int) < (n : Int) := by omega
        have k2 : (k : Int) ≤ 1000000 := by omega
        obtain ⟨ka, T, z, b1, o1, hT, rfl, _, f0, f1, f2⟩ := hga.out k hlt
        obtain ⟨kb, U, y, b2, o2, hU, rfl, _, g0, g1, g2⟩ := hgb.out k hlt
        obtain ⟨hT', hz1⟩ := hmp.out k _ hT
        unfold shf at hT'
        dsimp only at hT' hz1
        have z0 : (0 : Int) ≤ (z : Int) := by omega
        have z1 : (z : Int) ≤ 1000000 := by omega
        have hs : (ka, T, z + d) = (kb, U, y) → l'.take (k + 1) = r.take (k + 1) := fun h => take_same hI.out hT' (by rw [hU, h])
        have hn' : (ka, T, z + d) ≠ (kb, U, y) → bq = false := hno.out k _ _ hT' hU
        have hsB := str_inj' T U
        unfold strV at f1 g1
        obtain ⟨S, hS⟩ : ∃ S : ByteArray, ⟨T.toArray⟩ = S := ⟨_, rfl⟩
        obtain ⟨V, hV⟩ : ∃ S : ByteArray, ⟨U.toArray⟩ = S := ⟨_, rfl⟩
        rw [hS] at f1 hsB
        rw [hV] at g1 hsB
        have f0 : wr.cell? ⟨b1, o1 + k * 3, none⟩ = some (.int .i64 (ka : Int)) := by obtain ⟨q, e⟩ := hw.out; rw [e]; exact f0
        have f1 : wr.cell? ⟨b1, o1 + k * 3 + 1, none⟩ = some (.string S) := by obtain ⟨q, e⟩ := hw.out; rw [e]; exact f1
        have f2 : wr.cell? ⟨b1, o1 + k * 3 + 2, none⟩ = some (.int .i64 (z : Int)) := by obtain ⟨q, e⟩ := hw.out; rw [e]; exact f2
        have g0 : wr.cell? ⟨b2, o2 + k * 3, none⟩ = some (.int .i64 (kb : Int)) := by obtain ⟨q, e⟩ := hw.out; rw [e]; exact g0
        have g1 : wr.cell? ⟨b2, o2 + k * 3 + 1, none⟩ = some (.string V) := by obtain ⟨q, e⟩ := hw.out; rw [e]; exact g1
        have g2 : wr.cell? ⟨b2, o2 + k * 3 + 2, none⟩ = some (.int .i64 (y : Int)) := by obtain ⟨q, e⟩ := hw.out; rw [e]; exact g2
        obtain ⟨zd, hzd⟩ : ∃ zd, z + d = zd := ⟨_, rfl⟩
        rw [hzd] at hs hn'
        have ezd : (z : Int) + (d : Int) = (zd : Int) := by omega
        clear hS hV hga hgb hno hI hT hU hT' hmp hz1 hzd
        by_cases e0 : ka = kb
        · subst e0
          by_cases e1 : T = U
          · subst e1
            rw [decide_eq_true rfl] at hsB
            by_cases e2 : zd = y
            · subst e2
              have hs2 := Lib.hid (hs rfl)
              clear hs hn' hyes
              go_wp2
              go_quiet (fail)
              go_wp2
              rename_i nq _
              go_roundw
              case rel => exact ⟨k + 1, by go_num, by omega, hs2, Lib.hid (by obtain ⟨q, e⟩ := hw.out; exact ⟨q + nq, by rw [e, World.drewN_drewN]⟩)⟩
              case measure => simp [intOf]; omega
            · have t2 : ((zd : Int) == (y : Int)) = false := beq_eq_false_iff_ne.2 (by omega)
              have hfin := Lib.hid (hn' (fun h => e2 (by injection h with _ h; injection h)))
              clear hs hn' e2 hyes
              go_wp2
              go_quiet (fail)
              go_wp2
              rename_i nq _
              go_ret
              exact ⟨ret_bool hfin.out.symm, by obtain ⟨q, e⟩ := hw.out; exact ⟨q + nq, by rw [e, World.drewN_drewN]⟩⟩
          · rw [decide_eq_false e1] at hsB
            have hfin := Lib.hid (hn' (fun h => e1 (by injection h with _ h; injection h)))
            clear hs hn' e1 hyes
            go_wp2
            go_quiet (fail)
            go_wp2
            rename_i nq _
            go_ret
            exact ⟨ret_bool hfin.out.symm, by obtain ⟨q, e⟩ := hw.out; exact ⟨q + nq, by rw [e, World.drewN_drewN]⟩⟩
        · have t3 : ((ka : Int) != (kb : Int)) = true := bne_iff_ne.2 (by omega)
          have t4 : ((ka : Int) == (kb : Int)) = false := beq_eq_false_iff_ne.2 (by omega)
          clear hsB
          have hfin := Lib.hid (hn' (fun h => e0 (by injection h)))
          clear hs hn' e0 hyes
          go_wp2
          go_quiet (fail)
          go_wp2
          rename_i nq _
          go_ret
          exact ⟨ret_bool hfin.out.symm, by obtain ⟨q, e⟩ := hw.out; exact ⟨q + nq, by rw [e, World.drewN_drewN]⟩⟩
      · obtain rfl : k = n := by omega
        have dk : decide ((k : Int) < (k : Int)) = false := decide_eq_false (by omega)
        have hfin := Lib.hid (hyes.out hI.out)
        clear hyes hno hga hgb hI
        go_wp2
        go_ret
        exact ⟨ret_bool hfin.out.symm, hw.out⟩
  · have t1 : ((n : Int) != (m : Int)) = true := bne_iff_ne.2 (by omega)
    have hne : Hid (bq = false) := Lib.hid (by rw [← hbq]; exact decide_eq_false (fun h => e (by rw [← h1, ← h2, ← h, List.length_map])))
    clear hA hB h1 h2 e hbq
    go_enter Tryd.func13, Tryd.ntmps13
    go_wp2
    go_ret
    exact ⟨ret_bool hne.out.symm, 0, rfl⟩
end Go.Proofs.YtpnnkdgoaeibbaaDoor.L19
