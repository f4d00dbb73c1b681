/- The contracts of the reference's SameSymbols (layer 18) and Same (layer 2). -/
import Derived.Test.YthmgocjmfhpafaaDoorA18Mem
import Derived.Laws.StructEq
import Derived.BigQuiet
import Derived.Deep.QuietTactic
namespace Go.Proofs.YthmgocjmfhpafaaDoor.A18
set_option maxRecDepth 100000
open Go.RowKit Mem
set_option linter.unusedVariables false
set_option linter.unusedSimpArgs false

theorem str_inj' (a b : List UInt8) : ((⟨a.toArray⟩ : ByteArray).toList == (⟨b.toArray⟩ : ByteArray).toList) = decide (a = b) := by
  rw [str_toList, str_toList, Bool.eq_iff_iff, beq_iff_eq, decide_eq_true_iff]
theorem take_same {α : Type} {l m : List α} {k : Nat} {x : α} (h : l.take k = m.take k) (h1 : l[k]? = some x) (h2 : m[k]? = some x) : l.take (k + 1) = m.take (k + 1) := by
  rw [List.take_add_one, List.take_add_one, h, h1, h2]
theorem take_diff {α : Type} {l m : List α} {k : Nat} {x y : α} (h1 : l[k]? = some x) (h2 : m[k]? = some y) (hxy : x ≠ y) : l ≠ m := fun e => by
  subst e
  rw [h1] at h2
  injection h2 with h2
  exact hxy h2
theorem take_eq {α : Type} {l m : List α} {n : Nat} (h : l.take n = m.take n) (h1 : l.length = n) (h2 : m.length = n) : l = m := by
  rw [List.take_of_length_le (by omega), List.take_of_length_le (by omega)] at h
  exact h
set_option maxHeartbeats 8000000 in
theorem sameSyms_any {A B : Option Addr} {n m ca cb : Nat} {l r : List (List UInt8 × Int)} {w : World} (hA : IsPs w A n ca l) (hB : IsPs w B m cb r) (hn : n ≤ 1000000) (hm : m ≤ 1000000) :
    Calls Tryd.prog 14 #[.slice A n ca, .slice B m cb] w fun e w' => e = .returned (.bool (decide (l = r))) ∧ ∃ q, w' = w.drewN q := by
  have h1 := hA.len
  have h2 := hB.len
  have hca := hA.le
  have hcb := hB.le
  obtain ⟨bq, hbq⟩ : ∃ bq, decide (l = r) = bq := ⟨_, rfl⟩
  rw [hbq]
  by_cases e : n = m
  · subst e
    have hga := Lib.hid (fun (k : Nat) (hk : k < n) => hA.at hk)
    have hgb := Lib.hid (fun (k : Nat) (hk : k < n) => hB.at hk)
    have hyes := Lib.hid (fun (h : l.take n = r.take n) => show bq = true by rw [← hbq]; exact decide_eq_true (take_eq h h1 h2))
    have hno := Lib.hid (fun (k : Nat) (x y : List UInt8 × Int) (h1 : l[k]? = some x) (h2 : r[k]? = some y) (h : x ≠ y) => show bq = false by rw [← hbq]; exact decide_eq_false (take_diff h1 h2 h))
    have d0 : ((n : Int) != (n : Int)) = false := by simp
    clear hA hB hbq h1 h2
    go_enter Tryd.func14, Tryd.ntmps14
    go_wp2
    go_loopw [5] (fun iv wr => ∃ (k : Nat), iv = .int .i64 (k : Int) ∧ k ≤ n ∧ Hid (l.take k = r.take k) ∧ Hid (∃ q, wr = w.drewN q)) (fun iv _ => n - (intOf iv).toNat)
    case atStart => exact ⟨0, rfl, Nat.zero_le _, Lib.hid (by simp), Lib.hid ⟨0, rfl⟩⟩
    case round =>
      obtain ⟨k, rfl, hk, hI, hw⟩ := hrel
      by_cases hlt : k < n
      · have dk : decide ((k : Int) < (n : Int)) = true := decide_eq_true (by omega)
        have k0 : (0 : Int) ≤ (k : Int) := by omega
        have k1 : (k : Int) < (n : Int) := by omega
        have k2 : (k : Int) ≤ 1000000 := by omega
        obtain ⟨T, z, b1, o1, hT, rfl, _, g1, g2⟩ := hga.out k hlt
        obtain ⟨U, y, b2, o2, hU, rfl, _, g3, g4⟩ := hgb.out k hlt
        have hs : (T, z) = (U, y) → l.take (k + 1) = r.take (k + 1) := fun h => take_same hI.out hT (by rw [hU, h])
        have hn' : (T, z) ≠ (U, y) → bq = false := hno.out k _ _ hT hU
        have hsB := str_inj' T U
        unfold strV at g1 g3
        obtain ⟨S, hS⟩ : ∃ S : ByteArray, ⟨T.toArray⟩ = S := ⟨_, rfl⟩
        obtain ⟨V, hV⟩ : ∃ S : ByteArray, ⟨U.toArray⟩ = S := ⟨_, rfl⟩
        rw [hS] at g1 hsB
        rw [hV] at g3 hsB
        have g1 : wr.cell? ⟨b1, o1 + k * 2, none⟩ = some (.string S) := by obtain ⟨q, e⟩ := hw.out; rw [e]; exact g1
        have g2 : wr.cell? ⟨b1, o1 + k * 2 + 1, none⟩ = some (.int .i64 z) := by obtain ⟨q, e⟩ := hw.out; rw [e]; exact g2
        have g3 : wr.cell? ⟨b2, o2 + k * 2, none⟩ = some (.string V) := by obtain ⟨q, e⟩ := hw.out; rw [e]; exact g3
        have g4 : wr.cell? ⟨b2, o2 + k * 2 + 1, none⟩ = some (.int .i64 y) := by obtain ⟨q, e⟩ := hw.out; rw [e]; exact g4
        clear hS hV hga hgb hno hI hT hU
        by_cases e1 : T = U
        · rw [decide_eq_true e1] at hsB
          by_cases e2 : z = y
          · have t2 : (z == y) = true := by simpa using e2
            have hs2 := Lib.hid (hs (by rw [e1, e2]))
            clear hs hn' e1 e2 hyes
            go_wp2
            go_quiet (fail)
            go_wp2
            rename_i nq _
            go_roundw
            case rel => exact ⟨k + 1, by go_num, by omega, hs2, Lib.hid (by obtain ⟨q, e⟩ := hw.out; exact ⟨q + nq, by rw [e, World.drewN_drewN]⟩)⟩
            case measure => simp [intOf]; omega
          · have t2 : (z == y) = false := by simpa using e2
            have hfin := Lib.hid (hn' (fun h => e2 (by injection h)))
            clear hs hn' e1 e2 hyes
            go_wp2
            go_quiet (fail)
            go_wp2
            rename_i nq _
            go_ret
            exact ⟨ret_bool hfin.out.symm, by obtain ⟨q, e⟩ := hw.out; exact ⟨q + nq, by rw [e, World.drewN_drewN]⟩⟩
        · rw [decide_eq_false e1] at hsB
          have hfin := Lib.hid (hn' (fun h => e1 (by injection h)))
          clear hs hn' e1 hyes
          go_wp2
          go_quiet (fail)
          go_wp2
          rename_i nq _
          go_ret
          exact ⟨ret_bool hfin.out.symm, by obtain ⟨q, e⟩ := hw.out; exact ⟨q + nq, by rw [e, World.drewN_drewN]⟩⟩
      · obtain rfl : k = n := by omega
        have dk : decide ((k : Int) < (k : Int)) = false := decide_eq_false (by omega)
        have hfin := Lib.hid (hyes.out hI.out)
        clear hyes hno hga hgb hI
        go_wp2
        go_ret
        exact ⟨ret_bool hfin.out.symm, hw.out⟩
  · have t1 : ((n : Int) != (m : Int)) = true := bne_iff_ne.2 (by omega)
    have hne : Hid (bq = false) := Lib.hid (by rw [← hbq]; exact decide_eq_false (fun h => e (by rw [← h1, ← h2, h])))
    clear hA hB h1 h2 e hbq
    go_enter Tryd.func14, Tryd.ntmps14
    go_wp2
    go_ret
    exact ⟨ret_bool hne.out.symm, 0, rfl⟩
/-- A slice of strings of a call's own. -/
structure IsSt (w : World) (A : Option Addr) (n cap : Nat) (l : List (List UInt8)) : Prop where
  len : l.length = n
  le : n ≤ cap
  capm : cap ≤ maxLen
  nil : A = none → cap = 0
  rd : Rd w A (strVs l)
theorem IsSt.of_own {w : World} {base n : Nat} {e : TypeId} {v : Value} {l : List (List UInt8)} (h : w.ownsRow base e 1 v n (strVs l)) (hn : l.length = n) : ∃ A cap, v = .slice A n cap ∧ IsSt w A n cap l := by
  obtain ⟨A, cap, rfl, h1, h2, h3⟩ := own2_slice h
  exact ⟨A, cap, rfl, hn, h1, h2, h3, Rd.of_own h⟩
theorem IsSt.below {w w1 : World} {A : Option Addr} {n cap : Nat} {l} (h : IsSt w A n cap l) (k : Below w.heap.size w w1) : IsSt w1 A n cap l := ⟨h.len, h.le, h.capm, h.nil, h.rd.below k⟩
theorem IsSt.at {w : World} {A : Option Addr} {n cap : Nat} {l : List (List UInt8)} (h : IsSt w A n cap l) {i : Nat} (hi : i < n) : ∃ (T : List UInt8) (b o : Nat), l[i]? = some T ∧ A = some ⟨b, o, none⟩ ∧ b < w.heap.size ∧ w.cell? ⟨b, o + i, none⟩ = some (strV T) := by
  have hl : i < l.length := by have := h.len; omega
  obtain ⟨b, o, h1, h2, h3⟩ := h.rd i (by rw [strVs_len]; exact hl)
  refine ⟨l[i], b, o, List.getElem?_eq_getElem hl, h1, h2, ?_⟩
  rw [h3]
  simp [strVs]
set_option maxHeartbeats 8000000 in
theorem same2_any {A B : Option Addr} {n m ca cb : Nat} {l r : List (List UInt8)} {w : World} (hA : IsSt w A n ca l) (hB : IsSt w B m cb r) (hn : n ≤ 1000000) (hm : m ≤ 1000000) :
    Calls Tryd.prog 17 #[.slice A n ca, .slice B m cb] w fun e w' => e = .returned (.bool (decide (l = r))) ∧ ∃ q, w' = w.drewN q := by
  have h1 := hA.len
  have h2 := hB.len
  have hca := hA.le
  have hcb := hB.le
  obtain ⟨bq, hbq⟩ : ∃ bq, decide (l = r) = bq := ⟨_, rfl⟩
  rw [hbq]
  by_cases e : n = m
  · subst e
    have hga := Lib.hid (fun (k : Nat) (hk : k < n) => hA.at hk)
    have hgb := Lib.hid (fun (k : Nat) (hk : k < n) => hB.at hk)
    have hyes := Lib.hid (fun (h : l.take n = r.take n) => show bq = true by rw [← hbq]; exact decide_eq_true (take_eq h h1 h2))
    have hno := Lib.hid (fun (k : Nat) (x y : List UInt8) (h1 : l[k]? = some x) (h2 : r[k]? = some y) (h : x ≠ y) => show bq = false by rw [← hbq]; exact decide_eq_false (take_diff h1 h2 h))
    have d0 : ((n : Int) != (n : Int)) = false := by simp
    clear hA hB hbq h1 h2
    go_enter Tryd.func17, Tryd.ntmps17
    go_wp2
    go_loopw [5] (fun iv wr => ∃ (k : Nat), iv = .int .i64 (k : Int) ∧ k ≤ n ∧ Hid (l.take k = r.take k) ∧ Hid (∃ q, wr = w.drewN q)) (fun iv _ => n - (intOf iv).toNat)
    case atStart => exact ⟨0, rfl, Nat.zero_le _, Lib.hid (by simp), Lib.hid ⟨0, rfl⟩⟩
    case round =>
      obtain ⟨k, rfl, hk, hI, hw⟩ := hrel
      by_cases hlt : k < n
      · have dk : decide ((k : Int) < (n : Int)) = true := decide_eq_true (by omega)
        have k0 : (0 : Int) ≤ (k : Int) := by omega
        have k1 : (k : Int) < (n : Int) := by omega
        have k2 : (k : Int) ≤ 1000000 := by omega
        obtain ⟨T, b1, o1, hT, rfl, _, g1⟩ := hga.out k hlt
        obtain ⟨U, b2, o2, hU, rfl, _, g3⟩ := hgb.out k hlt
        have hs : T = U → l.take (k + 1) = r.take (k + 1) := fun h => take_same hI.out hT (by rw [hU, h])
        have hn' : T ≠ U → bq = false := hno.out k _ _ hT hU
        have hsB := str_inj' T U
        unfold strV at g1 g3
        obtain ⟨S, hS⟩ : ∃ S : ByteArray, ⟨T.toArray⟩ = S := ⟨_, rfl⟩
        obtain ⟨V, hV⟩ : ∃ S : ByteArray, ⟨U.toArray⟩ = S := ⟨_, rfl⟩
        rw [hS] at g1 hsB
        rw [hV] at g3 hsB
        have g1 : wr.cell? ⟨b1, o1 + k, none⟩ = some (.string S) := by obtain ⟨q, e⟩ := hw.out; rw [e]; exact g1
        have g3 : wr.cell? ⟨b2, o2 + k, none⟩ = some (.string V) := by obtain ⟨q, e⟩ := hw.out; rw [e]; exact g3
        clear hS hV hga hgb hno hI hT hU
        by_cases e1 : T = U
        · rw [decide_eq_true e1] at hsB
          have t1 : (S.toList != V.toList) = false := by simp only [bne, hsB]; rfl
          have hs2 := Lib.hid (hs e1)
          clear hs hn' e1 hyes
          go_wp2
          go_quiet (fail)
          go_wp2
          rename_i nq _
          go_roundw
          case rel => exact ⟨k + 1, by go_num, by omega, hs2, Lib.hid (by obtain ⟨q, e⟩ := hw.out; exact ⟨q + nq, by rw [e, World.drewN_drewN]⟩)⟩
          case measure => simp [intOf]; omega
        · rw [decide_eq_false e1] at hsB
          have t1 : (S.toList != V.toList) = true := by simp only [bne, hsB]; rfl
          have hfin := Lib.hid (hn' e1)
          clear hs hn' e1 hyes
          go_wp2
          go_quiet (fail)
          go_wp2
          rename_i nq _
          go_ret
          exact ⟨ret_bool hfin.out.symm, by obtain ⟨q, e⟩ := hw.out; exact ⟨q + nq, by rw [e, World.drewN_drewN]⟩⟩
      · obtain rfl : k = n := by omega
        have dk : decide ((k : Int) < (k : Int)) = false := decide_eq_false (by omega)
        have hfin := Lib.hid (hyes.out hI.out)
        clear hyes hno hga hgb hI
        go_wp2
        go_ret
        exact ⟨ret_bool hfin.out.symm, hw.out⟩
  · have t1 : ((n : Int) != (m : Int)) = true := bne_iff_ne.2 (by omega)
    have hne : Hid (bq = false) := Lib.hid (by rw [← hbq]; exact decide_eq_false (fun h => e (by rw [← h1, ← h2, h])))
    clear hA hB h1 h2 e hbq
    go_enter Tryd.func17, Tryd.ntmps17
    go_wp2
    go_ret
    exact ⟨ret_bool hne.out.symm, 0, rfl⟩
end Go.Proofs.YthmgocjmfhpafaaDoor.A18
