/- Equal rows of names and arrays, as the reference and the landed code find out (layer 20). Equal expressions, as the reference finds out (layer 20). Sizes and well-formed parts of statements (layer 20). -/
import Derived.Test.YtpbcncfbfbghcaaGreatDoorP20G
import Derived.Laws.StructEq
import Derived.BigQuiet
import Derived.Deep.QuietTactic
namespace Go.Proofs.YtpbcncfbfbghcaaGreatDoor.L20
set_option maxRecDepth 100000
open Go.RowKit Mem L19
set_option linter.unusedVariables false
set_option linter.unusedSimpArgs false

theorem str_inj2 (a b : List UInt8) : ((⟨a.toArray⟩ : ByteArray).toList == (⟨b.toArray⟩ : ByteArray).toList) = decide (a = b) := by
  rw [str_toList, str_toList, Bool.eq_iff_iff, beq_iff_eq, decide_eq_true_iff]
theorem take_same {α : Type} {l m : List α} {k : Nat} {x : α} (h : l.take k = m.take k) (h1 : l[k]? = some x) (h2 : m[k]? = some x) : l.take (k + 1) = m.take (k + 1) := by
  rw [List.take_add_one, List.take_add_one, h, h1, h2]
theorem take_diff {α : Type} {l m : List α} {k : Nat} {x y : α} (h1 : l[k]? = some x) (h2 : m[k]? = some y) (hxy : x ≠ y) : l ≠ m := fun e => by
  subst e
  rw [h1] at h2
  injection h2 with h2
  exact hxy h2
theorem take_eq {α : Type} {l m : List α} {n : Nat} (h : l.take n = m.take n) (h1 : l.length = n) (h2 : m.length = n) : l = m := by
  rw [List.take_of_length_le (by omega), List.take_of_length_le (by omega)] at h
  exact h
set_option maxHeartbeats 8000000 in
theorem refNames {A B : Option Addr} {ca cb : Nat} {F G : Nat → Prop} {l r : List Str} {w : World} (hA : StrsF w F l A ca) (hB : StrsF w G r B cb) {n m : Nat} (hn : l.length = n) (hm : r.length = m) :
    Calls Tryz.prog 40 #[.slice A n ca, .slice B m cb] w fun e w' => e = .returned (.bool (decide (l = r))) ∧ ∃ q, w' = w.drewN q := by
  have hml : maxLen = 9223372036854775807 := rfl
  have hle := RowA.le hA
  have hle2 := RowA.capm hA
  have hle3 := RowA.le hB
  have hle4 := RowA.capm hB
  rw [hml] at hle2 hle4
  obtain ⟨bq, hbq⟩ : ∃ bq, decide (l = r) = bq := ⟨_, rfl⟩
  rw [hbq]
  by_cases e : n = m
  · subst e
    have hga := Lib.hid (fun (k : Nat) (x : Str) (hk : l[k]? = some x) => StrsF.at hA hk)
    have hgb := Lib.hid (fun (k : Nat) (x : Str) (hk : r[k]? = some x) => StrsF.at hB hk)
    have hyes := Lib.hid (fun (h : l.take n = r.take n) => show bq = true by rw [← hbq]; exact decide_eq_true (take_eq h hn hm))
    have hno := Lib.hid (fun (k : Nat) (x y : Str) (h1 : l[k]? = some x) (h2 : r[k]? = some y) (h : x ≠ y) => show bq = false by rw [← hbq]; exact decide_eq_false (take_diff h1 h2 h))
    have d0 : ((n : Int) != (n : Int)) = false := by simp
    clear hA hB hbq
    go_enter Tryz.func40, Tryz.ntmps40
    go_wp2
    go_loopw [5] (fun iv wr => ∃ (k : Nat), iv = .int .i64 (k : Int) ∧ k ≤ n ∧ Hid (l.take k = r.take k) ∧ Hid (∃ q, wr = w.drewN q)) (fun iv _ => n - (intOf iv).toNat)
    case atStart => exact ⟨0, rfl, Nat.zero_le _, Lib.hid (by simp), Lib.hid ⟨0, rfl⟩⟩
    case round =>
      obtain ⟨k, rfl, hk, hI, hw⟩ := hrel
      by_cases hlt : k < n
      · have dk : decide ((k : Int) < (n : Int)) = true := decide_eq_true (by omega)
        have k0 : (0 : Int) ≤ (k : Int) := by omega
        have k1 : (k : Int) < (n : Int) := by omega
        have k2 : (k : Int) + 1 ≤ 9223372036854775807 := by omega
        obtain ⟨T, hT⟩ : ∃ x, l[k]? = some x := ⟨_, List.getElem?_eq_getElem (by omega)⟩
        obtain ⟨U, hU⟩ : ∃ x, r[k]? = some x := ⟨_, List.getElem?_eq_getElem (by omega)⟩
        obtain ⟨b1, o1, rfl, _, _, g1⟩ := hga.out k _ hT
        obtain ⟨b2, o2, rfl, _, _, g3⟩ := hgb.out k _ hU
        have hs : T = U → l.take (k + 1) = r.take (k + 1) := fun h => take_same hI.out hT (by rw [hU, h])
        have hn' : T ≠ U → bq = false := hno.out k _ _ hT hU
        have hsB := str_inj2 T U
        unfold strV at g1 g3
        obtain ⟨S, hS⟩ : ∃ S : ByteArray, ⟨T.toArray⟩ = S := ⟨_, rfl⟩
        obtain ⟨V, hV⟩ : ∃ S : ByteArray, ⟨U.toArray⟩ = S := ⟨_, rfl⟩
        rw [hS] at g1 hsB
        rw [hV] at g3 hsB
        have g1 : wr.cell? ⟨b1, o1 + k, none⟩ = some (.string S) := by obtain ⟨q, e⟩ := hw.out; rw [e]; exact g1
        have g3 : wr.cell? ⟨b2, o2 + k, none⟩ = some (.string V) := by obtain ⟨q, e⟩ := hw.out; rw [e]; exact g3
        clear hS hV hga hgb hno hI hT hU
        by_cases e1 : T = U
        · rw [decide_eq_true e1] at hsB
          have hs2 := Lib.hid (hs e1)
          clear hs hn' e1 hyes
          go_wp2
          go_quiet (fail)
          go_wp2
          rename_i nq _
          go_roundw
          case rel => exact ⟨k + 1, by go_num, by omega, hs2, Lib.hid (by obtain ⟨q, e⟩ := hw.out; exact ⟨q + nq, by rw [e, World.drewN_drewN]⟩)⟩
          case measure => simp [intOf]; omega
        · rw [decide_eq_false e1] at hsB
          have hfin := Lib.hid (hn' e1)
          clear hs hn' e1 hyes
          go_wp2
          go_quiet (fail)
          go_wp2
          rename_i nq _
          go_ret
          exact ⟨ret_bool hfin.out.symm, by obtain ⟨q, e⟩ := hw.out; exact ⟨q + nq, by rw [e, World.drewN_drewN]⟩⟩
      · obtain rfl : k = n := by omega
        have dk : decide ((k : Int) < (k : Int)) = false := decide_eq_false (by omega)
        have hfin := Lib.hid (hyes.out hI.out)
        clear hyes hno hga hgb hI
        go_wp2
        go_ret
        exact ⟨ret_bool hfin.out.symm, hw.out⟩
  · have t1 : ((n : Int) != (m : Int)) = true := bne_iff_ne.2 (by omega)
    have hne : Hid (bq = false) := Lib.hid (by rw [← hbq]; exact decide_eq_false (fun h => e (by rw [← hn, ← hm, h])))
    clear hA hB e hbq
    go_enter Tryz.func40, Tryz.ntmps40
    go_wp2
    go_ret
    exact ⟨ret_bool hne.out.symm, 0, rfl⟩
set_option maxHeartbeats 8000000 in
theorem eqNames {A B : Option Addr} {ca cb : Nat} {F G : Nat → Prop} {l r : List Str} {w : World} (hA : StrsF w F l A ca) (hB : StrsF w G r B cb) {n m : Nat} (hn : l.length = n) (hm : r.length = m) :
    Calls Tryz.prog 50 #[.slice A n ca, .slice B m cb] w fun e w' => e = .returned (.bool (decide (l = r))) ∧ ∃ q, w' = w.drewN q := by
  have hml : maxLen = 9223372036854775807 := rfl
  have hle := RowA.le hA
  have hle2 := RowA.capm hA
  have hle3 := RowA.le hB
  have hle4 := RowA.capm hB
  rw [hml] at hle2 hle4
  obtain ⟨bq, hbq⟩ : ∃ bq, decide (l = r) = bq := ⟨_, rfl⟩
  rw [hbq]
  by_cases e : n = m
  · subst e
    have hga := Lib.hid (fun (k : Nat) (x : Str) (hk : l[k]? = some x) => StrsF.at hA hk)
    have hgb := Lib.hid (fun (k : Nat) (x : Str) (hk : r[k]? = some x) => StrsF.at hB hk)
    have hyes := Lib.hid (fun (h : l.take n = r.take n) => show bq = true by rw [← hbq]; exact decide_eq_true (take_eq h hn hm))
    have hno := Lib.hid (fun (k : Nat) (x y : Str) (h1 : l[k]? = some x) (h2 : r[k]? = some y) (h : x ≠ y) => show bq = false by rw [← hbq]; exact decide_eq_false (take_diff h1 h2 h))
    have d0 : ((n : Int) != (n : Int)) = false := by simp
    clear hA hB hbq
    go_enter Tryz.func50, Tryz.ntmps50
    go_wp2
    go_loopw [13] (fun iv wr => ∃ (k : Nat), iv = .int .i64 (k : Int) ∧ k ≤ n ∧ Hid (l.take k = r.take k) ∧ Hid (∃ q, wr = w.drewN q)) (fun iv _ => n - (intOf iv).toNat)
    case atStart => exact ⟨0, rfl, Nat.zero_le _, Lib.hid (by simp), Lib.hid ⟨0, rfl⟩⟩
    case round =>
      obtain ⟨k, rfl, hk, hI, hw⟩ := hrel
      by_cases hlt : k < n
      · have dk : decide ((k : Int) < (n : Int)) = true := decide_eq_true (by omega)
        have k0 : (0 : Int) ≤ (k : Int) := by omega
        have k1 : (k : Int) < (n : Int) := by omega
        have k2 : (k : Int) + 1 ≤ 9223372036854775807 := by omega
        obtain ⟨T, hT⟩ : ∃ x, l[k]? = some x := ⟨_, List.getElem?_eq_getElem (by omega)⟩
        obtain ⟨U, hU⟩ : ∃ x, r[k]? = some x := ⟨_, List.getElem?_eq_getElem (by omega)⟩
        obtain ⟨b1, o1, rfl, _, _, g1⟩ := hga.out k _ hT
        obtain ⟨b2, o2, rfl, _, _, g3⟩ := hgb.out k _ hU
        have hs : T = U → l.take (k + 1) = r.take (k + 1) := fun h => take_same hI.out hT (by rw [hU, h])
        have hn' : T ≠ U → bq = false := hno.out k _ _ hT hU
        have hsB := str_inj2 T U
        unfold strV at g1 g3
        obtain ⟨S, hS⟩ : ∃ S : ByteArray, ⟨T.toArray⟩ = S := ⟨_, rfl⟩
        obtain ⟨V, hV⟩ : ∃ S : ByteArray, ⟨U.toArray⟩ = S := ⟨_, rfl⟩
        rw [hS] at g1 hsB
        rw [hV] at g3 hsB
        have g1 : wr.cell? ⟨b1, o1 + k, none⟩ = some (.string S) := by obtain ⟨q, e⟩ := hw.out; rw [e]; exact g1
        have g3 : wr.cell? ⟨b2, o2 + k, none⟩ = some (.string V) := by obtain ⟨q, e⟩ := hw.out; rw [e]; exact g3
        clear hS hV hga hgb hno hI hT hU
        by_cases e1 : T = U
        · rw [decide_eq_true e1] at hsB
          have hs2 := Lib.hid (hs e1)
          clear hs hn' e1 hyes
          go_wp2
          go_quiet (fail)
          go_wp2
          rename_i nq _
          go_roundw
          case rel => exact ⟨k + 1, by go_num, by omega, hs2, Lib.hid (by obtain ⟨q, e⟩ := hw.out; exact ⟨q + nq, by rw [e, World.drewN_drewN]⟩)⟩
          case measure => simp [intOf]; omega
        · rw [decide_eq_false e1] at hsB
          have hfin := Lib.hid (hn' e1)
          clear hs hn' e1 hyes
          go_wp2
          go_quiet (fail)
          go_wp2
          rename_i nq _
          go_ret
          exact ⟨ret_bool hfin.out.symm, by obtain ⟨q, e⟩ := hw.out; exact ⟨q + nq, by rw [e, World.drewN_drewN]⟩⟩
      · obtain rfl : k = n := by omega
        have dk : decide ((k : Int) < (k : Int)) = false := decide_eq_false (by omega)
        have hfin := Lib.hid (hyes.out hI.out)
        clear hyes hno hga hgb hI
        go_wp2
        go_ret
        exact ⟨ret_bool hfin.out.symm, hw.out⟩
  · have t1 : ((n : Int) != (m : Int)) = true := bne_iff_ne.2 (by omega)
    have hne : Hid (bq = false) := Lib.hid (by rw [← hbq]; exact decide_eq_false (fun h => e (by rw [← hn, ← hm, h])))
    clear hA hB e hbq
    go_enter Tryz.func50, Tryz.ntmps50
    go_wp2
    go_ret
    exact ⟨ret_bool hne.out.symm, 0, rfl⟩
set_option maxHeartbeats 8000000 in
theorem eqArrs {A B : Option Addr} {ca cb : Nat} {F G : Nat → Prop} {l r : List (Str × Nat)} {w : World} (hA : ArrsF w F l A ca) (hB : ArrsF w G r B cb) {n m : Nat} (hn : l.length = n) (hm : r.length = m) :
    Calls Tryz.prog 51 #[.slice A n ca, .slice B m cb] w fun e w' => e = .returned (.bool (decide (l = r))) ∧ ∃ q, w' = w.drewN q := by
  have hml : maxLen = 9223372036854775807 := rfl
  have hle := RowA.le hA
  have hle2 := RowA.capm hA
  have hle3 := RowA.le hB
  have hle4 := RowA.capm hB
  rw [hml] at hle2 hle4
  obtain ⟨bq, hbq⟩ : ∃ bq, decide (l = r) = bq := ⟨_, rfl⟩
  rw [hbq]
  by_cases e : n = m
  · subst e
    have hga := Lib.hid (fun (k : Nat) (x : Str × Nat) (hk : l[k]? = some x) => ArrsF.at hA hk)
    have hgb := Lib.hid (fun (k : Nat) (x : Str × Nat) (hk : r[k]? = some x) => ArrsF.at hB hk)
    have hyes := Lib.hid (fun (h : l.take n = r.take n) => show bq = true by rw [← hbq]; exact decide_eq_true (take_eq h hn hm))
    have hno := Lib.hid (fun (k : Nat) (x y : Str × Nat) (h1 : l[k]? = some x) (h2 : r[k]? = some y) (h : x ≠ y) => show bq = false by rw [← hbq]; exact decide_eq_false (take_diff h1 h2 h))
    have d0 : ((n : Int) != (n : Int)) = false := by simp
    clear hA hB hbq
    go_enter Tryz.func51, Tryz.ntmps51
    go_wp2
    go_loopw [13] (fun iv wr => ∃ (k : Nat), iv = .int .i64 (k : Int) ∧ k ≤ n ∧ Hid (l.take k = r.take k) ∧ Hid (∃ q, wr = w.drewN q)) (fun iv _ => n - (intOf iv).toNat)
    case atStart => exact ⟨0, rfl, Nat.zero_le _, Lib.hid (by simp), Lib.hid ⟨0, rfl⟩⟩
    case round =>
      obtain ⟨k, rfl, hk, hI, hw⟩ := hrel
      by_cases hlt : k < n
      · have dk : decide ((k : Int) < (n : Int)) = true := decide_eq_true (by omega)
        have k0 : (0 : Int) ≤ (k : Int) := by omega
        have k1 : (k : Int) < (n : Int) := by omega
        have k2 : (k : Int) + 1 ≤ 9223372036854775807 := by omega
        obtain ⟨⟨T, z⟩, hT⟩ : ∃ x, l[k]? = some x := ⟨_, List.getElem?_eq_getElem (by omega)⟩
        obtain ⟨⟨U, y⟩, hU⟩ : ∃ x, r[k]? = some x := ⟨_, List.getElem?_eq_getElem (by omega)⟩
        obtain ⟨b1, o1, rfl, _, _, g1, g2⟩ := hga.out k _ hT
        obtain ⟨b2, o2, rfl, _, _, g3, g4⟩ := hgb.out k _ hU
        have hs : (T, z) = (U, y) → l.take (k + 1) = r.take (k + 1) := fun h => take_same hI.out hT (by rw [hU, h])
        have hn' : (T, z) ≠ (U, y) → bq = false := hno.out k _ _ hT hU
        have hsB := str_inj2 T U
        unfold strV at g1 g3
        obtain ⟨S, hS⟩ : ∃ S : ByteArray, ⟨T.toArray⟩ = S := ⟨_, rfl⟩
        obtain ⟨V, hV⟩ : ∃ S : ByteArray, ⟨U.toArray⟩ = S := ⟨_, rfl⟩
        rw [hS] at g1 hsB
        rw [hV] at g3 hsB
        have g1 : wr.cell? ⟨b1, o1 + k * 2, none⟩ = some (.string S) := by obtain ⟨q, e⟩ := hw.out; rw [e]; exact g1
        have g3 : wr.cell? ⟨b2, o2 + k * 2, none⟩ = some (.string V) := by obtain ⟨q, e⟩ := hw.out; rw [e]; exact g3
        have g2 : wr.cell? ⟨b1, o1 + k * 2 + 1, none⟩ = some (.int .i64 (z : Int)) := by obtain ⟨q, e⟩ := hw.out; rw [e]; exact g2
        have g4 : wr.cell? ⟨b2, o2 + k * 2 + 1, none⟩ = some (.int .i64 (y : Int)) := by obtain ⟨q, e⟩ := hw.out; rw [e]; exact g4
        clear hS hV hga hgb hno hI hT hU
        by_cases e1 : T = U
        · rw [decide_eq_true e1] at hsB
          by_cases e2 : z = y
          · have t2 : ((z : Int) == (y : Int)) = true := by rw [beq_iff_eq]; omega
            have hs2 := Lib.hid (hs (by rw [e1, e2]))
            clear hs hn' e1 e2 hyes
            go_wp2
            go_quiet (fail)
            go_wp2
            rename_i nq _
            go_roundw
            case rel => exact ⟨k + 1, by go_num, by omega, hs2, Lib.hid (by obtain ⟨q, e⟩ := hw.out; exact ⟨q + nq, by rw [e, World.drewN_drewN]⟩)⟩
            case measure => simp [intOf]; omega
          · have t2 : ((z : Int) == (y : Int)) = false := by rw [beq_eq_false_iff_ne]; omega
            have hfin := Lib.hid (hn' (fun h => e2 (by injection h)))
            clear hs hn' e1 e2 hyes
            go_wp2
            go_quiet (fail)
            go_wp2
            rename_i nq _
            go_ret
            exact ⟨ret_bool hfin.out.symm, by obtain ⟨q, e⟩ := hw.out; exact ⟨q + nq, by rw [e, World.drewN_drewN]⟩⟩
        · rw [decide_eq_false e1] at hsB
          have hfin := Lib.hid (hn' (fun h => e1 (by injection h)))
          clear hs hn' e1 hyes
          go_wp2
          go_quiet (fail)
          go_wp2
          rename_i nq _
          go_ret
          exact ⟨ret_bool hfin.out.symm, by obtain ⟨q, e⟩ := hw.out; exact ⟨q + nq, by rw [e, World.drewN_drewN]⟩⟩
      · obtain rfl : k = n := by omega
        have dk : decide ((k : Int) < (k : Int)) = false := decide_eq_false (by omega)
        have hfin := Lib.hid (hyes.out hI.out)
        clear hyes hno hga hgb hI
        go_wp2
        go_ret
        exact ⟨ret_bool hfin.out.symm, hw.out⟩
  · have t1 : ((n : Int) != (m : Int)) = true := bne_iff_ne.2 (by omega)
    have hne : Hid (bq = false) := Lib.hid (by rw [← hbq]; exact decide_eq_false (fun h => e (by rw [← hn, ← hm, h])))
    clear hA hB e hbq
    go_enter Tryz.func51, Tryz.ntmps51
    go_wp2
    go_ret
    exact ⟨ret_bool hne.out.symm, 0, rfl⟩
end Go.Proofs.YtpbcncfbfbghcaaGreatDoor.L20
namespace Go.Proofs.YtpbcncfbfbghcaaGreatDoor.L20
set_option maxRecDepth 100000
open Go.RowKit Mem L19
set_option linter.unusedVariables false
set_option linter.unusedSimpArgs false

theorem ex_bool (p : Prop) : ∃ b : Bool, b = true ↔ p := by
  by_cases h : p
  · exact ⟨true, by simp [h]⟩
  · exact ⟨false, by simp [h]⟩
mutual
def szE : Exp → Nat
  | .num _ => 1
  | .var _ => 1
  | .elem _ i => szE i + 3
  | .call _ l => szL l + 1
  | .un _ x => szE x + 3
  | .bin _ x y => szE x + szE y + 5
def szL : List Exp → Nat
  | [] => 0
  | x :: r => szE x + szL r + 1
end
theorem sz_kids (x : Exp) : szL x.kids < szE x := by
  cases x <;> simp only [Exp.kids, szE, szL] <;> omega
theorem sz_mem : ∀ (l : List Exp) (k : Nat) (x : Exp), l[k]? = some x → szE x < szL l
  | [], k, x, h => by simp at h
  | y :: r, 0, x, h => by
    simp at h
    subst h
    rw [szL]; omega
  | y :: r, k + 1, x, h => by
    have := sz_mem r k x (by simpa using h)
    rw [szL]; omega
def WfL (l : List Exp) : Prop := ∀ x ∈ l, Wf x
theorem wf_kids {x : Exp} (h : Wf x) : WfL x.kids := by
  intro y hy
  cases x with
  | num n => cases hy
  | var n => cases hy
  | elem s i => rw [Wf] at h; simp [Exp.kids] at hy; subst hy; exact h.2
  | call s l => rw [Wf] at h; exact h.2.mem y hy
  | un op x => rw [Wf] at h; simp [Exp.kids] at hy; subst hy; exact h.2
  | bin op a b =>
    rw [Wf] at h
    simp [Exp.kids] at hy
    rcases hy with rfl | rfl
    · exact h.2.1
    · exact h.2.2
set_option maxHeartbeats 8000000 in
theorem refExprs : ∀ (d : Nat) {A B : Option Addr} {ca cb : Nat} {F G : Nat → Prop} {l r : List Exp} {w : World} (hd : szL l < d) (hA : Exs w F l A ca) (hB : Exs w G r B cb) (wl : WfL l) (wr' : WfL r) {n m : Nat} (hn : l.length = n) (hm : r.length = m) {bq : Bool} (hbq : bq = true ↔ l = r),
    Calls Tryz.prog 70 #[.slice A n ca, .slice B m cb] w fun e w' => e = .returned (.bool bq) ∧ ∃ q, w' = w.drewN q := by
  intro d
  induction d with
  | zero => intro A B ca cb F G l r w hd; omega
  | succ d ih =>
  intro A B ca cb F G l r w hd hA hB wl wr' n m hn hm bq hbq
  have hml : maxLen = 9223372036854775807 := rfl
  have hle := hA.le
  have hle3 := hB.le
  rw [hml] at hle hle3
  by_cases e : n = m
  · subst e
    have hga := Lib.hid (fun (k : Nat) (x : Exp) (hk : l[k]? = some x) => hA.at hk)
    have hgb := Lib.hid (fun (k : Nat) (x : Exp) (hk : r[k]? = some x) => hB.at hk)
    have hyes := Lib.hid (fun (h : l.take n = r.take n) => show bq = true by rw [hbq]; exact take_eq h hn hm)
    have hno := Lib.hid (fun (k : Nat) (x y : Exp) (h1 : l[k]? = some x) (h2 : r[k]? = some y) (h : x ≠ y) => show bq = false by rw [← Bool.not_eq_true, hbq]; exact take_diff h1 h2 h)
    have d0 : ((n : Int) != (n : Int)) = false := by simp
    clear hA hB hbq
    go_enter Tryz.func70, Tryz.ntmps70
    go_wp2
    go_loopw [5] (fun iv wr => ∃ (k : Nat), iv = .int .i64 (k : Int) ∧ k ≤ n ∧ Hid (l.take k = r.take k) ∧ Hid (∃ q, wr = w.drewN q)) (fun iv _ => n - (intOf iv).toNat)
    case atStart => exact ⟨0, rfl, Nat.zero_le _, Lib.hid (by simp), Lib.hid ⟨0, rfl⟩⟩
    case round =>
      obtain ⟨k, rfl, hk, hI, hw⟩ := hrel
      by_cases hlt : k < n
      · have dk : decide ((k : Int) < (n : Int)) = true := decide_eq_true (by omega)
        have k0 : (0 : Int) ≤ (k : Int) := by omega
        have k1 : (k : Int) < (n : Int) := by omega
        have k2 : (k : Int) + 1 ≤ 9223372036854775807 := by omega
        obtain ⟨x, hT⟩ : ∃ x, l[k]? = some x := ⟨_, List.getElem?_eq_getElem (by omega)⟩
        obtain ⟨y, hU⟩ : ∃ x, r[k]? = some x := ⟨_, List.getElem?_eq_getElem (by omega)⟩
        obtain ⟨b1, o1, A', ca', rfl, _, _, kx, g1, g2, g3, g4⟩ := hga.out k _ hT
        obtain ⟨b2, o2, B', cb', rfl, _, _, ky, q1, q2, q3, q4⟩ := hgb.out k _ hU
        have hx := wl x (List.mem_of_getElem? hT)
        have hy := wr' y (List.mem_of_getElem? hU)
        have hs : x = y → l.take (k + 1) = r.take (k + 1) := fun h => take_same hI.out hT (by rw [hU, h])
        have hn' : x ≠ y → bq = false := hno.out k _ _ hT hU
        have hsz := sz_mem l k x hT
        have hsk := sz_kids x
        obtain ⟨bk, hbk⟩ := ex_bool (x.kids = y.kids)
        obtain ⟨lx, hlx⟩ : ∃ lx, x.kids.length = lx := ⟨_, rfl⟩
        obtain ⟨ly, hly⟩ : ∃ lx, y.kids.length = lx := ⟨_, rfl⟩
        have cK : Hid (∀ j, Calls Tryz.prog 70 #[.slice A' lx ca', .slice B' ly cb'] (wr.drewN j) fun e w' => e = .returned (.bool bk) ∧ ∃ q, w' = (wr.drewN j).drewN q) := Lib.hid fun j => by
          obtain ⟨q, e⟩ := hw.out
          have kp : ∀ F, Kept F w (wr.drewN j) := fun F => by rw [e, World.drewN_drewN]; exact ⟨Nat.le_refl _, fun _ _ _ => rfl⟩
          exact ih (by omega) (kx.keep (kp _)) (ky.keep (kp _)) (wf_kids hx) (wf_kids hy) hlx hly hbk
        rw [hlx] at g4
        rw [hly] at q4
        have o1' := str_inj2 x.opS y.opS
        have o3' := str_inj2 x.nam y.nam
        unfold strV at g1 q1 g3 q3
        obtain ⟨S1, hS1⟩ : ∃ S : ByteArray, ⟨x.opS.toArray⟩ = S := ⟨_, rfl⟩
        obtain ⟨V1, hV1⟩ : ∃ S : ByteArray, ⟨y.opS.toArray⟩ = S := ⟨_, rfl⟩
        obtain ⟨S3, hS3⟩ : ∃ S : ByteArray, ⟨x.nam.toArray⟩ = S := ⟨_, rfl⟩
        obtain ⟨V3, hV3⟩ : ∃ S : ByteArray, ⟨y.nam.toArray⟩ = S := ⟨_, rfl⟩
        rw [hS1, hV1] at o1'
        rw [hS3, hV3] at o3'
        rw [hS1] at g1
        rw [hV1] at q1
        rw [hS3] at g3
        rw [hV3] at q3
        obtain ⟨zx, hzx⟩ : ∃ z : Int, (x.numI : Int) = z := ⟨_, rfl⟩
        obtain ⟨zy, hzy⟩ : ∃ z : Int, (y.numI : Int) = z := ⟨_, rfl⟩
        rw [hzx] at g2
        rw [hzy] at q2
        have mv : ∀ (b o : Nat) (v : Value), w.cell? ⟨b, o, none⟩ = some v → wr.cell? ⟨b, o, none⟩ = some v := fun b o v h => by obtain ⟨q, e⟩ := hw.out; rw [e]; exact h
        have g1 := mv _ _ _ g1
        have g2 := mv _ _ _ g2
        have g3 := mv _ _ _ g3
        have g4 := mv _ _ _ g4
        have q1 := mv _ _ _ q1
        have q2 := mv _ _ _ q2
        have q3 := mv _ _ _ q3
        have q4 := mv _ _ _ q4
        clear mv hS1 hV1 hS3 hV3 hga hgb hno hI hT hU kx ky hlx hly
        by_cases e1 : x.opS = y.opS
        · rw [decide_eq_true e1] at o1'
          by_cases e2 : x.numI = y.numI
          · have t2 : (zx != zy) = false := by rw [bne_eq_false_iff_eq]; omega
            by_cases e3 : x.nam = y.nam
            · rw [decide_eq_true e3] at o3'
              rcases bk with _ | _
              · have hfin := Lib.hid (hn' (fun h => by have := hbk.2 (by rw [h]); cases this))
                clear hs hn' e1 e2 e3 hyes hbk hx hy
                go_wp2
                go_quiet ((go_at_call 70; exact Calls.quiet_of (cK.out _)))
                go_wp2
                rename_i nq _
                go_ret
                exact ⟨ret_bool hfin.out.symm, by obtain ⟨q, e⟩ := hw.out; exact ⟨q + nq, by rw [e, World.drewN_drewN]⟩⟩
              · have hs2 := Lib.hid (hs (opS_inj hx hy e1 e2 e3 (hbk.1 rfl)))
                clear hs hn' e1 e2 e3 hyes hbk hx hy
                go_wp2
                go_quiet ((go_at_call 70; exact Calls.quiet_of (cK.out _)))
                go_wp2
                rename_i nq _
                go_roundw
                case rel => exact ⟨k + 1, by go_num, by omega, hs2, Lib.hid (by obtain ⟨q, e⟩ := hw.out; exact ⟨q + nq, by rw [e, World.drewN_drewN]⟩)⟩
                case measure => simp [intOf]; omega
            · rw [decide_eq_false e3] at o3'
              have hfin := Lib.hid (hn' (fun h => e3 (by rw [h])))
              clear hs hn' e1 e2 e3 hyes hbk hx hy
              go_wp2
              go_quiet (fail)
              go_wp2
              rename_i nq _
              go_ret
              exact ⟨ret_bool hfin.out.symm, by obtain ⟨q, e⟩ := hw.out; exact ⟨q + nq, by rw [e, World.drewN_drewN]⟩⟩
          · have t2 : (zx != zy) = true := bne_iff_ne.2 (by omega)
            have hfin := Lib.hid (hn' (fun h => e2 (by rw [h])))
            clear hs hn' e1 e2 hyes hbk hx hy
            go_wp2
            go_quiet (fail)
            go_wp2
            rename_i nq _
            go_ret
            exact ⟨ret_bool hfin.out.symm, by obtain ⟨q, e⟩ := hw.out; exact ⟨q + nq, by rw [e, World.drewN_drewN]⟩⟩
        · rw [decide_eq_false e1] at o1'
          have hfin := Lib.hid (hn' (fun h => e1 (by rw [h])))
          clear hs hn' e1 hyes hbk hx hy
          go_wp2
          go_quiet (fail)
          go_wp2
          rename_i nq _
          go_ret
          exact ⟨ret_bool hfin.out.symm, by obtain ⟨q, e⟩ := hw.out; exact ⟨q + nq, by rw [e, World.drewN_drewN]⟩⟩
      · obtain rfl : k = n := by omega
        have dk : decide ((k : Int) < (k : Int)) = false := decide_eq_false (by omega)
        have hfin := Lib.hid (hyes.out hI.out)
        clear hyes hno hga hgb hI
        go_wp2
        go_ret
        exact ⟨ret_bool hfin.out.symm, hw.out⟩
  · have t1 : ((n : Int) != (m : Int)) = true := bne_iff_ne.2 (by omega)
    have hne : Hid (bq = false) := Lib.hid (by rw [← Bool.not_eq_true, hbq]; exact fun h => e (by rw [← hn, ← hm, h]))
    clear hA hB e hbq
    go_enter Tryz.func70, Tryz.ntmps70
    go_wp2
    go_ret
    exact ⟨ret_bool hne.out.symm, 0, rfl⟩
end Go.Proofs.YtpbcncfbfbghcaaGreatDoor.L20
namespace Go.Proofs.YtpbcncfbfbghcaaGreatDoor.L20
set_option maxRecDepth 100000
open Go.RowKit Mem L19
set_option linter.unusedVariables false
set_option linter.unusedSimpArgs false

mutual
def szS : Sta → Nat
  | .asg _ _ => 1
  | .sto _ _ _ => 1
  | .ifs _ a b => szT a + szT b + 1
  | .whl _ a => szT a + 1
  | .ret _ => 1
  | .cal _ _ => 1
  | .hlt => 1
def szT : List Sta → Nat
  | [] => 0
  | x :: r => szS x + szT r + 1
end
theorem sz_sub (x : Sta) : szT x.thn < szS x ∧ szT x.els < szS x := by
  cases x <;> simp only [Sta.thn, Sta.els, szS, szT] <;> omega
theorem sz_smem : ∀ (l : List Sta) (k : Nat) (x : Sta), l[k]? = some x → szS x < szT l
  | [], k, x, h => by simp at h
  | y :: r, 0, x, h => by
    simp at h
    subst h
    rw [szT]; omega
  | y :: r, k + 1, x, h => by
    have := sz_smem r k x (by simpa using h)
    rw [szT]; omega
def WfT (l : List Sta) : Prop := ∀ x ∈ l, Wfs x
theorem wft_of : ∀ {l : List Sta}, Wfsl l → WfT l
  | [], _ => fun x hx => by cases hx
  | s :: r, h => fun x hx => by
    rw [Wfsl] at h
    rcases List.mem_cons.1 hx with rfl | hx
    · exact h.1
    · exact wft_of h.2 x hx
theorem wf_one {x : Exp} (h : Wf x) : WfL [x] := fun y hy => by rw [List.mem_singleton.1 hy]; exact h
theorem wf_none : WfL [] := fun y hy => by cases hy
theorem wft_none : WfT [] := fun y hy => by cases hy
theorem wf_sub {x : Sta} (h : Wfs x) : WfL x.idx ∧ WfL x.val ∧ WfT x.thn ∧ WfT x.els := by
  cases x with
  | asg s a => rw [Wfs] at h; exact ⟨wf_none, wf_one h.2, wft_none, wft_none⟩
  | sto s i a => rw [Wfs] at h; exact ⟨wf_one h.2.1, wf_one h.2.2, wft_none, wft_none⟩
  | ifs a t e => rw [Wfs] at h; exact ⟨wf_none, wf_one h.1, wft_of h.2.1, wft_of h.2.2⟩
  | whl a t => rw [Wfs] at h; exact ⟨wf_none, wf_one h.1, wft_of h.2, wft_none⟩
  | ret a => rw [Wfs] at h; exact ⟨wf_none, wf_one h, wft_none, wft_none⟩
  | cal s l => rw [Wfs] at h; exact ⟨wf_none, wf_one h, wft_none, wft_none⟩
  | hlt => exact ⟨wf_none, wf_none, wft_none, wft_none⟩
end Go.Proofs.YtpbcncfbfbghcaaGreatDoor.L20
