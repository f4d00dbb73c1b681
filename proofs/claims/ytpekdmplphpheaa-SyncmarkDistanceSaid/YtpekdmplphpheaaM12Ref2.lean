/- The contracts of the reference's Distance, IsPlain and Find of layer 12. -/
import Derived.Test.YtpekdmplphpheaaM12Ref
namespace Go.Proofs.Ytpekdmplphpheaa.M12
open Go.RowKit Mem
set_option linter.unusedVariables false
set_option linter.unusedSimpArgs false

theorem rcell_some {c : ByteArray} {i : Int} {j : Nat} (h : i = j) (hj : j < c.size) : rcell c i = c.data.toList[j]'(by rw [size_list]; exact hj) := by
  rw [h]
  unfold rcell
  rw [if_pos (by omega)]
  show (c.data.toList[j]?).getD 0 = _
  rw [List.getElem?_eq_getElem (by rw [size_list]; exact hj)]
  rfl
theorem rcell_none {c : ByteArray} {i : Int} (h : i < 0 ∨ (c.size : Int) ≤ i) : rcell c i = 0 := by
  unfold rcell
  split
  · rw [List.getElem?_eq_none (by rw [size_list]; omega)]
    rfl
  · rfl
theorem none_at {c : ByteArray} {a : Int} {k : Nat} (h : a + k < 0 ∨ (c.size : Int) ≤ a + k) : cellAt c.data.toList a k = none := by
  rcases h with h | h
  · exact cell_neg h
  · exact cell_past (by rw [size_list]; exact h)
theorem pl_cell {k : Nat} (hk : k < 16) : pl[k]'hk = 48 ∨ pl[k]'hk = 49 := by
  have : ∀ k : Fin 16, pl[k.1]'k.2 = 48 ∨ pl[k.1]'k.2 = 49 := by decide
  exact this ⟨k, hk⟩
theorem rmm {c : ByteArray} {a : Int} {k : Nat} (hk : k < 16) : mm c.data.toList a k = (((rcell c (a + k)).toNat : Int) != ((((ByteArray.mk #[49, 49, 49, 49, 49, 48, 48, 49, 49, 48, 49, 48, 49, 48, 48, 48])[k]'hk).toNat : Nat) : Int)) := by
  rw [← u8_neI]
  by_cases h : a + k < 0 ∨ (c.size : Int) ≤ a + k
  · rw [mm_none hk (none_at h), rcell_none h]
    show true = (0 != mk[k]'hk)
    rcases mk_cell hk with e | e <;> rw [e] <;> rfl
  · obtain ⟨j, hj⟩ : ∃ j : Nat, a + (k : Int) = j := ⟨(a + k).toNat, by omega⟩
    have hjs : j < c.size := by omega
    rw [mm_in hk hj (by rw [size_list]; exact hjs), rcell_some hj hjs]
    rfl
theorem rpm {c : ByteArray} {a : Int} {k : Nat} (hk : k < 16) : (!pm c.data.toList a k) = (((rcell c (a + k)).toNat : Int) != ((((ByteArray.mk #[48, 48, 48, 48, 48, 49, 49, 48, 48, 49, 48, 49, 48, 49, 49, 49])[k]'hk).toNat : Nat) : Int)) := by
  rw [← u8_neI]
  by_cases h : a + k < 0 ∨ (c.size : Int) ≤ a + k
  · rw [pm_none hk (none_at h), rcell_none h]
    show true = (0 != pl[k]'hk)
    rcases pl_cell hk with e | e <;> rw [e] <;> rfl
  · obtain ⟨j, hj⟩ : ∃ j : Nat, a + (k : Int) = j := ⟨(a + k).toNat, by omega⟩
    have hjs : j < c.size := by omega
    rw [pm_in hk hj (by rw [size_list]; exact hjs), rcell_some hj hjs]
    rfl
theorem far_cases {l : List UInt8} {a : Int} : (farB l a = true ∧ ds l a = 16 ∧ pp l a = false) ∨ (farB l a = false ∧ -16 ≤ a ∧ a < (l.length : Int)) := by
  unfold farB
  by_cases h : a < -16 ∨ (l.length : Int) ≤ a
  · refine .inl ⟨by rw [Bool.or_eq_true, decide_eq_true_eq, decide_eq_true_eq]; exact h, ds_far (by omega), pp_far (by omega)⟩
  · refine .inr ⟨by rw [Bool.or_eq_false_iff, decide_eq_false_iff_not, decide_eq_false_iff_not]; omega, by omega, by omega⟩
set_option maxRecDepth 100000 in
set_option maxHeartbeats 2000000 in
theorem rdistance_any (c : ByteArray) (a : Int) (w : World) (hc : c.size ≤ 140737488351232) :
    Calls Try.prog 12 #[.string c, .int .i64 a] w fun e w' => e = .returned (.int .i64 (ds c.data.toList a : Int)) ∧ w = w' := by
  have cF := Lib.hid (fun W => rfar_any c a W (by omega))
  have cM := Lib.hid (fun W => rmark_any W)
  rcases far_cases (l := c.data.toList) (a := a) with ⟨h1, h2, _⟩ | ⟨h1, h2, h3⟩
  · rw [h1] at cF
    rw [h2]
    go_enter Try.func12, Try.ntmps12
    go_wp2_with (go_at_call 22; refine (cF.out _).mono ?_; rintro e w1 ⟨rfl, rfl⟩)
    go_ret
    exact ⟨rfl, rfl⟩
  · rw [h1] at cF
    rw [size_list] at h3
    have hmm := fun (k : Nat) (hk : k < 16) => rmm (c := c) (a := a) hk
    have cC := fun (k : Nat) (W : World) => rcell_any c (a + (k : Int)) W (by omega)
    obtain ⟨l, hl⟩ : ∃ l, c.data.toList = l := ⟨_, rfl⟩
    rw [hl] at hmm ⊢
    replace hmm := Lib.hid hmm
    replace cC := Lib.hid cC
    unfold mkB at cM
    clear hl h1
    go_enter Try.func12, Try.ntmps12
    go_wp2_with (go_at_call 22; refine (cF.out _).mono ?_; rintro e w1 ⟨rfl, rfl⟩)
    clear cF
    go_loopw [5, 6] (fun u i wr => ∃ k : Nat, k ≤ 16 ∧ i = .int .i64 k ∧ u = .int .i64 (dsTo l a k) ∧ w = wr) (fun _ i _ => 16 - (intOf i).toNat)
    case atStart => exact ⟨0, Nat.zero_le _, rfl, rfl, rfl⟩
    case round =>
      obtain ⟨k, hk, rfl, rfl, rfl⟩ := hrel
      have hd := dsTo_le l a k
      by_cases hlt : k < 16
      · have hm := hmm.out k hlt
        have cC1 := cC.out k
        obtain ⟨X, hX⟩ : ∃ X, rcell c (a + (k : Int)) = X := ⟨_, rfl⟩
        rw [hX] at hm cC1
        obtain ⟨B, hB⟩ : ∃ B, mm l a k = B := ⟨_, rfl⟩
        rw [hB] at hm
        replace cC1 := Lib.hid cC1
        replace hm := hm.symm
        clear hX hmm cC
        rcases B with _ | _
        · have hn := Lib.hid (dsTo_no hB)
          clear hB
          go_wp2_with fail
          refine (cC1.out _).mono ?_
          rintro e w1 ⟨rfl, rfl⟩
          go_wp2_with (go_at_call 16; refine (cM.out _).mono ?_; rintro e w1 ⟨rfl, rfl⟩)
          go_roundw
          case rel => exact ⟨k + 1, by omega, by go_num, by rw [hn.out], trivial⟩
          case measure => simp [intOf]; omega
        · have hn := Lib.hid (dsTo_yes hB)
          clear hB
          go_wp2_with fail
          refine (cC1.out _).mono ?_
          rintro e w1 ⟨rfl, rfl⟩
          go_wp2_with (go_at_call 16; refine (cM.out _).mono ?_; rintro e w1 ⟨rfl, rfl⟩)
          go_roundw
          case rel => exact ⟨k + 1, by omega, by go_num, by rw [hn.out]; go_num, trivial⟩
          case measure => simp [intOf]; omega
      · obtain rfl : k = 16 := by omega
        go_wp2
        go_ret
        exact ⟨rfl, rfl⟩
set_option maxRecDepth 100000 in
set_option maxHeartbeats 2000000 in
theorem risplain_any (c : ByteArray) (a : Int) (w : World) (hc : c.size ≤ 140737488351232) :
    Calls Try.prog 14 #[.string c, .int .i64 a] w fun e w' => e = .returned (.bool (pp c.data.toList a)) ∧ w = w' := by
  have cF := Lib.hid (fun W => rfar_any c a W (by omega))
  have cM := Lib.hid (fun W => rplain_any W)
  rcases far_cases (l := c.data.toList) (a := a) with ⟨h1, _, h2⟩ | ⟨h1, h2, h3⟩
  · rw [h1] at cF
    rw [h2]
    go_enter Try.func14, Try.ntmps14
    go_wp2_with (go_at_call 22; refine (cF.out _).mono ?_; rintro e w1 ⟨rfl, rfl⟩)
    go_ret
    exact ⟨rfl, rfl⟩
  · rw [h1] at cF
    rw [size_list] at h3
    have hpm := fun (k : Nat) (hk : k < 16) => rpm (c := c) (a := a) hk
    have cC := fun (k : Nat) (W : World) => rcell_any c (a + (k : Int)) W (by omega)
    obtain ⟨l, hl⟩ : ∃ l, c.data.toList = l := ⟨_, rfl⟩
    rw [hl] at hpm ⊢
    replace hpm := Lib.hid hpm
    replace cC := Lib.hid cC
    unfold plB at cM
    clear hl h1
    go_enter Try.func14, Try.ntmps14
    go_wp2_with (go_at_call 22; refine (cF.out _).mono ?_; rintro e w1 ⟨rfl, rfl⟩)
    clear cF
    go_loopw [5] (fun i wr => ∃ k : Nat, k ≤ 16 ∧ i = .int .i64 k ∧ Hid (∀ j, j < k → pm l a j = true) ∧ w = wr) (fun i _ => 16 - (intOf i).toNat)
    case atStart => exact ⟨0, Nat.zero_le _, rfl, Lib.hid (fun j h => by omega), rfl⟩
    case round =>
      obtain ⟨k, hk, rfl, hz, rfl⟩ := hrel
      by_cases hlt : k < 16
      · have hm := hpm.out k hlt
        have cC1 := cC.out k
        obtain ⟨X, hX⟩ : ∃ X, rcell c (a + (k : Int)) = X := ⟨_, rfl⟩
        rw [hX] at hm cC1
        obtain ⟨B, hB⟩ : ∃ B, pm l a k = B := ⟨_, rfl⟩
        rw [hB] at hm
        replace cC1 := Lib.hid cC1
        replace hm := hm.symm
        clear hX hpm cC
        rcases B with _ | _
        · have hn := Lib.hid (pp_no hlt hB)
          rw [Bool.not_false] at hm
          clear hB
          go_wp2_with fail
          refine (cC1.out _).mono ?_
          rintro e w1 ⟨rfl, rfl⟩
          go_wp2_with (go_at_call 18; refine (cM.out _).mono ?_; rintro e w1 ⟨rfl, rfl⟩)
          go_ret
          exact ⟨ret_bool hn.out.symm, rfl⟩
        · have hn : Hid (∀ j, j < k + 1 → pm l a j = true) := Lib.hid (fun j hj => by
            by_cases h : j = k
            · rw [h]; exact hB
            · exact hz.out j (by omega))
          rw [Bool.not_true] at hm
          clear hB hz
          go_wp2_with fail
          refine (cC1.out _).mono ?_
          rintro e w1 ⟨rfl, rfl⟩
          go_wp2_with (go_at_call 18; refine (cM.out _).mono ?_; rintro e w1 ⟨rfl, rfl⟩)
          go_roundw
          case rel => exact ⟨k + 1, by omega, by go_num, hn, trivial⟩
          case measure => simp [intOf]; omega
      · obtain rfl : k = 16 := by omega
        have hn := Lib.hid (pp_yes.2 hz.out)
        go_wp2
        go_ret
        exact ⟨ret_bool hn.out.symm, rfl⟩
/-- Before o, from A on, no mark is found. -/
def NoneBefore (l : List UInt8) (A o : Nat) : Prop := A ≤ o ∧ ∀ k : Nat, (A : Int) ≤ (k : Int) → k < o → 2 < ds l (k : Int)
set_option maxRecDepth 100000 in
set_option maxHeartbeats 2000000 in
theorem rfind_core (c : ByteArray) (a : Int) (A : Nat) (w : World) (hc : c.size ≤ 140737488351232) (hA : A ≤ 9223372036854775807) (h : (decide (a < 0) = true ∧ A = 0) ∨ (decide (a < 0) = false ∧ a = A)) :
    Calls Try.prog 20 #[.string c, .int .i64 a] w fun e w' => e = .returned (.tuple #[.int .i64 (fdI c.data.toList A), .bool (fdB c.data.toList A)]) ∧ w = w' := by
  obtain ⟨l, hl⟩ : ∃ l, c.data.toList = l := ⟨_, rfl⟩
  have hll : l.length = c.size := by rw [← hl]; simp
  have cD := fun (o : Nat) (W : World) => rdistance_any c (o : Int) W hc
  rw [hl] at cD ⊢
  replace hll := Lib.hid hll
  replace cD := Lib.hid cD
  have hst : Hid (NoneBefore l A A) := Lib.hid ⟨Nat.le_refl _, fun k h1 h2 => by omega⟩
  obtain ⟨F, hF⟩ : ∃ F : Int, fdI l (A : Int) = F := ⟨_, rfl⟩
  obtain ⟨B, hB⟩ : ∃ F : Bool, fdB l (A : Int) = F := ⟨_, rfl⟩
  rw [hF, hB]
  have hyes : Hid (∀ o : Nat, NoneBefore l A o → o + 16 ≤ c.size → ds l (o : Int) ≤ 2 → F = (o : Int) ∧ B = true) := Lib.hid (fun o h1 h2 h3 => by
    have e : fd l (A : Int) = some o := fd_some.2 ⟨by have := h1.1; omega, by rw [hll.out]; exact h2, h3, h1.2⟩
    obtain ⟨e1, e2⟩ := fdIB_some e
    exact ⟨hF.symm.trans e1, hB.symm.trans e2⟩)
  have hno : Hid (∀ o : Nat, NoneBefore l A o → ¬ o + 16 ≤ c.size → F = 0 ∧ B = false) := Lib.hid (fun o h1 h2 => by
    have e : fd l (A : Int) = none := fd_none.2 fun k g1 g2 => h1.2 k g1 (by rw [hll.out] at g2; omega)
    obtain ⟨e1, e2⟩ := fdIB_none e
    exact ⟨hF.symm.trans e1, hB.symm.trans e2⟩)
  have hstep : Hid (∀ o : Nat, NoneBefore l A o → ¬ ds l (o : Int) ≤ 2 → NoneBefore l A (o + 1)) := Lib.hid (fun o h1 h2 => ⟨by have := h1.1; omega, fun k g1 g2 => by
    by_cases hk : k = o
    · rw [hk]; omega
    · exact h1.2 k g1 (by omega)⟩)
  have hst0 : (decide (a < 0) = true ∧ A = 0) → Hid (NoneBefore l A 0) := fun h => Lib.hid (by have := hst.out; rwa [h.2] at this ⊢)
  clear hF hB
  go_enter Try.func20, Try.ntmps20
  rcases h with h | ⟨h, rfl⟩
  · replace hst0 := hst0 h
    obtain ⟨h, hA0⟩ := h
    clear hst hA0
    go_wp2
    go_loopw [6] (fun i wr => ∃ o : Nat, i = .int .i64 (o : Int) ∧ o ≤ 9223372036854775807 ∧ Hid (NoneBefore l A o) ∧ w = wr) (fun i _ => c.size - (intOf i).toNat)
    case atStart => exact ⟨0, rfl, by omega, hst0, rfl⟩
    case round =>
      clear hst0
      obtain ⟨o, rfl, ho, hz, rfl⟩ := hrel
      by_cases hs : o + 16 ≤ c.size
      · have d1 : decide ((o : Int) ≤ (c.size : Int) - 16) = true := decide_eq_true (by omega)
        have c1 := cD.out o
        have y1 := hyes.out o hz.out hs
        have n1 := hstep.out o hz.out
        obtain ⟨d, hd⟩ : ∃ d, ds l (o : Int) = d := ⟨_, rfl⟩
        rw [hd] at c1 y1 n1
        replace c1 := Lib.hid c1
        clear hd hz hyes hno hstep cD
        by_cases h2 : d ≤ 2
        · have d2 : decide ((d : Int) ≤ 2) = true := decide_eq_true (by omega)
          replace y1 := Lib.hid (y1 h2)
          clear n1 hs
          go_wp2_with (go_at_call 12; refine (c1.out _).mono ?_; rintro e w1 ⟨rfl, rfl⟩)
          go_ret2
          exact ⟨ret_ib y1.out.1.symm y1.out.2.symm, rfl⟩
        · have d2 : decide ((d : Int) ≤ 2) = false := decide_eq_false (by omega)
          replace n1 := Lib.hid (n1 h2)
          clear y1
          go_wp2_with (go_at_call 12; refine (c1.out _).mono ?_; rintro e w1 ⟨rfl, rfl⟩)
          go_roundw
          case rel => exact ⟨o + 1, by go_num, by omega, n1, trivial⟩
          case measure => simp [intOf]; omega
      · have d1 : decide ((o : Int) ≤ (c.size : Int) - 16) = false := decide_eq_false (by omega)
        have n1 := Lib.hid (hno.out o hz.out hs)
        clear hz hyes hno hstep cD hs
        go_wp2
        go_ret2
        exact ⟨ret_ib n1.out.1.symm n1.out.2.symm, rfl⟩
  · clear hst0
    go_wp2
    go_loopw [6] (fun i wr => ∃ o : Nat, i = .int .i64 (o : Int) ∧ o ≤ 9223372036854775807 ∧ Hid (NoneBefore l A o) ∧ w = wr) (fun i _ => c.size - (intOf i).toNat)
    case atStart => exact ⟨A, rfl, by omega, hst, rfl⟩
    case round =>
      clear hst
      obtain ⟨o, rfl, ho, hz, rfl⟩ := hrel
      by_cases hs : o + 16 ≤ c.size
      · have d1 : decide ((o : Int) ≤ (c.size : Int) - 16) = true := decide_eq_true (by omega)
        have c1 := cD.out o
        have y1 := hyes.out o hz.out hs
        have n1 := hstep.out o hz.out
        obtain ⟨d, hd⟩ : ∃ d, ds l (o : Int) = d := ⟨_, rfl⟩
        rw [hd] at c1 y1 n1
        replace c1 := Lib.hid c1
        clear hd hz hyes hno hstep cD
        by_cases h2 : d ≤ 2
        · have d2 : decide ((d : Int) ≤ 2) = true := decide_eq_true (by omega)
          replace y1 := Lib.hid (y1 h2)
          clear n1 hs
          go_wp2_with (go_at_call 12; refine (c1.out _).mono ?_; rintro e w1 ⟨rfl, rfl⟩)
          go_ret2
          exact ⟨ret_ib y1.out.1.symm y1.out.2.symm, rfl⟩
        · have d2 : decide ((d : Int) ≤ 2) = false := decide_eq_false (by omega)
          replace n1 := Lib.hid (n1 h2)
          clear y1
          go_wp2_with (go_at_call 12; refine (c1.out _).mono ?_; rintro e w1 ⟨rfl, rfl⟩)
          go_roundw
          case rel => exact ⟨o + 1, by go_num, by omega, n1, trivial⟩
          case measure => simp [intOf]; omega
      · have d1 : decide ((o : Int) ≤ (c.size : Int) - 16) = false := decide_eq_false (by omega)
        have n1 := Lib.hid (hno.out o hz.out hs)
        clear hz hyes hno hstep cD hs
        go_wp2
        go_ret2
        exact ⟨ret_ib n1.out.1.symm n1.out.2.symm, rfl⟩
theorem rfind_any (c : ByteArray) (a : Int) (w : World) (hc : c.size ≤ 140737488351232) (a1 : -9223372036854775808 ≤ a) (a2 : a ≤ 9223372036854775807) :
    Calls Try.prog 20 #[.string c, .int .i64 a] w fun e w' => e = .returned (.tuple #[.int .i64 (fdI c.data.toList a), .bool (fdB c.data.toList a)]) ∧ w = w' := by
  by_cases h : a < 0
  · have e := fd_no_neg (l := c.data.toList) h
    have := rfind_core c a 0 w hc (by omega) (.inl ⟨decide_eq_true h, rfl⟩)
    unfold fdI fdB at *
    rw [e]
    exact this
  · obtain ⟨A, rfl⟩ : ∃ A : Nat, a = A := ⟨a.toNat, by omega⟩
    exact rfind_core c (A : Int) A w hc (by omega) (.inr ⟨decide_eq_false h, rfl⟩)
end Go.Proofs.Ytpekdmplphpheaa.M12
