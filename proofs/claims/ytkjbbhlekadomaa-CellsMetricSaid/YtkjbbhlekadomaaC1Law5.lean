/- The walk of the law CellsMetric: Distance is a metric on cells that can be read. -/
import Derived.Test.YtkjbbhlekadomaaC1Law4
import Derived.Test.YtkjbbhlekadomaaShelf
import Derived.Lib.IndexAny
namespace Go.Proofs.Ytkjbbhlekadomaa.C1
open Go.RowKit Mem
set_option linter.unusedVariables false

/-- Cells that can be read. -/
def Bin (l : List UInt8) : Prop := ∀ x ∈ l, x = 48 ∨ x = 49
theorem Bin.tail {x : UInt8} {l : List UInt8} (h : Bin (x :: l)) : Bin l := fun y hy => h y (List.mem_cons_of_mem _ hy)
theorem Bin.head {x : UInt8} {l : List UInt8} (h : Bin (x :: l)) : x = 48 ∨ x = 49 := h x List.mem_cons_self
theorem dis_cons (x y : UInt8) (a b : List UInt8) : dis (x :: a) (y :: b) = (if diffB (x, y) = true then 1 else 0) + dis a b := by
  unfold dis
  rw [List.zip_cons_cons, List.filter_cons]
  split <;> simp <;> omega
theorem dis_zero {a b : List UInt8} (ha : Bin a) (hb : Bin b) (h : a.length = b.length) : dis a b = 0 ↔ a = b := by
  induction a generalizing b with
  | nil =>
    cases b with
    | nil => simp [dis]
    | cons y b => simp at h
  | cons x a ih =>
    cases b with
    | nil => simp at h
    | cons y b =>
      rw [dis_cons]
      have := ih ha.tail hb.tail (by simpa using h)
      rcases ha.head with rfl | rfl <;> rcases hb.head with rfl | rfl <;> simp [diffB, this]
theorem dis_symm {a b : List UInt8} (h : a.length = b.length) : dis a b = dis b a := by
  induction a generalizing b with
  | nil =>
    cases b with
    | nil => rfl
    | cons y b => simp at h
  | cons x a ih =>
    cases b with
    | nil => simp at h
    | cons y b =>
      rw [dis_cons, dis_cons, ih (by simpa using h)]
      have : diffB (x, y) = diffB (y, x) := by
        unfold diffB
        rw [Bool.eq_iff_iff]
        simp
        constructor <;> (rintro ⟨p, q, r⟩; exact ⟨fun e => p e.symm, r, q⟩)
      rw [this]
theorem dis_tri {a b c : List UInt8} (ha : Bin a) (hb : Bin b) (hc : Bin c) (h : a.length = b.length) (h' : a.length = c.length) : dis a c ≤ dis a b + dis b c := by
  induction a generalizing b c with
  | nil =>
    cases c with
    | nil => simp [dis]
    | cons y c => simp at h'
  | cons x a ih =>
    cases b with
    | nil => simp at h
    | cons y b =>
      cases c with
      | nil => simp at h'
      | cons z c =>
        rw [dis_cons, dis_cons, dis_cons]
        have := ih ha.tail hb.tail hc.tail (by simpa using h) (by simpa using h')
        rcases ha.head with rfl | rfl <;> rcases hb.head with rfl | rfl <;> rcases hc.head with rfl | rfl <;> simp [diffB] <;> omega
theorem dis_inv {a b : List UInt8} (ha : Bin a) (hb : Bin b) (h : a.length = b.length) : dis (inv a) (inv b) = dis a b := by
  induction a generalizing b with
  | nil =>
    cases b with
    | nil => rfl
    | cons y b => simp at h
  | cons x a ih =>
    cases b with
    | nil => simp at h
    | cons y b =>
      have e : ∀ (x : UInt8) (l : List UInt8), inv (x :: l) = invC x :: inv l := fun _ _ => rfl
      rw [e, e, dis_cons, dis_cons, ih ha.tail hb.tail (by simpa using h)]
      rcases ha.head with rfl | rfl <;> rcases hb.head with rfl | rfl <;> rfl
theorem dis_self {a : List UInt8} (ha : Bin a) : dis a (inv a) = a.length := by
  induction a with
  | nil => rfl
  | cons x a ih =>
    have e : ∀ (x : UInt8) (l : List UInt8), inv (x :: l) = invC x :: inv l := fun _ _ => rfl
    rw [e, dis_cons, ih ha.tail, List.length_cons]
    rcases ha.head with rfl | rfl <;> simp [diffB, invC] <;> omega
theorem chk_append {a b : List UInt8} (h : chk (a ++ b) = 0) : chk a = 0 ∧ chk b = 0 := by
  unfold chk at h ⊢
  rw [List.all_append] at h
  by_cases h1 : a.all okB = true
  · by_cases h2 : b.all okB = true
    · rw [if_pos h1, if_pos h2]; exact ⟨rfl, rfl⟩
    · rw [if_neg (by simp [h2])] at h; omega
  · rw [if_neg (by simp [h1])] at h; omega
theorem bin_of {l : List UInt8} (h : chk l = 0) (hq : ∀ x ∈ l, x ≠ 63) : Bin l := by
  intro x hx
  have ha : l.all okB = true := by
    unfold chk at h
    by_cases h1 : l.all okB = true
    · exact h1
    · rw [if_neg h1] at h; omega
  have hx' := List.all_eq_true.1 ha x hx
  unfold okB at hx'
  simp at hx'
  rcases hx' with (h1 | h1) | h1
  · exact .inl h1
  · exact .inr h1
  · exact absurd h1 (hq x hx)
theorem disN_bin {a b : List UInt8} (ha : chk a = 0) (hb : chk b = 0) (h : a.length = b.length) : disN a b = (dis a b : Int) := by
  unfold disN
  rw [if_pos ⟨ha, hb, h⟩]

set_option maxHeartbeats 400000 in
theorem d_any (a b : ByteArray) (v : Int) (w : World) (hsa : a.size ≤ 1000000) (hsb : b.size ≤ 1000000) (hv : disN a.data.toList b.data.toList = v) :
    Calls Try.prog 27 #[.string a, .string b] w fun e w' => e = .returned (.int .i64 v) ∧ ∃ n, w' = w.drewN n := by
  subst hv
  go_enter Try.func27, Try.ntmps27
  go_wp2_with fail
  refine (distance_any a b _ hsa hsb).mono ?_
  rintro e w1 ⟨rfl, n, rfl⟩
  go_wp2
  go_ret
  exact ⟨rfl, n, rfl⟩

theorem no_of_index {l : List UInt8} (h : decide (0 ≤ Lib.indexByte l 63) = false) : ∀ x ∈ l, x ≠ 63 := by
  intro x hx e
  subst e
  rw [← Lib.contains_iff_indexByte] at h
  simp at h
  exact h hx
set_option maxHeartbeats 2000000 in
theorem walk_metric (a b c : ByteArray) (w : World) (ha : a.size ≤ 140737488351232) (hb : b.size ≤ 140737488351232) (hc : c.size ≤ 140737488351232) :
    Calls Try.prog 8 #[.string a, .string b, .string c] w fun e w' => e = .returned (.bool true) ∧ Below w.heap.size w w' := by
  by_cases hs : a.size ≤ 1000
  · by_cases h1 : a.size = b.size
    · by_cases h2 : a.size = c.size
      · have hn1 : ((a.size : Int) != (b.size : Int)) = false := by simp [h1]
        have hn2 : ((a.size : Int) != (c.size : Int)) = false := by simp [h2]
        have h1h := Lib.hid h1
        have h2h := Lib.hid h2
        have hb1000 : b.size ≤ 1000 := by omega
        have hc1000 : c.size ≤ 1000 := by omega
        clear h1 h2 hb hc ha
        have hCon := Lib.hid (fun W => Try.strings_Contains_one (a ++ b ++ c) 63 W)
        have hChk := Lib.hid (fun W => check_any (a ++ b ++ c) W (by simp; omega))
        rcases hq : decide (0 ≤ Lib.indexByte (a ++ b ++ c).data.toList 63) with _ | _
        · rw [hq] at hCon
          rcases chk_cases (a ++ b ++ c).data.toList with hk | hk
          · rw [hk] at hChk
            have hno := no_of_index hq
            rw [str_data_append, str_data_append] at hk hno
            obtain ⟨k1, k3⟩ := chk_append hk
            obtain ⟨k1, k2⟩ := chk_append k1
            have bA := bin_of k1 (fun x hx => hno x (by simp [hx]))
            have bB := bin_of k2 (fun x hx => hno x (by simp [hx]))
            have bC := bin_of k3 (fun x hx => hno x (by simp [hx]))
            have lAB : a.data.toList.length = b.data.toList.length := h1h.out
            have lAC : a.data.toList.length = c.data.toList.length := h2h.out
            have lBC : b.data.toList.length = c.data.toList.length := by omega
            have zAB := dis_zero bA bB lAB
            have sAB := dis_symm lAB
            have tri := dis_tri bA bB bC lAB lAC
            have nAB := disN_bin k1 k2 lAB
            have nBA := disN_bin k2 k1 lAB.symm
            have nAC := disN_bin k1 k3 lAC
            have nBC := disN_bin k2 k3 lBC
            have iAB := disN_bin (a := inv a.data.toList) (b := inv b.data.toList) (by rw [chk_inv]; exact k1) (by rw [chk_inv]; exact k2) (by rw [inv_len, inv_len]; exact lAB)
            rw [dis_inv bA bB lAB] at iAB
            have iAA := disN_bin (a := a.data.toList) (b := inv a.data.toList) k1 (by rw [chk_inv]; exact k1) (by rw [inv_len])
            rw [dis_self bA] at iAA
            rw [← sAB] at nBA
            have bd1 := dis_le a.data.toList b.data.toList
            have bd2 := dis_le b.data.toList c.data.toList
            have la : a.data.toList.length = a.size := rfl
            have lb : b.data.toList.length = b.size := rfl
            obtain ⟨X, hX⟩ : ∃ X, dis a.data.toList b.data.toList = X := ⟨_, rfl⟩
            obtain ⟨Y, hY⟩ : ∃ Y, dis a.data.toList c.data.toList = Y := ⟨_, rfl⟩
            obtain ⟨Z, hZ⟩ : ∃ Z, dis b.data.toList c.data.toList = Z := ⟨_, rfl⟩
            rw [hX] at zAB nAB nBA iAB tri bd1
            rw [hY] at nAC tri
            rw [hZ] at nBC tri bd2
            have bd1 : X ≤ 1000 := by omega
            have bd2 : Z ≤ 1000 := by omega
            have hle : (Y : Int) ≤ (X : Int) + (Z : Int) := by omega
            obtain ⟨u, hu1, hu2⟩ : ∃ u : Bool, (((X : Nat) : Int) == 0) = u ∧ (a.toList == b.toList) = u := by
              refine ⟨_, rfl, ?_⟩
              rw [str_toList, str_toList, Bool.eq_iff_iff]
              simp only [beq_iff_eq]
              rw [← zAB]
              omega
            have dAB := Lib.hid nAB
            have dBA := Lib.hid nBA
            have dAC := Lib.hid nAC
            have dBC := Lib.hid nBC
            have dI := Lib.hid iAB
            have dS := Lib.hid iAA
            clear hk hno k1 k2 k3 bA bB bC lAB lAC lBC zAB sAB tri nAB nBA nAC nBC iAB iAA la lb hX hY hZ hq
            go_enter Try.func8, Try.ntmps8
            go_wp2_with fail
            refine (alive_any _).mono ?_
            rintro e w1 ⟨rfl, hb1⟩
            go_wp2_with fail
            refine (hCon.out _).mono ?_
            rintro e w2 ⟨rfl, rfl⟩
            go_wp2_with fail
            refine (hChk.out _).mono ?_
            rintro e w3 ⟨rfl, rfl⟩
            go_wp2_with fail
            refine (d_any a b _ _ (by omega) (by omega) dAB.out).mono ?_
            rintro e w4 ⟨rfl, n4, rfl⟩
            go_wp2_with fail
            refine (d_any a b _ _ (by omega) (by omega) dAB.out).mono ?_
            rintro e w5 ⟨rfl, n5, rfl⟩
            go_wp2_with fail
            refine (d_any b a _ _ (by omega) (by omega) dBA.out).mono ?_
            rintro e w6 ⟨rfl, n6, rfl⟩
            go_wp2_with fail
            refine (d_any a c _ _ (by omega) (by omega) dAC.out).mono ?_
            rintro e w7 ⟨rfl, n7, rfl⟩
            go_wp2_with fail
            refine (d_any a b _ _ (by omega) (by omega) dAB.out).mono ?_
            rintro e w8 ⟨rfl, n8, rfl⟩
            go_wp2_with fail
            refine (d_any b c _ _ (by omega) (by omega) dBC.out).mono ?_
            rintro e w9 ⟨rfl, n9, rfl⟩
            go_wp2_with fail
            refine (invert_any a _ (by omega)).mono ?_
            rintro e w10 ⟨rfl, hb10⟩
            go_wp2_with fail
            refine (invert_any b _ (by omega)).mono ?_
            rintro e w11 ⟨rfl, hb11⟩
            go_wp2_with fail
            refine (d_any ⟨(inv a.data.toList).toArray⟩ ⟨(inv b.data.toList).toArray⟩ _ _ (by rw [str_size, inv_len]; simp; omega) (by rw [str_size, inv_len]; simp; omega) dI.out).mono ?_
            rintro e w12 ⟨rfl, n12, rfl⟩
            go_wp2_with fail
            refine (d_any a b _ _ (by omega) (by omega) dAB.out).mono ?_
            rintro e w13 ⟨rfl, n13, rfl⟩
            go_wp2_with fail
            refine (invert_any a _ (by omega)).mono ?_
            rintro e w14 ⟨rfl, hb14⟩
            go_wp2_with fail
            refine (d_any a ⟨(inv a.data.toList).toArray⟩ _ _ (by omega) (by rw [str_size, inv_len]; simp; omega) dS.out).mono ?_
            rintro e w15 ⟨rfl, n15, rfl⟩
            go_wp2
            go_ret
            refine ⟨rfl, ?_⟩
            exact chainN (chain (chainN (chain (chain (chainN hb1 _) hb10) hb11) _) hb14) _
          · rw [hk] at hChk
            clear hk hq
            go_enter Try.func8, Try.ntmps8
            go_wp2_with fail
            refine (alive_any _).mono ?_
            rintro e w1 ⟨rfl, hb1⟩
            go_wp2_with fail
            refine (hCon.out _).mono ?_
            rintro e w2 ⟨rfl, rfl⟩
            go_wp2_with fail
            refine (hChk.out _).mono ?_
            rintro e w3 ⟨rfl, rfl⟩
            go_wp2
            go_ret
            exact ⟨rfl, hb1⟩
        · rw [hq] at hCon
          clear hq
          go_enter Try.func8, Try.ntmps8
          go_wp2_with fail
          refine (alive_any _).mono ?_
          rintro e w1 ⟨rfl, hb1⟩
          go_wp2_with fail
          refine (hCon.out _).mono ?_
          rintro e w2 ⟨rfl, rfl⟩
          go_wp2
          go_ret
          exact ⟨rfl, hb1⟩
      · have hn1 : ((a.size : Int) != (b.size : Int)) = false := by simp [h1]
        have hn2 : ((a.size : Int) != (c.size : Int)) = true := by simp; omega
        clear h1 h2
        go_enter Try.func8, Try.ntmps8
        go_wp2_with fail
        refine (alive_any _).mono ?_
        rintro e w1 ⟨rfl, hb1⟩
        go_wp2
        go_ret
        exact ⟨rfl, hb1⟩
    · have hn1 : ((a.size : Int) != (b.size : Int)) = true := by simp; omega
      clear h1
      go_enter Try.func8, Try.ntmps8
      go_wp2_with fail
      refine (alive_any _).mono ?_
      rintro e w1 ⟨rfl, hb1⟩
      go_wp2
      go_ret
      exact ⟨rfl, hb1⟩
  · have hgt : (1000 : Int) < (a.size : Int) := by omega
    go_enter Try.func8, Try.ntmps8
    go_wp2_with fail
    refine (alive_any _).mono ?_
    rintro e w1 ⟨rfl, hb1⟩
    go_wp2
    go_ret
    exact ⟨rfl, hb1⟩
end Go.Proofs.Ytkjbbhlekadomaa.C1
