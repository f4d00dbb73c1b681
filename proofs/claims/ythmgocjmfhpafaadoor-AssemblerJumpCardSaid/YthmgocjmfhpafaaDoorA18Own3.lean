/- The contracts of the landed isName, areInstructions, definedBy, referredToBy, add (layer 18). -/
import Derived.Test.YthmgocjmfhpafaaDoorA18Own1
import Derived.Lib.AppendStr
import Derived.Maps.AppendAt
import Derived.Maps.Range
namespace Go.Proofs.YthmgocjmfhpafaaDoor.A18
set_option maxRecDepth 100000
open Go.RowKit Mem
set_option linter.unusedVariables false
set_option linter.unusedSimpArgs false

theorem str_empty {s : ByteArray} (h : s.size = 0) : s = ByteArray.empty := by
  apply ByteArray.ext
  apply Array.eq_empty_of_size_eq_zero h
theorem str_ne {s : ByteArray} (h : ¬ s.size = 0) : s.toList.isEmpty = false ∧ (s.toList == []) = false ∧ ¬ s.toList = [] := by
  have : s.toList ≠ [] := by
    rw [str_toList]
    intro e
    apply h
    have h2 : s.data.toList.length = s.size := by simp
    rw [← h2, e]; rfl
  exact ⟨by simpa using this, beq_eq_false_iff_ne.2 this, this⟩
theorem pre_eq (p : UInt8 → Bool) (l : List UInt8) : decide (pre p l = l.length) = l.all p := by
  rw [Bool.eq_iff_iff, decide_eq_true_eq, List.all_eq_true]
  constructor
  · intro h c hc
    have h2 := take_eq_self_of h
    exact h2 c hc
  · intro h
    exact pre_all h
where
  take_eq_self_of {p : UInt8 → Bool} {l : List UInt8} (h : pre p l = l.length) : ∀ c ∈ l, p c = true := by
    intro c hc
    unfold pre at h
    have e : l.takeWhile p = l := (List.takeWhile_sublist p).eq_of_length h
    rw [← e] at hc
    have : ∀ (m : List UInt8), ∀ x ∈ m.takeWhile p, p x = true := by
      intro m
      induction m with
      | nil => simp
      | cons d r ih =>
        intro x hx
        rw [List.takeWhile_cons] at hx
        split at hx
        · rcases List.mem_cons.1 hx with rfl | hx
          · assumption
          · exact ih x hx
        · cases hx
    exact this l c hc
set_option maxHeartbeats 4000000 in
theorem isName_any (s : ByteArray) (hs : s.size ≤ 1000000) (w : World) : Calls Tryd.prog 87 #[.string s] w fun e w' => e = .returned (.bool (nameB s.data.toList)) ∧ w = w' := by
  by_cases h0 : s.size = 0
  · obtain rfl := str_empty h0
    go_enter Tryd.func87, Tryd.ntmps87
    go_wp2
    first | go_ret | skip
    exact ⟨rfl, rfl⟩
  obtain ⟨e1, e2, e3⟩ := str_ne h0
  have hn : s.data.toList.length = s.size := by simp
  have hne : s.data.toList ≠ [] := by rw [← str_toList]; exact e3
  by_cases h40 : s.size ≤ 40
  · have d1 : decide ((s.size : Int) ≤ 40) = true := decide_eq_true (by omega)
    have hp : 0 < s.size := by omega
    have hpI : (0 : Int) < (s.size : Int) := by omega
    have hc := isLetter_any s[0]
    have ht : s.data.toList.take 1 = [s[0]] := by
      have := drop_get s 0 hp
      rw [List.drop_zero] at this
      rw [this]
      rfl
    have hnb : nameB s.data.toList = (isLt s[0] && s.data.toList.all isNm) := by
      unfold nameB
      rw [decide_eq_true hne, decide_eq_true (show s.data.toList.length ≤ 40 by omega), ht]
      simp
    rw [hnb]
    rcases hl : isLt s[0] with _ | _
    · rw [hl] at hc
      replace hc := Lib.hid hc
      clear hnb ht hl hne hn h0 h40
      go_enter Tryd.func87, Tryd.ntmps87
      go_wp2_with fail
      refine (hc.out _).mono ?_
      rintro e w1 ⟨rfl, rfl⟩
      go_wp2
      first | go_ret | skip
      exact ⟨rfl, rfl⟩
    · rw [hl] at hc
      have cP := prefix_any isInName_any ent_name s hs
      have hq := pre_eq isNm s.data.toList
      rw [hn] at hq
      obtain ⟨Z, hZ⟩ : ∃ Z, pre isNm s.data.toList = Z := ⟨_, rfl⟩
      rw [hZ] at cP hq
      rw [← hq]
      have hfin := Lib.hid (show ((Z : Int) == (s.size : Int)) = (true && decide (Z = s.size)) by
        rw [Bool.eq_iff_iff, beq_iff_eq, Bool.true_and, decide_eq_true_eq]; omega)
      replace hc := Lib.hid hc
      replace cP := Lib.hid cP
      clear hnb ht hl hne hn h0 h40 hq hZ
      go_enter Tryd.func87, Tryd.ntmps87
      go_wp2_with fail
      refine (hc.out _).mono ?_
      rintro e w1 ⟨rfl, rfl⟩
      go_wp2_with fail
      refine (cP.out _).mono ?_
      rintro e w1 ⟨rfl, rfl⟩
      go_wp2
      first | go_ret | skip
      exact ⟨ret_bool hfin.out, rfl⟩
  · have d1 : decide ((s.size : Int) ≤ 40) = false := decide_eq_false (by omega)
    have hnb := Lib.hid (show nameB s.data.toList = false by
      unfold nameB
      rw [decide_eq_false (show ¬ s.data.toList.length ≤ 40 by omega)]
      simp)
    clear hne hn h0 h40
    go_enter Tryd.func87, Tryd.ntmps87
    go_wp2
    first | go_ret | skip
    exact ⟨ret_bool hnb.out.symm, rfl⟩
set_option maxHeartbeats 4000000 in
theorem areIns_any (s : ByteArray) (hs : s.size ≤ 1000000) (w : World) : Calls Tryd.prog 85 #[.string s] w fun e w' => e = .returned (.bool (s.data.toList.all isIn)) ∧ w = w' := by
  have hn : s.data.toList.length = s.size := by simp
  have cP := prefix_any isInstruction_any ent_instruction s hs
  have hq := pre_eq isIn s.data.toList
  rw [hn] at hq
  obtain ⟨Z, hZ⟩ : ∃ Z, pre isIn s.data.toList = Z := ⟨_, rfl⟩
  rw [hZ] at cP hq
  rw [← hq]
  have hfin := Lib.hid (show ((Z : Int) == (s.size : Int)) = decide (Z = s.size) by
    rw [Bool.eq_iff_iff, beq_iff_eq, decide_eq_true_eq]; omega)
  replace cP := Lib.hid cP
  clear hn hq hZ
  go_enter Tryd.func85, Tryd.ntmps85
  go_wp2_with fail
  refine (cP.out _).mono ?_
  rintro e w1 ⟨rfl, rfl⟩
  go_wp2
  first | go_ret | skip
  exact ⟨ret_bool hfin.out, rfl⟩
/-- A name, if there is one. -/
def optV (o : Option (List UInt8)) : Value := .tuple #[strV (o.getD []), .bool o.isSome]
theorem suffix_one (l : List UInt8) (c : UInt8) : Lib.hasSuffix l [c] = decide (l.getLast? = some c) := by
  unfold Lib.hasSuffix
  rw [Bool.eq_iff_iff, List.isSuffixOf_iff_suffix, decide_eq_true_eq]
  constructor
  · rintro ⟨t, rfl⟩; simp
  · intro h
    have hne : l ≠ [] := fun e => by rw [e] at h; simp at h
    rw [List.getLast?_eq_some_getLast hne] at h
    injection h with h
    exact ⟨l.dropLast, by rw [← h]; exact List.dropLast_concat_getLast hne⟩
theorem prefix_one (l : List UInt8) (c : UInt8) : Lib.hasPrefix l [c] = decide (l.head? = some c) := by
  unfold Lib.hasPrefix
  cases l with
  | nil => rfl
  | cons d r =>
    rw [Bool.eq_iff_iff]
    simp [List.isPrefixOf]
    exact eq_comm
theorem ret_sb {x x' : List UInt8} {b b' : Bool} (h : x = x') (h' : b = b') : Ending.returned (.tuple #[.string ⟨x.toArray⟩, .bool b]) = .returned (.tuple #[.string ⟨x'.toArray⟩, .bool b']) := by rw [h, h']
set_option maxHeartbeats 4000000 in
theorem definedBy_any (s : ByteArray) (hs : s.size ≤ 1000000) (w : World) : Calls Tryd.prog 60 #[.string s] w fun e w' => e = .returned (optV (defN s.data.toList)) ∧ w = w' := by
  have hn : s.data.toList.length = s.size := by simp
  have cC := Tryd.strings_CutSuffix s ⟨#[58]⟩
  have hC : (ByteArray.mk #[58]).data.toList = [58] := rfl
  rw [hC, suffix_one] at cC
  unfold Lib.trimSuffix at cC
  rw [suffix_one] at cC
  by_cases h1 : s.data.toList.getLast? = some 58
  · rw [decide_eq_true h1, if_pos rfl] at cC
    have hd : List.take (s.data.toList.length - ([58] : List UInt8).length) s.data.toList = s.data.toList.dropLast := by rw [List.dropLast_eq_take]; rfl
    rw [hd] at cC
    obtain ⟨N, hN⟩ : ∃ N : ByteArray, ⟨s.data.toList.dropLast.toArray⟩ = N := ⟨_, rfl⟩
    have hNl : N.data.toList = s.data.toList.dropLast := by rw [← hN]
    have hNs : N.size ≤ 1000000 := by rw [← hN, str_size, List.length_dropLast]; omega
    have cN := isName_any N hNs
    have hdef : defN s.data.toList = if nameB s.data.toList.dropLast = true then some s.data.toList.dropLast else none := by
      unfold defN
      by_cases h2 : nameB s.data.toList.dropLast = true
      · rw [if_pos ⟨h1, h2⟩, if_pos h2]
      · rw [if_neg (fun h => h2 h.2), if_neg h2]
    rw [hN] at cC
    rw [hNl] at cN
    rw [hdef]
    rcases hb : nameB s.data.toList.dropLast with _ | _
    · rw [hb] at cN
      rw [if_neg (by simp)]
      have cC := Lib.hid (fun w => cC w (by omega))
      have cN := Lib.hid cN
      clear hN hNl hNs hdef hb hd h1 hC hn
      go_enter Tryd.func60, Tryd.ntmps60
      go_wp2_with fail
      refine (cC.out _).mono ?_
      rintro e w1 ⟨rfl, rfl⟩
      go_wp2_with fail
      refine (cN.out _).mono ?_
      rintro e w1 ⟨rfl, rfl⟩
      go_wp2
      first | go_ret2 | skip
      exact ⟨rfl, rfl⟩
    · rw [hb] at cN
      rw [if_pos rfl]
      have hfin := Lib.hid (show optV (some s.data.toList.dropLast) = .tuple #[.string N, .bool true] by rw [← hN]; rfl)
      have cC := Lib.hid (fun w => cC w (by omega))
      have cN := Lib.hid cN
      clear hN hNl hNs hdef hb hd h1 hC hn
      go_enter Tryd.func60, Tryd.ntmps60
      go_wp2_with fail
      refine (cC.out _).mono ?_
      rintro e w1 ⟨rfl, rfl⟩
      go_wp2_with fail
      refine (cN.out _).mono ?_
      rintro e w1 ⟨rfl, rfl⟩
      go_wp2
      first | go_ret2 | skip
      exact ⟨by rw [hfin.out]; rfl, rfl⟩
  · rw [decide_eq_false h1, if_neg (by simp), str_back] at cC
    have hdef : defN s.data.toList = none := by
      unfold defN
      rw [if_neg (fun h => h1 h.1)]
    rw [hdef]
    have cC := Lib.hid (fun w => cC w (by omega))
    clear hdef h1 hC hn
    go_enter Tryd.func60, Tryd.ntmps60
    go_wp2_with fail
    refine (cC.out _).mono ?_
    rintro e w1 ⟨rfl, rfl⟩
    go_wp2
    first | go_ret2 | skip
    exact ⟨rfl, rfl⟩
set_option maxHeartbeats 4000000 in
theorem referredToBy_any (s : ByteArray) (hs : s.size ≤ 1000000) (w : World) : Calls Tryd.prog 61 #[.string s] w fun e w' => e = .returned (optV (refN s.data.toList)) ∧ w = w' := by
  have hn : s.data.toList.length = s.size := by simp
  have cC := Tryd.strings_CutPrefix s ⟨#[38]⟩
  have hC : (ByteArray.mk #[38]).data.toList = [38] := rfl
  rw [hC, prefix_one] at cC
  unfold Lib.trimPrefix at cC
  rw [prefix_one] at cC
  by_cases h1 : s.data.toList.head? = some 38
  · rw [decide_eq_true h1, if_pos rfl] at cC
    have hd : List.drop ([38] : List UInt8).length s.data.toList = s.data.toList.tail := by simp
    rw [hd] at cC
    obtain ⟨N, hN⟩ : ∃ N : ByteArray, ⟨s.data.toList.tail.toArray⟩ = N := ⟨_, rfl⟩
    have hNl : N.data.toList = s.data.toList.tail := by rw [← hN]
    have hNs : N.size ≤ 1000000 := by rw [← hN, str_size, List.length_tail]; omega
    have cN := isName_any N hNs
    have hdef : refN s.data.toList = if nameB s.data.toList.tail = true then some s.data.toList.tail else none := by
      unfold refN
      by_cases h2 : nameB s.data.toList.tail = true
      · rw [if_pos ⟨h1, h2⟩, if_pos h2]
      · rw [if_neg (fun h => h2 h.2), if_neg h2]
    rw [hN] at cC
    rw [hNl] at cN
    rw [hdef]
    rcases hb : nameB s.data.toList.tail with _ | _
    · rw [hb] at cN
      rw [if_neg (by simp)]
      have cC := Lib.hid cC
      have cN := Lib.hid cN
      clear hN hNl hNs hdef hb hd h1 hC hn
      go_enter Tryd.func61, Tryd.ntmps61
      go_wp2_with fail
      refine (cC.out _).mono ?_
      rintro e w1 ⟨rfl, rfl⟩
      go_wp2_with fail
      refine (cN.out _).mono ?_
      rintro e w1 ⟨rfl, rfl⟩
      go_wp2
      first | go_ret2 | skip
      exact ⟨rfl, rfl⟩
    · rw [hb] at cN
      rw [if_pos rfl]
      have hfin := Lib.hid (show optV (some s.data.toList.tail) = .tuple #[.string N, .bool true] by rw [← hN]; rfl)
      have cC := Lib.hid cC
      have cN := Lib.hid cN
      clear hN hNl hNs hdef hb hd h1 hC hn
      go_enter Tryd.func61, Tryd.ntmps61
      go_wp2_with fail
      refine (cC.out _).mono ?_
      rintro e w1 ⟨rfl, rfl⟩
      go_wp2_with fail
      refine (cN.out _).mono ?_
      rintro e w1 ⟨rfl, rfl⟩
      go_wp2
      first | go_ret2 | skip
      exact ⟨by rw [hfin.out]; rfl, rfl⟩
  · rw [decide_eq_false h1, if_neg (by simp), str_back] at cC
    have hdef : refN s.data.toList = none := by
      unfold refN
      rw [if_neg (fun h => h1 h.1)]
    rw [hdef]
    have cC := Lib.hid cC
    clear hdef h1 hC hn
    go_enter Tryd.func61, Tryd.ntmps61
    go_wp2_with fail
    refine (cC.out _).mono ?_
    rintro e w1 ⟨rfl, rfl⟩
    go_wp2
    first | go_ret2 | skip
    exact ⟨rfl, rfl⟩
theorem info_u8 : (Tryd.prog.info? 5).map (fun i => (i.zero, i.size, i.bytes)) = some (some (.int .u8 0), 1, 1) := by kernel_rfl
theorem str_cells (s : ByteArray) : Lib.strCells s = bys s.data.toList := rfl
theorem one_new' (w : World) (x : Value) (t : TypeId) : ∀ j u, ([x] : List Value)[j]? = some u → (w.alloc (.cells #[x] t)).cell? ((⟨w.heap.size, 0, none⟩ : Addr).add j) = some u := one_new w x t
/-- What add hands back: the longer text in a row of the caller's. -/
def AddP (B : Nat) (v : Value) (t a : List UInt8) (w : World) (e : Ending) (w' : World) : Prop := ∃ v', e = .returned v' ∧ w'.ownsRow B 5 1 v' (addT t a).length (bys (addT t a)) ∧ w.grownBy w' v.ownBlock
set_option maxHeartbeats 8000000 in
theorem add_any {B n : Nat} {v : Value} {t : List UInt8} (s : ByteArray) {w : World} (hB : B ≤ w.heap.size) (h : w.ownsRow B 5 1 v n (bys t)) (hn : n ≤ 1000000) (hs : s.size ≤ 1000000) (h0 : 0 < s.size) :
    Calls Tryd.prog 62 #[v, .string s] w (AddP B v t s.data.toList w) := by
  have hl : t.length = n := by have := h.1; rw [bys_len] at this; omega
  obtain ⟨i0, hi, hz0, hz1, hz2⟩ := info_parts info_u8
  have single : ∀ v' w', addT t s.data.toList = t ++ s.data.toList → w'.ownsRow B 5 1 v' (n + s.size) (bys t ++ Lib.strCells s) → w.grownBy w' v.ownBlock → AddP B v t s.data.toList w (.returned v') w' := fun v' w' e1 e2 e3 => by
    refine ⟨v', rfl, ?_, e3⟩
    rw [e1, bys_append, List.length_append, hl, show s.data.toList.length = s.size by simp]
    exact e2
  have double : ∀ v' w', addT t s.data.toList = t ++ 32 :: s.data.toList → w'.ownsRow B 5 1 v' (n + 1 + s.size) (bys t ++ [.int .u8 32] ++ Lib.strCells s) → w.grownBy w' v.ownBlock → AddP B v t s.data.toList w (.returned v') w' := fun v' w' e1 e2 e3 => by
    refine ⟨v', rfl, ?_, e3⟩
    rw [e1, bys_append, List.length_append, hl, show bys (32 :: s.data.toList) = [.int .u8 32] ++ bys s.data.toList from rfl, ← List.append_assoc, show n + (32 :: s.data.toList).length = n + 1 + s.size by simp; omega]
    exact e2
  have hs0 : s.data.toList.head? = some s[0] := by have := drop_get s 0 h0; rw [List.drop_zero] at this; rw [this]; rfl
  have hbeg : begD s.data.toList = isDg s[0] := by unfold begD; rw [hs0]
  have hpI : (0 : Int) < (s.size : Int) := by omega
  obtain ⟨P, hP⟩ : ∃ P, AddP B v t s.data.toList w = P := ⟨_, rfl⟩
  rw [hP] at single double ⊢
  clear hP
  show Calls _ _ _ _ (fun e w' => P e w')
  obtain ⟨A, cap, rfl, hc1, hc2, hc3⟩ := own2_slice h
  by_cases hn0 : n = 0
  · subst hn0
    have ht : t = [] := List.eq_nil_of_length_eq_zero hl
    have e1 : addT t s.data.toList = t ++ s.data.toList := by subst ht; unfold addT endsD; rfl
    have fin := Lib.hid (fun v' w' => single v' w' e1)
    clear single double hbeg hs0 e1 hc3
    go_enter Tryd.func62, Tryd.ntmps62
    go_wp2_with (at_builtin; refine Lib.wpList_append_own_string _ rfl _ _ 43 9 rfl B 5 i0 Tryd.underlying43 Tryd.underlying9 hi hz0 hz1 hz2 _ _ _ rfl h s rfl (by unfold maxLen; omega) (by omega) hB ?_; intro v' w1 hown hgr _)
    have f := fin.out v' w1 hown hgr
    first | go_ret | skip
    exact f
  · have hnp : 0 < n := by omega
    obtain ⟨g, rfl⟩ : ∃ g, A = some ⟨g, 0, none⟩ := by
      rcases h.2 with ⟨e, _⟩ | ⟨g, cap', cur, e, _⟩
      · injection e with _ e _; omega
      · injection e with e _ _; exact ⟨g, e⟩
    obtain ⟨J, hJ⟩ : ∃ J, n - 1 = J := ⟨_, rfl⟩
    have hJn : J < t.length := by omega
    have gl : w.cell? ⟨g, J, none⟩ = some (.int .u8 (t[J].toNat : Int)) := by
      rw [h.cellAt J (by omega)]
      exact bys_get t J hJn
    have hend : endsD t = isDg t[J] := by
      unfold endsD
      rw [List.getLast?_eq_getElem?, hl, hJ, List.getElem?_eq_getElem hJn]
    obtain ⟨c, hc⟩ : ∃ c, t[J] = c := ⟨_, rfl⟩
    rw [hc] at gl hend
    have hD1 := isDigit_any c
    have hD2 := isDigit_any s[0]
    have eJ : (n : Int) - 1 = (J : Int) := by omega
    have J0 : (0 : Int) ≤ (J : Int) := by omega
    have J1 : (J : Int) < (n : Int) := by omega
    have dn : decide ((0 : Int) < (n : Int)) = true := decide_eq_true (by omega)
    have dn2 : decide (0 < n) = true := decide_eq_true hnp
    rcases x1 : isDg c with _ | _
    · rw [x1] at hD1 hend
      have e1 : addT t s.data.toList = t ++ s.data.toList := by unfold addT; rw [hend]; rfl
      have fin := Lib.hid (fun v' w' => single v' w' e1)
      replace hD1 := Lib.hid hD1
      clear single double hbeg hs0 e1 hc3 hend hc hJ hD2 hl hJn x1
      go_enter Tryd.func62, Tryd.ntmps62
      go_wp2_with fail
      refine (hD1.out _).mono ?_
      rintro e w1 ⟨rfl, rfl⟩
      go_wp2_with (at_builtin; refine Lib.wpList_append_own_string _ rfl _ _ 43 9 rfl B 5 i0 Tryd.underlying43 Tryd.underlying9 hi hz0 hz1 hz2 _ _ _ rfl h s rfl (by unfold maxLen; omega) (by omega) hB ?_; intro v' w1 hown hgr _)
      have f := fin.out v' w1 hown hgr
      first | go_ret | skip
      exact f
    · rw [x1] at hD1 hend
      rcases x2 : isDg s[0] with _ | _
      · rw [x2] at hD2 hbeg
        have e1 : addT t s.data.toList = t ++ s.data.toList := by unfold addT; rw [hend, hbeg]; rfl
        have fin := Lib.hid (fun v' w' => single v' w' e1)
        replace hD1 := Lib.hid hD1
        replace hD2 := Lib.hid hD2
        clear single double hbeg hs0 e1 hc3 hend hc hJ hl hJn x1 x2
        go_enter Tryd.func62, Tryd.ntmps62
        go_wp2_with fail
        refine (hD1.out _).mono ?_
        rintro e w1 ⟨rfl, rfl⟩
        go_wp2_with fail
        refine (hD2.out _).mono ?_
        rintro e w1 ⟨rfl, rfl⟩
        go_wp2_with (at_builtin; refine Lib.wpList_append_own_string _ rfl _ _ 43 9 rfl B 5 i0 Tryd.underlying43 Tryd.underlying9 hi hz0 hz1 hz2 _ _ _ rfl h s rfl (by unfold maxLen; omega) (by omega) hB ?_; intro v' w1 hown hgr _)
        have f := fin.out v' w1 hown hgr
        first | go_ret | skip
        exact f
      · rw [x2] at hD2 hbeg
        have e1 : addT t s.data.toList = t ++ 32 :: s.data.toList := by unfold addT; rw [hend, hbeg]; rfl
        have fin := Lib.hid (fun v' w' => double v' w' e1)
        replace hD1 := Lib.hid hD1
        replace hD2 := Lib.hid hD2
        clear single double hbeg hs0 e1 hc3 hend hc hJ hl hJn x1 x2
        go_enter Tryd.func62, Tryd.ntmps62
        go_wp2_with fail
        refine (hD1.out _).mono ?_
        rintro e w1 ⟨rfl, rfl⟩
        go_wp2_with fail
        refine (hD2.out _).mono ?_
        rintro e w1 ⟨rfl, rfl⟩
        have hgA := World.grownBy_alloc w (.cells #[.int .u8 32] 5) (Value.slice (some ⟨g, 0, none⟩) n cap).ownBlock
        have hge := fun (x : World) (hx : (w.alloc (.cells #[.int .u8 32] 5)).grownBy x (Value.slice (some ⟨g, 0, none⟩) n cap).ownBlock) => hgA.trans hx
        replace hgA := Lib.hid hgA
        replace hge := Lib.hid hge
        go_wp2_with (first
          | (at_builtin; refine wpList_append_own_at _ rfl _ _ 43 rfl B 5 i0 (.int .u8 0) 1 1 Tryd.underlying43 hi hz0 hz1 hz2 rfl (by decide) _ _ _ rfl (h.alloc _) ⟨w.heap.size, 0, none⟩ 1 1 [.int .u8 32] rfl rfl (one_new _ _ _) (one_cell _ _) (by unfold maxLen; omega) (by omega) (by simp; omega) ?_; intro v1 w1 hown1 hgr1 _ hat1; obtain ⟨A1, c1, rfl, k1, k2, k3⟩ := own2_slice hown1; have hg1 := hge.out w1 hgr1; have hz1' := hg1.size; replace hat1 := Lib.hid hat1; replace hgr1 := Lib.hid hgr1; clear k3)
          | (at_builtin; refine Lib.wpList_append_own_string _ rfl _ _ 43 9 rfl B 5 i0 Tryd.underlying43 Tryd.underlying9 hi hz0 hz1 hz2 _ _ _ rfl hown1 s rfl (by unfold maxLen; omega) (by omega) (by omega) ?_; intro v2 w2 hown2 hgr2 _))
        have f := fin.out v2 w2 hown2 (hg1.andThen hgr2 (fun j hj => by
          rcases hat1.out with e | e
          · right
            have e : (Value.slice A1 (n + 1) c1).ownBlock = (Value.slice (some ⟨g, 0, none⟩) n cap).ownBlock := e
            rw [← e]; exact hj
          · left
            have e : (Value.slice A1 (n + 1) c1).ownBlock = some (w.alloc (.cells #[.int .u8 32] 5)).heap.size := e
            have hj : (Value.slice A1 (n + 1) c1).ownBlock = some j := hj
            rw [e, World.size_alloc] at hj
            injection hj with hj
            omega))
        first | go_ret | skip
        exact f
end Go.Proofs.YthmgocjmfhpafaaDoor.A18
