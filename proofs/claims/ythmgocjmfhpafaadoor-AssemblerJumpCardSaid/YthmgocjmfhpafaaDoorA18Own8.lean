/- The contract of the landed Disassemble (layer 18). -/
import Derived.Test.YthmgocjmfhpafaaDoorA18Own2
import Derived.Test.YthmgocjmfhpafaaDoorA18Dis
namespace Go.Proofs.YthmgocjmfhpafaaDoor.A18
set_option maxRecDepth 100000
open Go.RowKit Mem
set_option linter.unusedVariables false
set_option linter.unusedSimpArgs false

theorem join_any {B n cap : Nat} {A : Option Addr} {acc : List (List UInt8)} {w : World} (h : w.ownsRow B 9 1 (.slice A n cap) n (strVs acc)) (hn : n ≤ 1000000) (hl : (jn acc).length ≤ 10000000) :
    Calls Tryd.prog 38 #[.slice A n cap, .string ⟨#[32]⟩] w fun e w' => e = .returned (strV (jn acc)) ∧ Below w.heap.size w w' := by
  have hlen : acc.length = n := by have := h.1; rw [strVs_len] at this; omega
  by_cases h0 : n = 0
  · subst h0
    have : acc = [] := List.eq_nil_of_length_eq_zero hlen
    subst this
    exact (Tryd.strings_Join_none A cap ⟨#[32]⟩ w).mono fun e w' ⟨he, hw⟩ => ⟨he, hw ▸ Below.refl _ _⟩
  · obtain ⟨g, rfl, hgl, hc⟩ : ∃ g, A = some ⟨g, 0, none⟩ ∧ g < w.heap.size ∧ n ≤ cap := by
      rcases h.2 with ⟨e, _⟩ | ⟨g, cap', cur, e, _, _, h1, _⟩
      · injection e with _ e _; omega
      · injection e with e _ e2
        subst e2
        refine ⟨g, e, ?_, h1⟩
        subst e
        exact (h.lt g rfl).2
    have hx : (acc.map fun l => (⟨l.toArray⟩ : ByteArray)).length = n := by simp [hlen]
    have hm : (acc.map fun l => (⟨l.toArray⟩ : ByteArray)).map (·.data.toList) = acc := by
      rw [List.map_map]
      exact List.map_id' _ |>.symm ▸ rfl
    have c := Tryd.strings_Join g 0 cap (acc.map fun l => (⟨l.toArray⟩ : ByteArray)) ⟨#[32]⟩ w (fun j x hj => by
      have hj' : j < acc.length := by have := (List.getElem?_eq_some_iff.1 hj).1; simpa using this
      rw [Nat.zero_add, h.cellAt j (by omega)]
      rw [List.getElem?_map, List.getElem?_eq_getElem hj'] at hj
      simp at hj
      subst hj
      simp [strVs, List.getElem?_eq_getElem hj']
      rfl) hgl (by omega) (by omega) (by rw [hm]; show (Lib.join acc [32]).length ≤ _; rw [join_jn]; omega)
    rw [hx, hm] at c
    refine c.mono fun e w' ⟨he, hw⟩ => ⟨?_, hw⟩
    rw [he]
    show Ending.returned (strV (Lib.join acc [32])) = _
    rw [join_jn]
/-- A run of digits is read. -/
theorem dis_run (c : UInt8) (r : List UInt8) (h : isDg c = true) : dis [] (c :: r) = (c :: r).take (pre isDg (c :: r)) :: dis [] ((c :: r).drop (pre isDg (c :: r))) := by
  rw [drop_pre, take_pre]
  conv => lhs; rw [← List.takeWhile_append_dropWhile (p := isDg) (l := c :: r)]
  rw [dis_word _ _ _ while_mem, List.nil_append, dis_end _ _ while_head, fw_cons (by rw [List.takeWhile_cons_of_pos h]; simp)]
  rfl
def okc (c : UInt8) : Bool := isIn c || isSp c
theorem bad_no {l : List UInt8} (h : ∀ c ∈ l, okc c = true) : badB l = false := by
  unfold badB
  rw [List.any_eq_false]
  intro c hc
  have := h c hc
  unfold okc at this
  rcases e1 : isIn c with _ | _ <;> rcases e2 : isSp c with _ | _ <;> simp [e1, e2] at this ⊢
theorem bad_yes {l : List UInt8} {c : UInt8} (hc : c ∈ l) (h : okc c = false) : badB l = true := by
  unfold badB
  rw [List.any_eq_true]
  refine ⟨c, hc, ?_⟩
  unfold okc at h
  rcases e1 : isIn c with _ | _ <;> rcases e2 : isSp c with _ | _ <;> simp [e1, e2] at h ⊢
/-- What Disassemble hands back. -/
def DmP (d : Dsm) (w : World) (e : Ending) (w' : World) : Prop := e = .returned (.tuple #[strV d.text, .int .i64 (d.err : Int)]) ∧ Below w.heap.size w w'
theorem strVs_cons (l : List (List UInt8)) (x : List UInt8) : strVs (l ++ [x]) = strVs l ++ [strV x] := strVs_snoc l x
set_option maxHeartbeats 8000000 in
theorem Disassemble_any (s : ByteArray) (hs : s.size ≤ 1000000) (w : World) : Calls Tryd.prog 15 #[.string s] w (DmP (dsm s.data.toList) w) := by
  have hn : s.data.toList.length = s.size := by simp
  obtain ⟨i0, hi, hz0, hz1, hz2⟩ := info_parts info_str
  have cP := Lib.hid (fun (x : ByteArray) (hx : x.size ≤ 1000000) W => prefix_any isDigit_any ent_digit x hx W)
  have cD := Lib.hid isDigit_any
  have cS := Lib.hid isSign_any
  have cB := Lib.hid isSpace_any
  obtain ⟨Dl, hDl⟩ : ∃ Dl, dis [] s.data.toList = Dl := ⟨_, rfl⟩
  have hstart : Dl = [] ++ dis [] (s.data.toList.drop 0) := by rw [← hDl]; rfl
  have hjl : (jn Dl).length ≤ 10000000 := by have := dsm_len s.data.toList; rw [hDl] at this; omega
  have hbad : ∀ (k : Nat) (w' : World) (hk : k < s.size), okc s[k] = false → Below w.heap.size w w' → DmP (dsm s.data.toList) w (.returned (.tuple #[.string ⟨#[]⟩, .int .i64 3])) w' := fun k w' hk h1 h2 => by
    have : dsm s.data.toList = ⟨[], 3⟩ := by unfold dsm; rw [bad_yes (c := s[k]) (by rw [← ba_get s k hk]; exact List.getElem_mem _) h1]; rfl
    rw [this]
    exact ⟨rfl, h2⟩
  have hgoal : ∀ (w' : World), (∀ c ∈ s.data.toList, okc c = true) → Below w.heap.size w w' → DmP (dsm s.data.toList) w (.returned (.tuple #[strV (jn Dl), .int .i64 0])) w' := fun w' h1 h2 => by
    have : dsm s.data.toList = ⟨jn Dl, 0⟩ := by unfold dsm; rw [bad_no h1, hDl]; rfl
    rw [this]
    exact ⟨rfl, h2⟩
  obtain ⟨P, hP⟩ : ∃ P, DmP (dsm s.data.toList) w = P := ⟨_, rfl⟩
  rw [hP] at hgoal hbad ⊢
  have o1 := Lib.hid (show w.ownsRow w.heap.size 9 1 (.slice none 0 0) 0 (strVs []) from own_none w w.heap.size 9 1)
  replace hgoal := Lib.hid hgoal
  replace hbad := Lib.hid hbad
  replace hn := Lib.hid hn
  replace hstart := Lib.hid hstart
  replace hjl := Lib.hid hjl
  clear hP hDl
  show Calls _ _ _ _ (fun e w' => P e w')
  go_enter Tryd.func15, Tryd.ntmps15
  go_wp2
  go_loopw [4, 5] (fun tv iv wr => ∃ (k : Nat) (v : Value) (acc : List (List UInt8)), v = tv ∧ iv = .int .i64 (k : Int) ∧ k ≤ s.size ∧ acc.length ≤ k ∧ Hid (Dl = acc ++ dis [] (s.data.toList.drop k)) ∧ Hid (∀ c ∈ s.data.toList.take k, okc c = true) ∧ Hid (wr.ownsRow w.heap.size 9 1 v acc.length (strVs acc)) ∧ Hid (Below w.heap.size w wr)) (fun _ iv _ => s.size - (intOf iv).toNat)
  case atStart => exact ⟨0, _, [], rfl, rfl, Nat.zero_le _, Nat.zero_le _, hstart, Lib.hid (by simp), o1, Lib.hid (Below.refl _ _)⟩
  case round =>
    clear o1 hstart
    obtain ⟨k, v, acc, rfl, rfl, hk, ha, hrest, hok, hrow, hb⟩ := hrel
    by_cases hlt : k < s.size
    · have dk : decide ((k : Int) < (s.size : Int)) = true := decide_eq_true (by omega)
      have dk2 : decide (k < s.size) = true := decide_eq_true hlt
      have k0 : (0 : Int) ≤ (k : Int) := by omega
      have k1 : (k : Int) < (s.size : Int) := by omega
      have k3 : (k : Int) ≤ 1000000 := by omega
      have hdr := drop_get s k hlt
      have hbk := fun w' => hbad.out k w' hlt
      have htk := List.take_succ_eq_append_getElem (l := s.data.toList) (i := k) (by rw [hn.out]; exact hlt)
      rw [ba_get s k hlt] at htk
      have c1 := cD.out s[k]
      have c2 := cS.out s[k]
      have c3 := cB.out s[k]
      obtain ⟨c, hcc⟩ : ∃ c, s[k] = c := ⟨_, rfl⟩
      rw [hcc] at hdr hbk htk c1 c2 c3
      have hok1 : okc c = true → ∀ x ∈ s.data.toList.take (k + 1), okc x = true := fun h x hx => by
        rw [htk] at hx
        rcases List.mem_append.1 hx with hx | hx
        · exact hok.out x hx
        · rw [List.mem_singleton.1 hx]; exact h
      rcases x1 : isDg c with _ | _
      · rw [x1] at c1
        rcases x2 : isSg c with _ | _
        · rw [x2] at c2
          have hi' : isIn c = false := by unfold isIn; rw [x1, x2]; rfl
          rcases x3 : isSp c with _ | _
          · rw [x3] at c3
            have hf := Lib.hid (hbk wr (by unfold okc; rw [hi', x3]; rfl) hb.out)
            have c1 := Lib.hid c1
            have c2 := Lib.hid c2
            have c3 := Lib.hid c3
            clear hdr hbk htk hok1 x1 x2 x3 hi' hrest hok hrow hb hgoal hbad cP cD cS cB
            go_wp2_with fail
            refine (c1.out _).mono ?_
            rintro e w3 ⟨rfl, rfl⟩
            go_wp2_with fail
            refine (c2.out _).mono ?_
            rintro e w3 ⟨rfl, rfl⟩
            go_wp2_with fail
            refine (c3.out _).mono ?_
            rintro e w3 ⟨rfl, rfl⟩
            go_wp2
            first | go_ret2 | skip
            exact hf.out
          · rw [x3] at c3
            have hr2 := Lib.hid (show Dl = acc ++ dis [] (s.data.toList.drop (k + 1)) by rw [hrest.out, hdr, dis_sp [] _ hi', fw_nil, List.nil_append])
            have hok2 := Lib.hid (hok1 (by unfold okc; rw [x3]; simp))
            have c1 := Lib.hid c1
            have c2 := Lib.hid c2
            have c3 := Lib.hid c3
            clear hdr hbk htk hok1 x1 x2 x3 hi' hrest hok hgoal hbad cP cD cS cB
            go_wp2_with fail
            refine (c1.out _).mono ?_
            rintro e w3 ⟨rfl, rfl⟩
            go_wp2_with fail
            refine (c2.out _).mono ?_
            rintro e w3 ⟨rfl, rfl⟩
            go_wp2_with fail
            refine (c3.out _).mono ?_
            rintro e w3 ⟨rfl, rfl⟩
            go_wp2
            go_roundw
            case rel => exact ⟨k + 1, v, acc, rfl, by go_num, by omega, by omega, hr2, hok2, hrow, hb⟩
            case measure => simp [intOf]; omega
        · rw [x2] at c2
          have hr2 := Lib.hid (show Dl = (acc ++ [[c]]) ++ dis [] (s.data.toList.drop (k + 1)) by rw [hrest.out, hdr, dis_sg [] _ x2, fw_nil, List.nil_append, List.append_assoc]; rfl)
          have hok2 := Lib.hid (hok1 (by unfold okc isIn; rw [x2]; simp))
          obtain ⟨J, hJ⟩ : ∃ J, k + 1 = J := ⟨_, rfl⟩
          have hS : strV [c] = .string (s.extract k J) := by
            unfold strV
            rw [str_of _ (s.extract k J) (by rw [ext_list, show J - k = 1 by omega, hdr]; rfl)]
          have hsn := strVs_cons acc [c]
          rw [hS] at hsn
          have eJ : (k : Int) + 1 = (J : Int) := by omega
          have hJ2 : J ≤ s.size := by omega
          have J0 : (0 : Int) ≤ (J : Int) := by omega
          have J1 : (J : Int) ≤ (s.size : Int) := by omega
          have J2 : (k : Int) ≤ (J : Int) := by omega
          have J3 : k ≤ J := by omega
          have eJN := Lib.hid hJ
          rw [hJ] at hr2 hok2
          obtain ⟨acl, hacl⟩ : ∃ x, acc.length = x := ⟨_, rfl⟩
          rw [hacl] at hrow ha
          have hacl2 := Lib.hid (show (acc ++ [[c]]).length = acl + 1 by rw [List.length_append, hacl]; rfl)
          have hro := hrow.out
          have hbo := hb.out
          have hbs := hbo.size
          have c1 := Lib.hid c1
          have c2 := Lib.hid c2
          replace hsn := Lib.hid hsn
          clear hdr hbk htk hok1 x1 x2 hrest hok hgoal hbad cP cD cS cB c3 hS hacl hrow hb hJ
          go_wp2_with fail
          refine (c1.out _).mono ?_
          rintro e w3 ⟨rfl, rfl⟩
          go_wp2_with fail
          refine (c2.out _).mono ?_
          rintro e w3 ⟨rfl, rfl⟩
          go_wp2_with (at_builtin; refine wpList_append_own _ rfl _ _ 32 rfl w.heap.size 9 i0 (.string ⟨#[]⟩) 1 16 Tryd.underlying32 hi hz0 hz1 hz2 rfl (by decide) _ _ _ rfl (hro.alloc _) ⟨wr.heap.size, 0, none⟩ 1 1 [.string (s.extract k J)] rfl rfl (one_new _ _ _) (one_str _) (by unfold maxLen; omega) (by omega) (by simp; omega) ?_; intro v' w6 hown' hgrow _)
          have hb6 := Lib.hid ((hbo.alloc hbs _).grown hgrow (by simp; omega) (fun j hj => (hro.lt j hj).1))
          rw [← hsn.out] at hown'
          have hown' := Lib.hid hown'
          clear hgrow hro hbo
          go_wp2
          go_roundw
          case rel => exact ⟨J, _, acc ++ [[c]], rfl, by go_num, by omega, by rw [hacl2.out]; have := eJN.out; omega, hr2, hok2, by rw [hacl2.out]; exact hown', hb6⟩
          case measure => have := eJN.out; simp [intOf]; omega
      · rw [x1] at c1
        have hxs : (s.extract k s.size).data.toList = s.data.toList.drop k := by
          rw [ext_list]
          exact List.take_of_length_le (by rw [List.length_drop, hn.out]; exact Nat.le_refl _)
        have hxz : (s.extract k s.size).size ≤ 1000000 := by rw [ByteArray.size_extract]; omega
        have c4 := cP.out (s.extract k s.size) hxz
        rw [hxs] at c4
        have hz1' : 1 ≤ pre isDg (s.data.toList.drop k) := by rw [hdr]; exact pre_pos x1
        have hz2' : pre isDg (s.data.toList.drop k) ≤ s.size - k := by have := pre_le isDg (s.data.toList.drop k); rw [List.length_drop, hn.out] at this; exact this
        have hr2 : Dl = (acc ++ [(s.data.toList.drop k).take (pre isDg (s.data.toList.drop k))]) ++ dis [] (s.data.toList.drop (k + pre isDg (s.data.toList.drop k))) := by
          rw [hrest.out, ← List.drop_drop, List.append_assoc]
          congr 1
          rw [hdr]
          exact dis_run c _ x1
        have hok2 : ∀ x ∈ s.data.toList.take (k + pre isDg (s.data.toList.drop k)), okc x = true := fun x hx => by
          rw [List.take_add, take_pre] at hx
          rcases List.mem_append.1 hx with hx | hx
          · exact hok.out x hx
          · unfold okc isIn; rw [while_mem x hx]; rfl
        obtain ⟨Z, hZ⟩ : ∃ Z, pre isDg (s.data.toList.drop k) = Z := ⟨_, rfl⟩
        rw [hZ] at c4 hz1' hz2' hr2 hok2
        obtain ⟨J, hJ⟩ : ∃ J, k + Z = J := ⟨_, rfl⟩
        rw [hJ] at hr2 hok2
        have hS : strV ((s.data.toList.drop k).take Z) = .string (s.extract k J) := by
          unfold strV
          rw [str_of _ (s.extract k J) (by rw [ext_list, show J - k = Z by omega])]
        obtain ⟨T, hT⟩ : ∃ T, (s.data.toList.drop k).take Z = T := ⟨_, rfl⟩
        rw [hT] at hr2 hS
        have hsn := strVs_cons acc T
        rw [hS] at hsn
        have eJ : (k : Int) + (Z : Int) = (J : Int) := by omega
        have hJ2 : J ≤ s.size := by omega
        have hJ3 : k < J := by omega
        have J0 : (0 : Int) ≤ (J : Int) := by omega
        have J1 : (J : Int) ≤ (s.size : Int) := by omega
        have J2 : (k : Int) ≤ (J : Int) := by omega
        have Z0 : (0 : Int) ≤ (Z : Int) := by omega
        have Z1 : (Z : Int) ≤ 1000000 := by omega
        obtain ⟨acl, hacl⟩ : ∃ x, acc.length = x := ⟨_, rfl⟩
        rw [hacl] at hrow ha
        have hacl2 := Lib.hid (show (acc ++ [T]).length = acl + 1 by rw [List.length_append, hacl]; rfl)
        have hro := hrow.out
        have hbo := hb.out
        have hbs := hbo.size
        have c1 := Lib.hid c1
        have c4 := Lib.hid c4
        replace hsn := Lib.hid hsn
        replace hr2 := Lib.hid hr2
        replace hok2 := Lib.hid hok2
        clear hdr hbk htk hok1 x1 hrest hok hgoal hbad cP cD cS cB c3 hS hacl hrow hb hJ c2 hZ hT hxs hxz
        go_wp2_with fail
        refine (c1.out _).mono ?_
        rintro e w3 ⟨rfl, rfl⟩
        go_wp2_with fail
        refine (c4.out _).mono ?_
        rintro e w3 ⟨rfl, rfl⟩
        go_wp2_with (at_builtin; refine wpList_append_own _ rfl _ _ 32 rfl w.heap.size 9 i0 (.string ⟨#[]⟩) 1 16 Tryd.underlying32 hi hz0 hz1 hz2 rfl (by decide) _ _ _ rfl (hro.alloc _) ⟨wr.heap.size, 0, none⟩ 1 1 [.string (s.extract k J)] rfl rfl (one_new _ _ _) (one_str _) (by unfold maxLen; omega) (by omega) (by simp; omega) ?_; intro v' w6 hown' hgrow _)
        have hb6 := Lib.hid ((hbo.alloc hbs _).grown hgrow (by simp; omega) (fun j hj => (hro.lt j hj).1))
        rw [← hsn.out] at hown'
        have hown' := Lib.hid hown'
        clear hgrow hro hbo
        go_wp2
        go_roundw
        case rel => exact ⟨J, _, acc ++ [T], rfl, by go_num, by omega, by rw [hacl2.out]; omega, hr2, hok2, by rw [hacl2.out]; exact hown', hb6⟩
        case measure => simp [intOf]; omega
    · obtain rfl : k = s.size := by omega
      have dk : decide ((s.size : Int) < (s.size : Int)) = false := decide_eq_false (by omega)
      have hD : Dl = acc := by rw [hrest.out, List.drop_of_length_le (by rw [hn.out]; exact Nat.le_refl _), dis_nil, fw_nil, List.append_nil]
      have hall : ∀ c ∈ s.data.toList, okc c = true := by have := hok.out; rwa [List.take_of_length_le (by rw [hn.out]; exact Nat.le_refl _)] at this
      have hg := fun w' => hgoal.out w' hall
      have hro := hrow.out
      have hj := hjl.out
      rw [hD] at hg hj
      obtain ⟨A, cap, rfl, q1, q2, q3⟩ := own2_slice hro
      have cJ := Lib.hid (join_any hro (by omega) hj)
      unfold strV at cJ hg
      obtain ⟨SJ, hSJ⟩ : ∃ S : ByteArray, ⟨(jn acc).toArray⟩ = S := ⟨_, rfl⟩
      rw [hSJ] at cJ hg
      replace hg := Lib.hid hg
      clear hrest hok hgoal hbad cP cD cS cB hro hrow hall hj hD hjl
      go_wp2_with fail
      refine (cJ.out).mono ?_
      rintro e w3 ⟨rfl, hb3⟩
      have hf := Lib.hid (hg.out w3 (chain hb.out hb3))
      go_wp2
      first | go_ret2 | skip
      exact hf.out
end Go.Proofs.YthmgocjmfhpafaaDoor.A18
