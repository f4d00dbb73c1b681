/- The contract of the reference's Disassemble (layer 18). -/
import Derived.Test.YthmgocjmfhpafaaDoorA18Ref3
import Derived.Test.YthmgocjmfhpafaaDoorA18Own8
namespace Go.Proofs.YthmgocjmfhpafaaDoor.A18
set_option maxRecDepth 100000
open Go.RowKit Mem
set_option linter.unusedVariables false
set_option linter.unusedSimpArgs false

theorem jn_ne {l : List (List UInt8)} (h : ∀ w ∈ l, w ≠ []) : jn l = [] ↔ l = [] := by
  cases l with
  | nil => exact ⟨fun _ => rfl, fun _ => rfl⟩
  | cons w r =>
    refine ⟨fun e => ?_, fun e => by cases e⟩
    exfalso
    have hw := h w (by simp)
    by_cases hr : r = []
    · subst hr
      exact hw e
    · rw [jn_cons w hr] at e
      simp at e
theorem jn_ext (l : List (List UInt8)) (w : List UInt8) (c : UInt8) : jn (l ++ [w ++ [c]]) = jn (l ++ [w]) ++ [c] := by
  rw [jn_snoc, jn_snoc]
  split
  · rfl
  · simp
/-- What has been written, where ts has been read and cur is being read. -/
structure Dw (l : List UInt8) (k : Nat) (S : ByteArray) (ts : List (List UInt8)) (cur : List UInt8) : Prop where
  out : S.data.toList = jn (ts ++ fw cur)
  rest : dis [] l = ts ++ dis cur (l.drop k)
  ok : ∀ c ∈ l.take k, okc c = true
  ne : ∀ w ∈ ts, w ≠ []
  prev : cur ≠ [] → ∃ j, k = j + 1 ∧ ∃ c, l[j]? = some c ∧ isDg c = true
  none_ : cur = [] → ∀ j c, k = j + 1 → l[j]? = some c → isDg c = false
  size : S.size ≤ 2 * k
theorem fw_ne (cur : List UInt8) : ∀ w ∈ fw cur, w ≠ [] := by
  unfold fw
  split
  · simp
  · rename_i h
    intro w hw
    rw [List.mem_singleton.1 hw]
    exact h
theorem Dw.all {l : List UInt8} {k : Nat} {S : ByteArray} {ts : List (List UInt8)} {cur : List UInt8} (h : Dw l k S ts cur) : ∀ w ∈ ts ++ fw cur, w ≠ [] := fun w hw => by
  rcases List.mem_append.1 hw with hw | hw
  · exact h.ne w hw
  · exact fw_ne cur w hw
theorem Dw.empty {l : List UInt8} {k : Nat} {S : ByteArray} {ts : List (List UInt8)} {cur : List UInt8} (h : Dw l k S ts cur) : S.size = 0 ↔ ts ++ fw cur = [] := by
  rw [← jn_ne h.all, ← h.out]
  have : S.data.toList.length = S.size := by simp
  constructor
  · intro e; exact List.eq_nil_of_length_eq_zero (by omega)
  · intro e; rw [← this, e]; rfl
theorem take_ok {l : List UInt8} {k : Nat} {c : UInt8} (h : ∀ c ∈ l.take k, okc c = true) (hc : l[k]? = some c) (ho : okc c = true) : ∀ c ∈ l.take (k + 1), okc c = true := fun x hx => by
  obtain ⟨hk, rfl⟩ := List.getElem?_eq_some_iff.1 hc
  rw [List.take_succ_eq_append_getElem hk] at hx
  rcases List.mem_append.1 hx with hx | hx
  · exact h x hx
  · rw [List.mem_singleton.1 hx]; exact ho
theorem drop_cons {l : List UInt8} {k : Nat} {c : UInt8} (hc : l[k]? = some c) : l.drop k = c :: l.drop (k + 1) := by
  obtain ⟨hk, rfl⟩ := List.getElem?_eq_some_iff.1 hc
  rw [List.getElem_cons_drop]
/-- A space is passed over. -/
theorem Dw.space {l : List UInt8} {k : Nat} {S : ByteArray} {ts : List (List UInt8)} {cur : List UInt8} (h : Dw l k S ts cur) {c : UInt8} (hc : l[k]? = some c) (hi : isIn c = false) (hs : isSp c = true) : Dw l (k + 1) S (ts ++ fw cur) [] where
  out := by rw [h.out, fw_nil, List.append_nil]
  rest := by rw [h.rest, drop_cons hc, dis_sp cur _ hi, List.append_assoc]
  ok := take_ok h.ok hc (by unfold okc; rw [hs]; simp)
  ne := h.all
  prev := fun e => absurd rfl e
  none_ := fun _ j d e hd => by
    obtain rfl : k = j := by omega
    rw [hc] at hd
    injection hd with hd
    rw [← hd]
    unfold isIn at hi
    simp only [Bool.or_eq_false_iff] at hi
    exact hi.1
  size := by have := h.size; omega
/-- A sign is a token of its own. -/
theorem Dw.sign {l : List UInt8} {k : Nat} {S S' : ByteArray} {ts : List (List UInt8)} {cur : List UInt8} (h : Dw l k S ts cur) {c : UInt8} (hc : l[k]? = some c) (hs : isSg c = true) (h' : S'.data.toList = if S.size = 0 then [c] else S.data.toList ++ [32] ++ [c]) : Dw l (k + 1) S' (ts ++ fw cur ++ [[c]]) [] where
  out := by
    rw [h', fw_nil, List.append_nil, jn_snoc]
    by_cases e : S.size = 0
    · rw [if_pos e, if_pos (h.empty.1 e)]
    · rw [if_neg e, if_neg (fun x => e (h.empty.2 x)), h.out, List.append_assoc]
      rfl
  rest := by rw [h.rest, drop_cons hc, dis_sg cur _ hs]; simp
  ok := take_ok h.ok hc (by unfold okc isIn; rw [hs]; simp)
  ne := fun w hw => by
    rcases List.mem_append.1 hw with hw | hw
    · exact h.all w hw
    · rw [List.mem_singleton.1 hw]; simp
  prev := fun e => absurd rfl e
  none_ := fun _ j d e hd => by
    obtain rfl : k = j := by omega
    rw [hc] at hd
    injection hd with hd
    rw [← hd]
    rcases x : isDg c with _ | _
    · rfl
    · rw [dg_sg c x] at hs; cases hs
  size := by
    have h1 := h.size
    have h2 : S'.data.toList.length = S'.size := by simp
    have h3 : S.data.toList.length = S.size := by simp
    rw [← h2, h']
    split
    · simp only [List.length_cons, List.length_nil]; omega
    · simp only [List.length_append, List.length_cons, List.length_nil]; omega
/-- A digit goes on. -/
theorem Dw.more {l : List UInt8} {k : Nat} {S S' : ByteArray} {ts : List (List UInt8)} {cur : List UInt8} (h : Dw l k S ts cur) {c : UInt8} (hc : l[k]? = some c) (hd : isDg c = true) (h0 : cur ≠ []) (h' : S'.data.toList = S.data.toList ++ [c]) : Dw l (k + 1) S' ts (cur ++ [c]) where
  out := by rw [h', h.out, fw_cons h0, fw_cons (by simp), jn_ext]
  rest := by rw [h.rest, drop_cons hc, dis_dg cur _ hd]
  ok := take_ok h.ok hc (by unfold okc isIn; rw [hd]; simp)
  ne := h.ne
  prev := fun _ => ⟨k, rfl, c, hc, hd⟩
  none_ := fun e => by simp at e
  size := by
    have h1 := h.size
    have h2 : S'.data.toList.length = S'.size := by simp
    have h3 : S.data.toList.length = S.size := by simp
    rw [← h2, h', List.length_append, h3]
    simp only [List.length_cons, List.length_nil]
    omega
/-- A digit begins a token. -/
theorem Dw.first {l : List UInt8} {k : Nat} {S S' : ByteArray} {ts : List (List UInt8)} (h : Dw l k S ts []) {c : UInt8} (hc : l[k]? = some c) (hd : isDg c = true) (h' : S'.data.toList = if S.size = 0 then [c] else S.data.toList ++ [32] ++ [c]) : Dw l (k + 1) S' ts [c] where
  out := by
    rw [h', fw_cons (by simp), jn_snoc]
    have he := h.empty
    rw [fw_nil, List.append_nil] at he
    have ho := h.out
    rw [fw_nil, List.append_nil] at ho
    by_cases e : S.size = 0
    · rw [if_pos e, if_pos (he.1 e)]
    · rw [if_neg e, if_neg (fun x => e (he.2 x)), ho, List.append_assoc]
      rfl
  rest := by rw [h.rest, drop_cons hc, dis_dg [] _ hd, List.nil_append]
  ok := take_ok h.ok hc (by unfold okc isIn; rw [hd]; simp)
  ne := h.ne
  prev := fun _ => ⟨k, rfl, c, hc, hd⟩
  none_ := fun e => by simp at e
  size := by
    have h1 := h.size
    have h2 : S'.data.toList.length = S'.size := by simp
    have h3 : S.data.toList.length = S.size := by simp
    rw [← h2, h']
    split
    · simp only [List.length_cons, List.length_nil]; omega
    · simp only [List.length_append, List.length_cons, List.length_nil]; omega
set_option maxHeartbeats 16000000 in
theorem rDisassemble_any (s : ByteArray) (hs : s.size ≤ 1000000) (w : World) : Calls Tryd.prog 16 #[.string s] w (DmP (dsm s.data.toList) w) := by
  have hn : s.data.toList.length = s.size := by simp
  have cD := Lib.hid rdigit_any
  have cS := Lib.hid rsign_any
  have hgk := Lib.hid (fun (k : Nat) (hk : k < s.size) => show s.data.toList[k]? = some s[k] by rw [List.getElem?_eq_getElem (by omega), ba_get s k hk])
  have hbad : ∀ (k : Nat) (hk : k < s.size), okc s[k] = false → DmP (dsm s.data.toList) w (.returned (.tuple #[.string ⟨#[]⟩, .int .i64 3])) w := fun k hk h1 => by
    have : dsm s.data.toList = ⟨[], 3⟩ := by unfold dsm; rw [bad_yes (c := s[k]) (by rw [← ba_get s k hk]; exact List.getElem_mem _) h1]; rfl
    rw [this]
    exact ⟨rfl, Below.refl _ _⟩
  have hgoal : ∀ (S : ByteArray) (ts : List (List UInt8)) (cur : List UInt8), Dw s.data.toList s.size S ts cur → DmP (dsm s.data.toList) w (.returned (.tuple #[.string S, .int .i64 0])) w := fun S ts cur h => by
    have hall : ∀ c ∈ s.data.toList, okc c = true := by have := h.ok; rwa [List.take_of_length_le (by omega)] at this
    have hr := h.rest
    rw [List.drop_of_length_le (by omega), dis_nil] at hr
    have : dsm s.data.toList = ⟨jn (ts ++ fw cur), 0⟩ := by unfold dsm; rw [bad_no hall, hr]; rfl
    rw [this]
    exact ⟨by rw [← strV_of S h.out]; rfl, Below.refl _ _⟩
  have hstart := Lib.hid (show Dw s.data.toList 0 ⟨#[]⟩ [] [] from ⟨rfl, rfl, by simp, by simp, fun h => absurd rfl h, fun _ j c h => by omega, Nat.le_refl _⟩)
  obtain ⟨P, hP⟩ : ∃ P, DmP (dsm s.data.toList) w = P := ⟨_, rfl⟩
  rw [hP] at hgoal hbad ⊢
  replace hgoal := Lib.hid hgoal
  replace hbad := Lib.hid hbad
  clear hP hn
  show Calls _ _ _ _ (fun e w' => P e w')
  go_enter Tryd.func16, Tryd.ntmps16
  go_wp2
  go_loop [4, 5] (fun sv iv => ∃ (k : Nat) (S : ByteArray) (ts : List (List UInt8)) (cur : List UInt8), sv = .string S ∧ iv = .int .i64 (k : Int) ∧ k ≤ s.size ∧ Hid (Dw s.data.toList k S ts cur)) (fun _ iv => s.size - (intOf iv).toNat)
  case atStart => exact ⟨0, ⟨#[]⟩, [], [], rfl, rfl, Nat.zero_le _, hstart⟩
  case round =>
    clear hstart
    obtain ⟨k, S, ts, cur, rfl, rfl, hk, hD⟩ := hrel
    by_cases hlt : k < s.size
    · have dk : decide ((k : Int) < (s.size : Int)) = true := decide_eq_true (by omega)
      have dk2 : decide (k < s.size) = true := decide_eq_true hlt
      have k0 : (0 : Int) ≤ (k : Int) := by omega
      have k1 : (k : Int) < (s.size : Int) := by omega
      have k3 : (k : Int) ≤ 1000000 := by omega
      have hgc := hgk.out k hlt
      have hbk := hbad.out k hlt
      have c1 := cD.out s[k]
      have c2 := cS.out s[k]
      obtain ⟨J, hJ⟩ : ∃ J, k + 1 = J := ⟨_, rfl⟩
      have eJ : (k : Int) + 1 = (J : Int) := by omega
      have J0 : (0 : Int) ≤ (J : Int) := by omega
      have J1 : (J : Int) ≤ (s.size : Int) := by omega
      have J1n : J ≤ s.size := by omega
      have J2 : (k : Int) ≤ (J : Int) := by omega
      have J3 : k ≤ J := by omega
      have hdr := drop_get s k hlt
      have hex : (s.extract k J).data.toList = [s[k]] := by rw [ext_list, show J - k = 1 by omega, hdr]; rfl
      have hexz : (s.extract k J).size = 1 := by rw [ByteArray.size_extract]; omega
      have hexI : ((s.extract k J).size : Int) ≤ 1 := by omega
      have hSz := hD.out.size
      have hSI : (S.size : Int) ≤ 2000000 := by omega
      obtain ⟨c, hcc⟩ : ∃ c, s[k] = c := ⟨_, rfl⟩
      have t32 := tst c 32 (by decide)
      have t10 := tst c 10 (by decide)
      rw [show ((32 : Nat) : Int) = 32 from rfl, show UInt8.ofNat 32 = 32 from rfl] at t32
      rw [show ((10 : Nat) : Int) = 10 from rfl, show UInt8.ofNat 10 = 10 from rfl] at t10
      rw [hcc] at hgc hbk c1 c2 hex
      obtain ⟨SE, hSE⟩ : ∃ SE, s.extract k J = SE := ⟨_, rfl⟩
      rw [hSE] at hex hexz hexI
      have hJh := Lib.hid hJ
      by_cases e32 : c = 32
      · subst e32
        have hn2 := Lib.hid (hD.out.space hgc (by decide) (by decide))
        rw [hJ] at hn2
        clear t32 t10 hgc hbk c1 c2 hex hexz hdr hD hgk hgoal hbad cD cS hSE hSz hJ
        go_wp2
        go_round
        case rel => exact ⟨J, S, _, _, rfl, by go_num, by omega, hn2⟩
        case measure => have := hJh.out; simp [intOf]; omega
      have f32 : (c == 32) = false := by simpa using e32
      rw [f32] at t32
      by_cases e10 : c = 10
      · subst e10
        have hn2 := Lib.hid (hD.out.space hgc (by decide) (by decide))
        rw [hJ] at hn2
        clear t10 hgc hbk c1 c2 hex hexz hdr hD hgk hgoal hbad cD cS hSE hSz hJ
        go_wp2
        go_round
        case rel => exact ⟨J, S, _, _, rfl, by go_num, by omega, hn2⟩
        case measure => have := hJh.out; simp [intOf]; omega
      have f10 : (c == 10) = false := by simpa using e10
      rw [f10] at t10
      have hsp : isSp c = false := by unfold isSp; rw [f32, f10]; rfl
      rcases x1 : isDg c with _ | _
      · rw [x1] at c1
        rcases x2 : isSg c with _ | _
        · rw [x2] at c2
          have hf := Lib.hid (hbk (by unfold okc isIn; rw [x1, x2, hsp]; rfl))
          replace c1 := Lib.hid c1
          replace c2 := Lib.hid c2
          clear hgc hbk hex hexz hdr hD hgk hgoal hbad cD cS hSz hJ hSE
          go_wp2_with fail
          refine (c1.out _).mono ?_
          rintro e w1 ⟨rfl, rfl⟩
          go_wp2_with fail
          refine (c2.out _).mono ?_
          rintro e w1 ⟨rfl, rfl⟩
          go_wp2
          first | go_ret2 | skip
          exact hf.out
        · rw [x2] at c2
          by_cases h0 : S.size = 0
          · have hn2 := hD.out.sign (S' := SE) hgc x2 (by rw [if_pos h0, hex])
            rw [hJ] at hn2
            replace hn2 := Lib.hid hn2
            obtain rfl := str_empty h0
            have hes : ByteArray.empty ++ SE = SE := by apply ByteArray.ext; rw [ByteArray.data_append]; simp
            replace c1 := Lib.hid c1
            replace c2 := Lib.hid c2
            clear hgc hbk hex hexz hdr hD hgk hgoal hbad cD cS hSz hJ
            go_wp2_with fail
            refine (c1.out _).mono ?_
            rintro e w1 ⟨rfl, rfl⟩
            go_wp2_with fail
            refine (c2.out _).mono ?_
            rintro e w1 ⟨rfl, rfl⟩
            go_wp2
            go_round
            case rel => exact ⟨J, SE, _, _, rfl, by go_num, by omega, hn2⟩
            case measure => have := hJh.out; simp [intOf]; omega
          · obtain ⟨e1, e2, e3⟩ := str_ne h0
            have hn2 := hD.out.sign (S' := S ++ ⟨#[32]⟩ ++ SE) hgc x2 (by rw [if_neg h0, cat_list, cat_list, hex])
            rw [hJ] at hn2
            replace hn2 := Lib.hid hn2
            replace c1 := Lib.hid c1
            replace c2 := Lib.hid c2
            clear hgc hbk hex hexz hdr hD hgk hgoal hbad cD cS hSz hJ h0
            go_wp2_with fail
            refine (c1.out _).mono ?_
            rintro e w1 ⟨rfl, rfl⟩
            go_wp2_with fail
            refine (c2.out _).mono ?_
            rintro e w1 ⟨rfl, rfl⟩
            go_wp2_with fail
            refine (c1.out _).mono ?_
            rintro e w1 ⟨rfl, rfl⟩
            go_wp2
            go_round
            case rel => exact ⟨J, S ++ ⟨#[32]⟩ ++ SE, _, _, rfl, by go_num, by omega, hn2⟩
            case measure => have := hJh.out; simp [intOf]; omega
      · rw [x1] at c1
        by_cases hcur : cur = []
        · subst hcur
          by_cases h0 : S.size = 0
          · have hn2 := hD.out.first (S' := SE) hgc x1 (by rw [if_pos h0, hex])
            rw [hJ] at hn2
            replace hn2 := Lib.hid hn2
            obtain rfl := str_empty h0
            have hes : ByteArray.empty ++ SE = SE := by apply ByteArray.ext; rw [ByteArray.data_append]; simp
            replace c1 := Lib.hid c1
            clear hgc hbk hex hexz hdr hD hgk hgoal hbad cD cS hSz hJ c2
            go_wp2_with fail
            refine (c1.out _).mono ?_
            rintro e w1 ⟨rfl, rfl⟩
            go_wp2
            go_round
            case rel => exact ⟨J, SE, _, _, rfl, by go_num, by omega, hn2⟩
            case measure => have := hJh.out; simp [intOf]; omega
          · obtain ⟨e1, e2, e3⟩ := str_ne h0
            have hn2 := hD.out.first (S' := S ++ ⟨#[32]⟩ ++ SE) hgc x1 (by rw [if_neg h0, cat_list, cat_list, hex])
            rw [hJ] at hn2
            replace hn2 := Lib.hid hn2
            obtain ⟨j, rfl⟩ : ∃ j, k = j + 1 := ⟨k - 1, by omega⟩
            have hjs : j < s.size := by omega
            have hpr := hD.out.none_ rfl j (s[j]'hjs) rfl (hgk.out j hjs)
            have c3 := cD.out (s[j]'hjs)
            rw [hpr] at c3
            obtain ⟨K, hK⟩ : ∃ K, j + 1 = K := ⟨_, rfl⟩
            have kp : decide ((0 : Int) < (K : Int)) = true := decide_eq_true (by omega)
            have kpn : decide (0 < K) = true := decide_eq_true (by omega)
            have ej : (K : Int) - 1 = (j : Int) := by omega
            have j0 : (0 : Int) ≤ (j : Int) := by omega
            have j1 : (j : Int) < (s.size : Int) := by omega
            replace c1 := Lib.hid c1
            replace c3 := Lib.hid c3
            simp only [hK] at *
            clear hgc hbk hex hexz hdr hD hgk hgoal hbad cD cS hSz hJ h0 c2 hpr hK
            go_wp2_with fail
            refine (c1.out _).mono ?_
            rintro e w1 ⟨rfl, rfl⟩
            go_wp2_with fail
            refine (c1.out _).mono ?_
            rintro e w1 ⟨rfl, rfl⟩
            go_wp2_with fail
            refine (c3.out _).mono ?_
            rintro e w1 ⟨rfl, rfl⟩
            go_wp2
            go_round
            case rel => exact ⟨J, S ++ ⟨#[32]⟩ ++ SE, _, _, rfl, by go_num, by omega, hn2⟩
            case measure => have := hJh.out; simp [intOf]; omega
        · have hn2 := hD.out.more (S' := S ++ SE) hgc x1 hcur (by rw [cat_list, hex])
          rw [hJ] at hn2
          replace hn2 := Lib.hid hn2
          have h0 : ¬ S.size = 0 := fun e => by
            have := hD.out.empty.1 e
            rw [fw_cons hcur] at this
            simp at this
          obtain ⟨e1, e2, e3⟩ := str_ne h0
          obtain ⟨j, hj, d, hd, hdd⟩ := hD.out.prev hcur
          subst hj
          have hjs : j < s.size := by omega
          have hdj := hgk.out j hjs
          rw [hd] at hdj
          injection hdj with hdj
          have c3 := cD.out (s[j]'hjs)
          rw [← hdj, hdd, hdj] at c3
          obtain ⟨K, hK⟩ : ∃ K, j + 1 = K := ⟨_, rfl⟩
          have kp : decide ((0 : Int) < (K : Int)) = true := decide_eq_true (by omega)
          have kpn : decide (0 < K) = true := decide_eq_true (by omega)
          have ej : (K : Int) - 1 = (j : Int) := by omega
          have j0 : (0 : Int) ≤ (j : Int) := by omega
          have j1 : (j : Int) < (s.size : Int) := by omega
          replace c1 := Lib.hid c1
          replace c3 := Lib.hid c3
          simp only [hK] at *
          clear hgc hbk hex hexz hdr hD hgk hgoal hbad cD cS hSz hJ h0 c2 hdd hdj hd hK
          go_wp2_with fail
          refine (c1.out _).mono ?_
          rintro e w1 ⟨rfl, rfl⟩
          go_wp2_with fail
          refine (c1.out _).mono ?_
          rintro e w1 ⟨rfl, rfl⟩
          go_wp2_with fail
          refine (c3.out _).mono ?_
          rintro e w1 ⟨rfl, rfl⟩
          go_wp2
          go_round
          case rel => exact ⟨J, S ++ SE, _, _, rfl, by go_num, by omega, hn2⟩
          case measure => have := hJh.out; simp [intOf]; omega
    · obtain rfl : k = s.size := by omega
      have dk : decide ((s.size : Int) < (s.size : Int)) = false := decide_eq_false (by omega)
      have hf := Lib.hid (hgoal.out S ts cur hD.out)
      clear hgoal hD hbad hgk cD cS
      go_wp2
      first | go_ret2 | skip
      exact hf.out
end Go.Proofs.YthmgocjmfhpafaaDoor.A18
