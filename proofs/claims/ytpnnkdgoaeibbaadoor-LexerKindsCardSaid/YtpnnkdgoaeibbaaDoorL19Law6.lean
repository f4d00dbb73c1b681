/- LexerKinds, walked. -/
import Derived.Test.YtpnnkdgoaeibbaaDoorL19Awake
import Derived.Test.YtpnnkdgoaeibbaaDoorL19Ref
import Derived.StillTail
import Derived.StillTailTactics
namespace Go.Proofs.YtpnnkdgoaeibbaaDoor.L19
set_option maxRecDepth 100000
open Go.RowKit Mem
open M17 (Laid Laid.below)
set_option linter.unusedVariables false
set_option linter.unusedSimpArgs false

theorem kws_head (c : UInt8) (r : List UInt8) (h : isLt c = false) : kws.contains (c :: r) = false := by
  rw [Bool.eq_false_iff]
  intro hc
  have : ∀ x ∈ kws, ∀ c r, x = c :: r → isLt c = true := by
    intro x hx c r e
    simp [kws] at hx
    rcases hx with rfl | rfl | rfl | rfl | rfl | rfl | rfl | rfl <;> (injection e with e1 e2; subst e1; decide)
  rw [this _ (by simpa using hc) c r rfl] at h
  cases h
/-- What the kinds say of the texts. -/
theorem kinds {kd : Nat} {T : List UInt8} (h : Tk1 kd T) : ∃ c r, T = c :: r ∧ (
    (kd = 1 ∧ kws.contains T = false ∧ 48 ≤ c.toNat ∧ c.toNat ≤ 57 ∧ (c.toNat = 48 → r = [])) ∨
    (kd = 2 ∧ kws.contains T = false ∧ T.length ≤ 24 ∧ 97 ≤ c.toNat ∧ c.toNat ≤ 122) ∨
    (kd = 3 ∧ kws.contains T = true ∧ 97 ≤ c.toNat ∧ c.toNat ≤ 122) ∨
    (kd = 4 ∧ kws.contains T = false ∧ (c.toNat < 48 ∨ (57 < c.toNat ∧ c.toNat < 97) ∨ 122 < c.toNat))) := by
  cases h with
  | num _ h1 h2 h3 h4 =>
    cases T with
    | nil => exact absurd rfl h2
    | cons c r =>
      have hc := h1 c List.mem_cons_self
      have hr : 48 ≤ c.toNat ∧ c.toNat ≤ 57 := by simpa [isDg] using hc
      refine ⟨c, r, rfl, .inl ⟨rfl, kws_head c r (dg_al hc).1, hr.1, hr.2, fun e => ?_⟩⟩
      have : c = 48 := UInt8.toNat_inj.1 e
      subst this
      have := h3 rfl
      injection this
  | wrd c r h1 h2 h3 =>
    have hr : 97 ≤ c.toNat ∧ c.toNat ≤ 122 := by simpa [isLt] using h1
    refine ⟨c, r, rfl, ?_⟩
    unfold wkind
    by_cases hk : kws.contains (c :: r) = true
    · rw [if_pos hk]; exact .inr (.inr (.inl ⟨rfl, hk, hr.1, hr.2⟩))
    · rw [if_neg hk]; exact .inr (.inl ⟨rfl, by simpa using hk, h3, hr.1, hr.2⟩)
  | one c h =>
    have q1 := not8 (P := ones.contains) (Q := isDg) (by decide +kernel) h
    have q2 := not8 (P := ones.contains) (Q := isLt) (by decide +kernel) h
    refine ⟨c, [], rfl, .inr (.inr (.inr ⟨rfl, kws_head c [] q2, ?_⟩))⟩
    simp [isDg] at q1
    simp [isLt] at q2
    omega
  | two c d h =>
    have all : ∀ x ∈ L19.two, ∀ c d, x = [c, d] → isDg c = false ∧ isLt c = false := by
      intro x hx c d e
      simp [L19.two] at hx
      rcases hx with rfl | rfl | rfl | rfl | rfl | rfl <;> (injection e with e1 e2; subst e1; decide)
    obtain ⟨q1, q2⟩ := all _ (by simpa using h) c d rfl
    refine ⟨c, [d], rfl, .inr (.inr (.inr ⟨rfl, kws_head c [d] q2, ?_⟩))⟩
    simp [isDg] at q1
    simp [isLt] at q2
    omega
theorem kw_step (T : List UInt8) {j : Nat} (h : j < 8) : (kws.take (j + 1)).contains T = ((kws.take j).contains T || (kws.getD j [] == T)) := by
  have hl : j < kws.length := h
  rw [List.take_succ_eq_append_getElem hl, Bool.eq_iff_iff]
  simp only [List.contains_iff_mem, List.mem_append, Bool.or_eq_true, List.mem_singleton, beq_iff_eq]
  rw [show kws.getD j [] = kws[j] by simp [List.getD, List.getElem?_eq_getElem hl], eq_comm (a := T)]
theorem kw_at (j : Nat) (h : j < 8) : ∃ S : ByteArray, kwV[j]? = some (.string S) ∧ S.data.toList = kws.getD j [] := by
  match j, h with
  | 0, _ | 1, _ | 2, _ | 3, _ | 4, _ | 5, _ | 6, _ | 7, _ => exact ⟨_, rfl, rfl⟩
theorem str_eqL (a : ByteArray) (l m : List UInt8) (h : a.data.toList = l) : (a.toList == (⟨m.toArray⟩ : ByteArray).toList) = (l == m) := by
  rw [str_toList, str_toList, h]
set_option maxHeartbeats 32000000 in
theorem walk_kinds (s : ByteArray) (w : World) (hL : Laid w) (hs : s.size ≤ 140737488351232) :
    Calls Tryd.prog 4 #[.string s] w fun e w' => e = .returned (.bool true) ∧ Below w.heap.size w w' := by
  have cW := Lib.hid awake_any
  have hL := Lib.hid hL
  have hls : s.data.toList.length = s.size := by simp
  obtain ⟨ts, n, e0, hx⟩ : ∃ ta na ea, ans s.data.toList = (ta, na, ea) := ⟨_, _, _, rfl⟩
  have bx := ans_bound s.data.toList
  rw [hx] at bx
  dsimp only at bx
  by_cases e1 : e0 = 0
  rotate_left
  · have hbad := ans_bad (s := s.data.toList) (by rw [hx]; exact e1)
    rw [hx] at hbad
    dsimp only at hbad
    obtain ⟨hts, hn6⟩ := hbad
    subst hts
    have c1 := Tokens_use s hx (len := 0) rfl (ni := (n : Int)) (ei := (e0 : Int)) rfl rfl w hL.out
    have t1 : ((e0 : Int) == 0) = false := beq_eq_false_iff_ne.2 (by omega)
    have t2 : ((e0 : Int) != 0) = true := bne_iff_ne.2 (by omega)
    have t3 : decide ((1 : Int) ≤ (n : Int)) = true ∨ (decide ((1 : Int) ≤ (n : Int)) = false ∧ e0 = 6) := by
      by_cases h1 : 1 ≤ n
      · exact .inl (decide_eq_true (by omega))
      · exact .inr ⟨decide_eq_false (by omega), by
          by_cases h6 : e0 = 6
          · exact h6
          · exact absurd (hn6 h6) h1⟩
    have d6 : decide ((1000 : Int) < (s.size : Int)) = true ∨ decide ((1000 : Int) < (s.size : Int)) = false := by
      rcases decide ((1000 : Int) < (s.size : Int)) with _ | _
      · exact .inr rfl
      · exact .inl rfl
    clear hx bx hls hn6
    rcases t3 with t3 | ⟨t3, rfl⟩ <;> rcases d6 with d6 | d6
    all_goals
      clear e1
      replace c1 := Lib.hid c1
      go_enter Tryd.func4, Tryd.ntmps4
      go_wp2_with fail
      refine (c1.out).mono ?_
      rintro e w1 ⟨A1, p1, rfl, hI1, hb1⟩
      have hbx := Lib.hid hb1
      clear hI1 hb1
      have cW9 := Lib.hid (cW.out _ (hL.out.below hbx.out))
      go_wp2_with fail
      refine (cW9.out).mono ?_
      rintro e w9 ⟨rfl, hb9⟩
      go_wp2
      first | go_ret | skip
      exact ⟨rfl, chain hbx.out hb9⟩
  subst e1
  obtain ⟨n1, hn1⟩ : ∃ n, ts.length = n := ⟨_, rfl⟩
  have hn0 : n = 0 := by have := (ans_ok (s := s.data.toList) (by rw [hx])).2.2; rw [hx] at this; injection this with _ h; injection h
  subst hn0
  have c1 := Lib.hid (Tokens_use s hx hn1 (ni := 0) (ei := 0) rfl rfl w hL.out)
  by_cases h6 : 1000 < s.size
  · have d6 : decide ((1000 : Int) < (s.size : Int)) = true := decide_eq_true (by omega)
    clear h6 hx bx hn1 hls
    go_enter Tryd.func4, Tryd.ntmps4
    go_wp2_with fail
    refine (c1.out).mono ?_
    rintro e w1 ⟨A1, p1, rfl, hI1, hb1⟩
    have hbx := Lib.hid hb1
    clear hI1 hb1
    have cW9 := Lib.hid (cW.out _ (hL.out.below hbx.out))
    go_wp2_with fail
    refine (cW9.out).mono ?_
    rintro e w9 ⟨rfl, hb9⟩
    go_wp2
    first | go_ret | skip
    exact ⟨rfl, chain hbx.out hb9⟩
  have d6 : decide ((1000 : Int) < (s.size : Int)) = false := decide_eq_false (by omega)
  have bn1 : n1 ≤ 1000 := by omega
  have N0 : (0 : Int) ≤ (n1 : Int) := by omega
  have N1 : (n1 : Int) ≤ 1000 := by omega
  have hts : (tk 1 s.data.toList).1 = ts := by have := (ans_ok (s := s.data.toList) (by rw [hx])).2.2; rw [hx] at this; injection this with h; exact h.symm
  obtain ⟨hf1, _, hf2⟩ := tk_form s.data.toList 1
  rw [hts] at hf1 hf2
  have hkind := Lib.hid (fun (k : Nat) (kd z : Nat) (T : List UInt8) (h : ts[k]? = some (kd, T, z)) => show Tk1 kd T ∧ 1 ≤ z ∧ z ≤ 1001 ∧ T.length ≤ 2000 ∧ ∀ j t, k + 1 ≤ j → ts[j]? = some t → z ≤ t.2.2 by
    obtain ⟨hk, e⟩ := List.getElem?_eq_some_iff.1 h
    have hm : (kd, T, z) ∈ ts := by rw [← e]; exact List.getElem_mem hk
    refine ⟨(hf1 _ hm).1, (hf1 _ hm).2, by have := (bx.2.2.2.1 _ hm).2; dsimp only at this; omega, ?_, fun j t hj ht => ?_⟩
    · have hd : (rt ts).length = (rt (ts.take (k + 1))).length + (rt (ts.drop (k + 1))).length := by
        conv => lhs; rw [← List.take_append_drop (k + 1) ts]
        unfold rt
        rw [List.flatMap_append, List.length_append]
      have h2 : rt (ts.take (k + 1)) = rt (ts.take k) ++ T ++ [32] := by rw [List.take_succ_eq_append_getElem hk, e, rt_snoc]
      rw [h2, List.length_append, List.length_append] at hd
      have := bx.2.2.2.2
      omega
    · obtain ⟨hj2, e2⟩ := List.getElem?_eq_some_iff.1 ht
      have := List.pairwise_iff_getElem.1 hf2 k j hk hj2 (by omega)
      rw [e, e2] at this
      exact this)
  have hstart : ∀ j t, 0 ≤ j → ts[j]? = some t → 1 ≤ t.2.2 := fun j t _ ht => by
    obtain ⟨hj2, e2⟩ := List.getElem?_eq_some_iff.1 ht
    rw [← e2]
    exact (hf1 _ (List.getElem_mem hj2)).2
  replace hstart := Lib.hid hstart
  have cK := Lib.hid Keywords_any
  clear h6 hx bx hn1 hls hts hf1 hf2
  go_enter Tryd.func4, Tryd.ntmps4
  go_wp2_with fail
  refine (c1.out).mono ?_
  rintro e w1 ⟨A1, p1, rfl, hI1, hb1⟩
  
  have hga := Lib.hid (fun (k : Nat) (hk : k < n1) => hI1.at hk)
  have hcap := hI1.le
  have hbb := Lib.hid hb1
  clear c1 hI1 hb1
  go_wp2_with fail
  refine (cK.out _).mono ?_
  rintro e w2 ⟨rfl, hw2⟩
  have hkB : Blk 9 w2 w1.heap.size kwV := by rw [hw2]; exact Blk.new w1 9 kwV
  have hb2 : Below w1.heap.size w1 w2 := by rw [hw2]; exact boxed w1 _
  obtain ⟨G, hG⟩ : ∃ G, w1.heap.size = G := ⟨_, rfl⟩
  have hga := Lib.hid (fun (k : Nat) (hk : k < n1) => show ∃ (kd : Nat) (T : List UInt8) (z b o : Nat), ts[k]? = some (kd, T, z) ∧ A1 = some ⟨b, o, none⟩ ∧ w2.cell? ⟨b, o + k * 3, none⟩ = some (.int .i64 (kd : Int)) ∧ w2.cell? ⟨b, o + k * 3 + 1, none⟩ = some (strV T) ∧ w2.cell? ⟨b, o + k * 3 + 2, none⟩ = some (.int .i64 (z : Int)) by
    obtain ⟨kd, T, z, b, o, h1, h2, h3, h4, h5, h6⟩ := hga.out k hk
    exact ⟨kd, T, z, b, o, h1, h2, (hb2.cell (p := ⟨b, o + k * 3, none⟩) h3).trans h4, (hb2.cell (p := ⟨b, o + k * 3 + 1, none⟩) h3).trans h5, (hb2.cell (p := ⟨b, o + k * 3 + 2, none⟩) h3).trans h6⟩)
  have hbx := Lib.hid (chain hbb.out hb2)
  rw [hG] at hkB ⊢
  have hkw := Lib.hid (fun (j : Nat) (hj : j < 8) => show ∃ S : ByteArray, w2.cell? ⟨G, j, none⟩ = some (.string S) ∧ S.data.toList = kws.getD j [] by
    obtain ⟨S, h1, h2⟩ := kw_at j hj
    exact ⟨S, (hkB.cell j).trans h1, h2⟩)
  clear hw2 hkB hb2 hbb hG
  go_wp2
  go_loopw [7, 46] (fun lv iv wr => ∃ (k ln : Nat), lv = .int .i64 (ln : Int) ∧ iv = .int .i64 (k : Int) ∧ k ≤ n1 ∧ ln ≤ 1001 ∧ Hid (∀ j t, k ≤ j → ts[j]? = some t → ln ≤ t.2.2) ∧ Hid (∃ q, wr = w2.drewN q)) (fun _ iv _ => n1 - (intOf iv).toNat)
  case atStart => exact ⟨0, 1, rfl, rfl, Nat.zero_le _, by decide, hstart, Lib.hid ⟨0, rfl⟩⟩
  case round =>
    obtain ⟨k, ln, rfl, rfl, hk, hln, hnx, hw⟩ := hrel
    by_cases hlt : k < n1
    · have dk : decide ((k : Int) < (n1 : Int)) = true := decide_eq_true (by omega)
      have k0 : (0 : Int) ≤ (k : Int) := by omega
      have k1 : (k : Int) < (n1 : Int) := by omega
      obtain ⟨kd, T, z, b1, o1, hT, rfl, f0, f1, f2⟩ := hga.out k hlt
      obtain ⟨hk1, z1, z2, hTl, hz⟩ := hkind.out k kd z T hT
      have hlz : ln ≤ z := hnx.out k _ (Nat.le_refl _) hT
      have hz := Lib.hid hz
      unfold strV at f1
      obtain ⟨X, hX⟩ : ∃ X : ByteArray, ⟨T.toArray⟩ = X := ⟨_, rfl⟩
      have hXl : X.data.toList = T := by rw [← hX]
      have hXs : X.size = T.length := by rw [← hX, str_size]
      rw [hX] at f1
      have f0 := Lib.hid (fun q => show (w2.drewN q).cell? ⟨b1, o1 + k * 3, none⟩ = some (.int .i64 (kd : Int)) from f0)
      have f1 := Lib.hid (fun q => show (w2.drewN q).cell? ⟨b1, o1 + k * 3 + 1, none⟩ = some (.string X) from f1)
      have f2 := Lib.hid (fun q => show (w2.drewN q).cell? ⟨b1, o1 + k * 3 + 2, none⟩ = some (.int .i64 (z : Int)) from f2)
      have hkw2 := Lib.hid (fun (j : Nat) (hj : j < 8) => show ∃ S : ByteArray, (∀ q, (w2.drewN q).cell? ⟨G, j, none⟩ = some (.string S)) ∧ (S.toList == X.toList) = (kws.getD j [] == T) by
        obtain ⟨S, h1, h2⟩ := hkw.out j hj
        exact ⟨S, fun q => h1, by rw [← hX]; exact str_eqL S _ T h2⟩)
      have hstep := Lib.hid (fun (j : Nat) (hj : j < 8) => kw_step T hj)
      have hfull := Lib.hid (show (kws.take 8).contains T = kws.contains T from rfl)
      have hzero := Lib.hid (show (kws.take 0).contains T = false from rfl)
      clear hX hT hga hkind hnx hkw
      go_wp2
      go_loopw [9, 51] (fun bv jv wr => ∃ (j : Nat) (b : Bool), bv = .bool b ∧ jv = .int .i64 (j : Int) ∧ j ≤ 8 ∧ Hid ((kws.take j).contains T = b) ∧ Hid (∃ q, wr = w2.drewN q)) (fun _ jv _ => 8 - (intOf jv).toNat)
      case atStart => exact ⟨0, false, rfl, rfl, Nat.zero_le _, hzero, hw⟩
      case round =>
        obtain ⟨j, b, rfl, rfl, hj, hb, hw⟩ := hrel
        by_cases hlt : j < 8
        · have dj : decide ((j : Int) < 8) = true := decide_eq_true (by omega)
          have j0 : (0 : Int) ≤ (j : Int) := by omega
          have j1 : (j : Int) < 8 := by omega
          obtain ⟨S, hS, hSX⟩ := hkw2.out j hlt
          have hst := hstep.out j hlt
          rw [hb.out] at hst
          obtain ⟨r, hr⟩ : ∃ r, (kws.getD j [] == T) = r := ⟨_, rfl⟩
          rw [hr] at hSX hst
          have g1 : wr.cell? ⟨G, j, none⟩ = some (.string S) := by obtain ⟨q, e⟩ := hw.out; rw [e]; exact hS q
          have f1 : wr.cell? ⟨b1, o1 + k * 3 + 1, none⟩ = some (.string X) := by obtain ⟨q, e⟩ := hw.out; rw [e]; exact f1.out q
          clear hr hS hkw2 hstep hfull hzero hb f0 f2 hz
          cases b
          · have hst := Lib.hid (show (kws.take (j + 1)).contains T = r by rw [hst]; rfl)
            go_wp2_with fail
            go_quiet (fail)
            rename_i nq _
            have hw2 := Lib.hid (show ∃ q, wr.drewN nq = w2.drewN q by obtain ⟨q, e⟩ := hw.out; exact ⟨q + nq, by rw [e, World.drewN_drewN]⟩)
            clear hw
            go_wp2
            go_roundw
            case rel => exact ⟨j + 1, r, rfl, by go_num, by omega, hst, hw2⟩
            case measure => simp [intOf]; omega
          · have hst := Lib.hid (show (kws.take (j + 1)).contains T = true by rw [hst]; rfl)
            go_wp2_with fail
            go_quiet (fail)
            rename_i nq _
            have hw2 := Lib.hid (show ∃ q, wr.drewN nq = w2.drewN q by obtain ⟨q, e⟩ := hw.out; exact ⟨q + nq, by rw [e, World.drewN_drewN]⟩)
            clear hw
            go_wp2
            go_roundw
            case rel => exact ⟨j + 1, true, rfl, by go_num, by omega, hst, hw2⟩
            case measure => simp [intOf]; omega
        · obtain rfl : j = 8 := by omega
          have dj : decide ((8 : Int) < 8) = false := rfl
          have hbk := hb.out
          rw [hfull.out] at hbk
          subst hbk
          clear hb hfull hzero hstep hkw2
          obtain ⟨c, r, hTc, hcs⟩ := kinds hk1
          have hX0 : 0 < X.size := by rw [hXs, hTc, List.length_cons]; omega
          have hXc : X[0] = c := by
            have h1 : X.data.toList = c :: r := hXl.trans hTc
            have h2 := A18.ba_get X 0 hX0
            rw [← h2]
            simp only [h1, List.getElem_cons_zero]
          have hX1 : (1 < X.size) ↔ r ≠ [] := by
            rw [hXs, hTc, List.length_cons]
            cases r with
            | nil => simp
            | cons a b => simp
          have hXT : T.length = X.size := hXs.symm
          obtain ⟨e1, e2, e3⟩ := str_ne (s := X) (by omega)
          have hXI : (0 : Int) < (X.size : Int) := by omega
          have hXd : decide (0 < X.size) = true := decide_eq_true hX0
          have dl : decide ((z : Int) < (ln : Int)) = false := decide_eq_false (by omega)
          have f0a : wr.cell? ⟨b1, o1 + k * 3, none⟩ = some (.int .i64 (kd : Int)) := by obtain ⟨q, e⟩ := hw.out; rw [e]; exact f0.out q
          have f1a : wr.cell? ⟨b1, o1 + k * 3 + 1, none⟩ = some (.string X) := by obtain ⟨q, e⟩ := hw.out; rw [e]; exact f1.out q
          have f2a : wr.cell? ⟨b1, o1 + k * 3 + 2, none⟩ = some (.int .i64 (z : Int)) := by obtain ⟨q, e⟩ := hw.out; rw [e]; exact f2.out q
          obtain ⟨m, hm⟩ : ∃ m, c.toNat = m := ⟨_, rfl⟩
          rw [hm] at hcs
          have hXm : ((X[0]).toNat : Int) = (m : Int) := by rw [hXc, hm]
          rw [hXT] at hcs
          clear hTc hXc hXl hXs hXT hTl hk1 hm
          rcases hcs with ⟨rfl, hkc, m1, m2, m3⟩ | ⟨rfl, hkc, m0, m1, m2⟩ | ⟨rfl, hkc, m1, m2⟩ | ⟨rfl, hkc, mm⟩
          · rw [hkc]
            by_cases h48 : m = 48
            · have hr0 := m3 h48
              have d1 : decide ((1 : Int) < (X.size : Int)) = false := decide_eq_false (fun h => (hX1.1 (by omega)) hr0)
              have q8 : ((m : Int) == 48) = true := by rw [h48]; rfl
              have r1 : decide ((48 : Int) ≤ (m : Int)) = true := decide_eq_true (by omega)
              have r2 : decide ((m : Int) ≤ 57) = true := decide_eq_true (by omega)
              have r3 : decide ((97 : Int) ≤ (m : Int)) = false := decide_eq_false (by omega)
              have r4 : decide ((m : Int) ≤ 122) = true := decide_eq_true (by omega)
              clear hkc m1 m2 m3 hX1 hr0
              go_wp2
              go_roundw
              case rel => exact ⟨k + 1, z, rfl, by go_num, by omega, z2, hz, hw⟩
              case measure => simp [intOf]; omega
            · have q8 : ((m : Int) == 48) = false := beq_eq_false_iff_ne.2 (by omega)
              have r1 : decide ((48 : Int) ≤ (m : Int)) = true := decide_eq_true (by omega)
              have r2 : decide ((m : Int) ≤ 57) = true := decide_eq_true (by omega)
              have r3 : decide ((97 : Int) ≤ (m : Int)) = false := decide_eq_false (by omega)
              have r4 : decide ((m : Int) ≤ 122) = true := decide_eq_true (by omega)
              clear hkc m1 m2 m3 hX1 h48
              go_wp2
              go_roundw
              case rel => exact ⟨k + 1, z, rfl, by go_num, by omega, z2, hz, hw⟩
              case measure => simp [intOf]; omega
          · rw [hkc]
            have dn : decide ((24 : Int) < (X.size : Int)) = false := decide_eq_false (by omega)
            have r1 : decide ((48 : Int) ≤ (m : Int)) = true := decide_eq_true (by omega)
            have r2 : decide ((m : Int) ≤ 57) = false := decide_eq_false (by omega)
            have r3 : decide ((97 : Int) ≤ (m : Int)) = true := decide_eq_true (by omega)
            have r4 : decide ((m : Int) ≤ 122) = true := decide_eq_true (by omega)
            clear hkc m0 m1 m2 hX1
            go_wp2
            go_roundw
            case rel => exact ⟨k + 1, z, rfl, by go_num, by omega, z2, hz, hw⟩
            case measure => simp [intOf]; omega
          · rw [hkc]
            have r1 : decide ((48 : Int) ≤ (m : Int)) = true := decide_eq_true (by omega)
            have r2 : decide ((m : Int) ≤ 57) = false := decide_eq_false (by omega)
            have r3 : decide ((97 : Int) ≤ (m : Int)) = true := decide_eq_true (by omega)
            have r4 : decide ((m : Int) ≤ 122) = true := decide_eq_true (by omega)
            clear hkc m1 m2 hX1
            go_wp2
            go_roundw
            case rel => exact ⟨k + 1, z, rfl, by go_num, by omega, z2, hz, hw⟩
            case measure => simp [intOf]; omega
          · rw [hkc]
            rcases mm with mm | ⟨mm, mm2⟩ | mm
            · skip
              have r1 : decide ((48 : Int) ≤ (m : Int)) = false := decide_eq_false (by omega)
              have r2 : decide ((m : Int) ≤ 57) = true := decide_eq_true (by omega)
              have r3 : decide ((97 : Int) ≤ (m : Int)) = false := decide_eq_false (by omega)
              have r4 : decide ((m : Int) ≤ 122) = true := decide_eq_true (by omega)
              clear hkc mm hX1
              go_wp2
              go_roundw
              case rel => exact ⟨k + 1, z, rfl, by go_num, by omega, z2, hz, hw⟩
              case measure => simp [intOf]; omega
            · skip
              have r1 : decide ((48 : Int) ≤ (m : Int)) = true := decide_eq_true (by omega)
              have r2 : decide ((m : Int) ≤ 57) = false := decide_eq_false (by omega)
              have r3 : decide ((97 : Int) ≤ (m : Int)) = false := decide_eq_false (by omega)
              have r4 : decide ((m : Int) ≤ 122) = true := decide_eq_true (by omega)
              clear hkc mm mm2 hX1
              go_wp2
              go_roundw
              case rel => exact ⟨k + 1, z, rfl, by go_num, by omega, z2, hz, hw⟩
              case measure => simp [intOf]; omega
            · skip
              have r1 : decide ((48 : Int) ≤ (m : Int)) = true := decide_eq_true (by omega)
              have r2 : decide ((m : Int) ≤ 57) = false := decide_eq_false (by omega)
              have r3 : decide ((97 : Int) ≤ (m : Int)) = true := decide_eq_true (by omega)
              have r4 : decide ((m : Int) ≤ 122) = false := decide_eq_false (by omega)
              clear hkc mm hX1
              go_wp2
              go_roundw
              case rel => exact ⟨k + 1, z, rfl, by go_num, by omega, z2, hz, hw⟩
              case measure => simp [intOf]; omega
    · obtain rfl : k = n1 := by omega
      have dk : decide ((k : Int) < (k : Int)) = false := decide_eq_false (by omega)
      have hbx := Lib.hid (show Below w.heap.size w wr by obtain ⟨q, e⟩ := hw.out; rw [e]; exact chainN hbx.out q)
      clear hga hw hkind hnx hkw hstart
      have cW9 := Lib.hid (cW.out _ (hL.out.below hbx.out))
      go_wp2_with fail
      refine (cW9.out).mono ?_
      rintro e w9 ⟨rfl, hb9⟩
      go_wp2
      first | go_ret | skip
      exact ⟨rfl, chain hbx.out hb9⟩
theorem row_kinds (s : ByteArray) (w : World) (hL : Laid w) (hs : s.size ≤ 140737488351232) : Calls Tryd.prog 4 #[.string s] w fun e w' => e = .returned (.bool true) ∧ Below w.heap.size w w' := walk_kinds s w hL hs
end Go.Proofs.YtpnnkdgoaeibbaaDoor.L19
