/- The contracts of the landed split and Words (layer 18). -/
import Derived.Test.YthmgocjmfhpafaaDoorA18Own1
namespace Go.Proofs.YthmgocjmfhpafaaDoor.A18
set_option maxRecDepth 100000
open Go.RowKit Mem
set_option linter.unusedVariables false
set_option linter.unusedSimpArgs false

theorem take_pre (p : UInt8 → Bool) (l : List UInt8) : l.take (pre p l) = l.takeWhile p := by
  unfold pre
  conv => lhs; rw [← List.takeWhile_append_dropWhile (p := p) (l := l)]
  rw [List.take_left']
  rw [List.takeWhile_append_dropWhile]
theorem drop_pre (p : UInt8 → Bool) (l : List UInt8) : l.drop (pre p l) = l.dropWhile p := by
  unfold pre
  conv => lhs; rw [← List.takeWhile_append_dropWhile (p := p) (l := l)]
  rw [List.drop_left']
  rw [List.takeWhile_append_dropWhile]
theorem while_mem {p : UInt8 → Bool} : ∀ {l : List UInt8}, ∀ c ∈ l.takeWhile p, p c = true := by
  intro l
  induction l with
  | nil => simp
  | cons d r ih =>
    intro c hc
    rw [List.takeWhile_cons] at hc
    split at hc
    · rcases List.mem_cons.1 hc with rfl | hc
      · assumption
      · exact ih c hc
    · cases hc
theorem while_head {p : UInt8 → Bool} : ∀ {l : List UInt8}, ∀ c ∈ (l.dropWhile p).head?, p c = false := by
  intro l
  induction l with
  | nil => simp
  | cons d r ih =>
    intro c hc
    rw [List.dropWhile_cons] at hc
    split at hc
    · exact ih c hc
    · simp at hc
      subst hc
      simpa using ‹¬ p d = true›
theorem pre_le (p : UInt8 → Bool) (l : List UInt8) : pre p l ≤ l.length := (List.takeWhile_sublist _).length_le
theorem pre_pos {p : UInt8 → Bool} {c : UInt8} {r : List UInt8} (h : p c = true) : 1 ≤ pre p (c :: r) := by
  unfold pre
  rw [List.takeWhile_cons_of_pos h]
  simp
/-- A comment is passed over. -/
theorem tk_comment (n : Nat) (r : List UInt8) : tk n false [] (35 :: r) = tk n false [] ((35 :: r).drop (pre (fun c => !(c == 10)) (35 :: r))) := by
  rw [drop_pre, List.dropWhile_cons_of_pos (by decide), tk_hash, fl_nil, List.nil_append]
  conv => lhs; rw [← List.takeWhile_append_dropWhile (p := fun c => !(c == 10)) (l := r)]
  rw [tk_line _ _ _ _ (fun c hc => by have := while_mem c hc; simpa using this), tk_cmend _ _ (fun c hc => by have := while_head c hc; simpa using this)]
/-- A token is read. -/
theorem tk_token (n : Nat) (c : UInt8) (r : List UInt8) (h : isTk c = true) : tk n false [] (c :: r) = ((c :: r).take (pre isTk (c :: r)), n) :: tk n false [] ((c :: r).drop (pre isTk (c :: r))) := by
  rw [drop_pre, take_pre]
  conv => lhs; rw [← List.takeWhile_append_dropWhile (p := isTk) (l := c :: r)]
  rw [tk_word _ _ _ _ while_mem, List.nil_append, tk_end _ _ _ while_head, fl_cons (by rw [List.takeWhile_cons_of_pos h]; simp)]
  rfl
theorem info_token : (Tryd.prog.info? 71).map (fun i => (i.zero, i.size, i.bytes)) = some (some (.agg #[.string ⟨#[]⟩, .int .i64 0]), 2, 24) := by kernel_rfl
theorem info_str : (Tryd.prog.info? 9).map (fun i => (i.zero, i.size, i.bytes)) = some (some (.string ⟨#[]⟩), 1, 16) := by kernel_rfl
def cel (l : List Tok) : List Value := (l.map tokI).flatMap enc2
theorem cel_snoc (l : List Tok) (t : Tok) : cel (l ++ [t]) = cel l ++ [strV t.1, .int .i64 (t.2 : Int)] := by
  unfold cel
  rw [List.map_append]
  exact enc2_snoc _ _
/-- What split hands back. -/
def TkP (T : TypeId) (l : List Tok) (w : World) (e : Ending) (w' : World) : Prop := ∃ v, e = .returned v ∧ w'.ownsRow w.heap.size T 2 v l.length (cel l) ∧ Below w.heap.size w w'
set_option maxHeartbeats 8000000 in
theorem split_any (s : ByteArray) (hs : s.size ≤ 1000000) (w : World) : Calls Tryd.prog 27 #[.string s] w (TkP 71 (toks s.data.toList) w) := by
  have hn : s.data.toList.length = s.size := by simp
  obtain ⟨i0, hi, hz0, hz1, hz2⟩ := info_parts info_token
  obtain ⟨L, hL⟩ : ∃ L, toks s.data.toList = L := ⟨_, rfl⟩
  have hstart : L = [] ++ tk 1 false [] (s.data.toList.drop 0) := by rw [← hL]; rfl
  rw [hL]
  have cL := Lib.hid (fun (x : ByteArray) (hx : x.size ≤ 1000000) W => prefix_any isInLine_any ent_line x hx W)
  have cT := Lib.hid (fun (x : ByteArray) (hx : x.size ≤ 1000000) W => prefix_any isInToken_any ent_token x hx W)
  obtain ⟨P, hP⟩ : ∃ P, TkP 71 L w = P := ⟨_, rfl⟩
  have hgoal : ∀ (v : Value) (acc : List Tok) (w' : World), w'.ownsRow w.heap.size 71 2 v acc.length (cel acc) → Below w.heap.size w w' → acc = L → P (.returned v) w' := fun v acc w' h1 h2 h3 => by
    subst h3
    rw [← hP]
    exact ⟨v, rfl, h1, h2⟩
  rw [hP]
  have o1 := own_none w w.heap.size 71 2
  replace hgoal := Lib.hid hgoal
  replace hn := Lib.hid hn
  replace hstart := Lib.hid hstart
  replace o1 := Lib.hid o1
  clear hP hL
  show Calls _ _ _ _ (fun e w' => P e w')
  go_enter Tryd.func27, Tryd.ntmps27
  go_wp2
  go_loopw [3, 4, 5] (fun tv nv iv wr => ∃ (k n : Nat) (v : Value) (acc : List Tok), v = tv ∧ nv = .int .i64 (n : Int) ∧ iv = .int .i64 (k : Int) ∧ k ≤ s.size ∧ acc.length ≤ k ∧ n ≤ k + 1 ∧ Hid (L = acc ++ tk n false [] (s.data.toList.drop k)) ∧ Hid (wr.ownsRow w.heap.size 71 2 v acc.length (cel acc)) ∧ Hid (Below w.heap.size w wr)) (fun _ _ iv _ => s.size - (intOf iv).toNat)
  case atStart => exact ⟨0, 1, _, [], rfl, rfl, rfl, Nat.zero_le _, Nat.zero_le _, by omega, hstart, o1, Lib.hid (Below.refl _ _)⟩
  case round =>
    clear o1 hstart
    obtain ⟨k, n, v, acc, rfl, rfl, rfl, hk, ha, hnk, hrest, hrow, hb⟩ := hrel
    by_cases hlt : k < s.size
    · have dk : decide ((k : Int) < (s.size : Int)) = true := decide_eq_true (by omega)
      have dk2 : decide (k < s.size) = true := decide_eq_true hlt
      have k0 : (0 : Int) ≤ (k : Int) := by omega
      have k1 : (k : Int) < (s.size : Int) := by omega
      have n0 : (0 : Int) ≤ (n : Int) := by omega
      have n1 : (n : Int) ≤ 1000001 := by omega
      have k3 : (k : Int) ≤ 1000000 := by omega
      have hdr := drop_get s k hlt
      obtain ⟨c, hcc⟩ : ∃ c, s[k] = c := ⟨_, rfl⟩
      have t10 := tst c 10 (by decide)
      have t32 := tst c 32 (by decide)
      have t35 := tst c 35 (by decide)
      rw [show ((10 : Nat) : Int) = 10 from rfl, show UInt8.ofNat 10 = 10 from rfl] at t10
      rw [show ((32 : Nat) : Int) = 32 from rfl, show UInt8.ofNat 32 = 32 from rfl] at t32
      rw [show ((35 : Nat) : Int) = 35 from rfl, show UInt8.ofNat 35 = 35 from rfl] at t35
      rw [hcc] at hdr
      by_cases e10 : c = 10
      · subst e10
        have hr2 := Lib.hid (show L = acc ++ tk (n + 1) false [] (s.data.toList.drop (k + 1)) by rw [hrest.out, hdr, tk_ten, fl_nil, List.nil_append])
        clear t10 t32 t35 hdr hrest cL cT hgoal
        go_wp2
        go_roundw
        case rel => exact ⟨k + 1, n + 1, v, acc, rfl, by go_num, by go_num, by omega, by omega, by omega, hr2, hrow, hb⟩
        case measure => simp [intOf]; omega
      have f10 : (c == 10) = false := by simpa using e10
      rw [f10] at t10
      by_cases e32 : c = 32
      · subst e32
        have hr2 := Lib.hid (show L = acc ++ tk n false [] (s.data.toList.drop (k + 1)) by rw [hrest.out, hdr, tk_space, fl_nil, List.nil_append])
        clear t10 t32 t35 hdr hrest cL cT hgoal f10 e10
        go_wp2
        go_roundw
        case rel => exact ⟨k + 1, n, v, acc, rfl, rfl, by go_num, by omega, by omega, by omega, hr2, hrow, hb⟩
        case measure => simp [intOf]; omega
      have f32 : (c == 32) = false := by simpa using e32
      rw [f32] at t32
      have hxs : (s.extract k s.size).data.toList = s.data.toList.drop k := by
        rw [ext_list]
        exact List.take_of_length_le (by rw [List.length_drop, hn.out]; exact Nat.le_refl _)
      have hxz : (s.extract k s.size).size ≤ 1000000 := by rw [ByteArray.size_extract]; omega
      by_cases e35 : c = 35
      · subst e35
        have c1 := cL.out (s.extract k s.size) hxz
        rw [hxs] at c1
        have hz1' : 1 ≤ pre (fun c => !(c == 10)) (s.data.toList.drop k) := by rw [hdr]; exact pre_pos (by decide)
        have hz2' : pre (fun c => !(c == 10)) (s.data.toList.drop k) ≤ s.size - k := by have := pre_le (fun c => !(c == 10)) (s.data.toList.drop k); rw [List.length_drop, hn.out] at this; exact this
        have hr2 : L = acc ++ tk n false [] (s.data.toList.drop (k + pre (fun c => !(c == 10)) (s.data.toList.drop k))) := by
          rw [hrest.out, ← List.drop_drop]
          congr 1
          rw [hdr]
          exact tk_comment n _
        obtain ⟨Z, hZ⟩ : ∃ Z, pre (fun c => !(c == 10)) (s.data.toList.drop k) = Z := ⟨_, rfl⟩
        rw [hZ] at c1 hz1' hz2' hr2
        obtain ⟨J, hJ⟩ : ∃ J, k + Z = J := ⟨_, rfl⟩
        rw [hJ] at hr2
        have eJ : (k : Int) + (Z : Int) = (J : Int) := by omega
        have hJ2 : J ≤ s.size := by omega
        have hJ3 : k < J := by omega
        have Z0 : (0 : Int) ≤ (Z : Int) := by omega
        have Z1 : (Z : Int) ≤ 1000000 := by omega
        replace c1 := Lib.hid c1
        replace hr2 := Lib.hid hr2
        clear hZ hJ t10 t32 t35 hdr hrest cL cT hgoal f10 f32 e10 e32 hxs hxz
        go_wp2_with fail
        refine (c1.out _).mono ?_
        rintro e w3 ⟨rfl, rfl⟩
        go_wp2
        go_roundw
        case rel => exact ⟨J, n, v, acc, rfl, rfl, by go_num, by omega, by omega, by omega, hr2, hrow, hb⟩
        case measure => simp [intOf]; omega
      · have f35 : (c == 35) = false := by simpa using e35
        rw [f35] at t35
        have htk : isTk c = true := by unfold isTk; rw [f10, f32, f35]; rfl
        have c1 := cT.out (s.extract k s.size) hxz
        rw [hxs] at c1
        have hz1' : 1 ≤ pre isTk (s.data.toList.drop k) := by rw [hdr]; exact pre_pos htk
        have hz2' : pre isTk (s.data.toList.drop k) ≤ s.size - k := by have := pre_le isTk (s.data.toList.drop k); rw [List.length_drop, hn.out] at this; exact this
        have hr2 : L = acc ++ [((s.data.toList.drop k).take (pre isTk (s.data.toList.drop k)), n)] ++ tk n false [] (s.data.toList.drop (k + pre isTk (s.data.toList.drop k))) := by
          rw [hrest.out, ← List.drop_drop, List.append_assoc]
          congr 1
          rw [hdr]
          exact tk_token n c _ htk
        obtain ⟨Z, hZ⟩ : ∃ Z, pre isTk (s.data.toList.drop k) = Z := ⟨_, rfl⟩
        rw [hZ] at c1 hz1' hz2' hr2
        obtain ⟨J, hJ⟩ : ∃ J, k + Z = J := ⟨_, rfl⟩
        rw [hJ] at hr2
        have hS : strV ((s.data.toList.drop k).take Z) = .string (s.extract k J) := by
          unfold strV
          rw [str_of _ (s.extract k J) (by rw [ext_list, show J - k = Z by omega])]
        have eJ : (k : Int) + (Z : Int) = (J : Int) := by omega
        have hJ2 : J ≤ s.size := by omega
        have hJ3 : k < J := by omega
        have J0 : (0 : Int) ≤ (J : Int) := by omega
        have J1 : (J : Int) ≤ (s.size : Int) := by omega
        have J2 : (k : Int) ≤ (J : Int) := by omega
        have Z0 : (0 : Int) ≤ (Z : Int) := by omega
        have Z1 : (Z : Int) ≤ 1000000 := by omega
        obtain ⟨T, hT⟩ : ∃ T, (s.data.toList.drop k).take Z = T := ⟨_, rfl⟩
        rw [hT] at hr2 hS
        have hsn := cel_snoc acc (T, n)
        dsimp only at hsn
        rw [hS] at hsn
        obtain ⟨acl, hacl⟩ : ∃ x, acc.length = x := ⟨_, rfl⟩
        rw [hacl] at hrow ha
        have hacl2 : (acc ++ [(T, n)]).length = acl + 1 := by rw [List.length_append, hacl]; rfl
        have hro := hrow.out
        have hbo := hb.out
        have hbs := hbo.size
        replace c1 := Lib.hid c1
        replace hr2 := Lib.hid hr2
        replace hsn := Lib.hid hsn
        replace hacl2 := Lib.hid hacl2
        clear hZ hJ hdr hrest cL cT hgoal f10 f32 e10 e32 hxs hxz hS hT hacl hrow hb htk f35 e35
        go_wp2_with fail
        refine (c1.out _).mono ?_
        rintro e w3 ⟨rfl, rfl⟩
        go_wp2_with (at_builtin; refine wpList_append_own _ rfl _ _ 55 rfl w.heap.size 71 i0 (.agg #[.string ⟨#[]⟩, .int .i64 0]) 2 24 Tryd.underlying55 hi hz0 hz1 hz2 rfl (by decide) _ _ _ rfl (hro.alloc _) ⟨wr.heap.size, 0, none⟩ 1 1 [.string (s.extract k J), .int .i64 (n : Int)] rfl rfl (list_new _ _ _) (two_si _ _) (by unfold maxLen; omega) (by omega) (by simp; omega) ?_; intro v' w6 hown' hgrow _)
        have hb6 := (hbo.alloc hbs _).grown hgrow (by simp; omega) (fun j hj => (hro.lt j hj).1)
        rw [← hsn.out] at hown'
        clear hgrow hro hbo
        go_roundw
        case rel => exact ⟨J, n, _, acc ++ [(T, n)], rfl, rfl, by go_num, by omega, by rw [hacl2.out]; omega, by omega, hr2, Lib.hid (by rw [hacl2.out]; exact hown'), Lib.hid hb6⟩
        case measure => simp [intOf]; omega
    · obtain rfl : k = s.size := by omega
      have dk : decide ((s.size : Int) < (s.size : Int)) = false := decide_eq_false (by omega)
      have hfin := Lib.hid (hgoal.out v acc wr hrow.out hb.out (by rw [hrest.out, List.drop_of_length_le (by rw [hn.out]; exact Nat.le_refl _), tk_nil, fl_nil, List.append_nil]))
      clear hrest hgoal cL cT hrow hb
      go_wp2
      first | go_ret | skip
      exact hfin.out
theorem wof_len (l : List Tok) : (wof l).length = l.length := by simp [wof]
theorem wof_take {l : List Tok} {k : Nat} {t : Tok} (h : l[k]? = some t) : strVs (wof (l.take (k + 1))) = strVs (wof (l.take k)) ++ [strV t.1] := by
  obtain ⟨hk, rfl⟩ := List.getElem?_eq_some_iff.1 h
  rw [List.take_succ_eq_append_getElem hk, wof_app, strVs_append]
  rfl
theorem IsPs.tok {w : World} {A : Option Addr} {n cap : Nat} {l : List Tok} (h : IsPs w A n cap (l.map tokI)) {i : Nat} (hi : i < n) : ∃ (T : List UInt8) (ln b o : Nat), l[i]? = some (T, ln) ∧ A = some ⟨b, o, none⟩ ∧ b < w.heap.size ∧ w.cell? ⟨b, o + i * 2, none⟩ = some (strV T) ∧ w.cell? ⟨b, o + i * 2 + 1, none⟩ = some (.int .i64 (ln : Int)) := by
  have hl : i < l.length := by have := h.len; simp at this; omega
  have := h.get (i := i) (by simpa using hl)
  rw [List.getElem_map] at this
  obtain ⟨b, o, h1, h2, h3, h4⟩ := this
  exact ⟨l[i].1, l[i].2, b, o, List.getElem?_eq_getElem hl, h1, h2, h3, h4⟩
/-- What Words hands back. -/
def WsP (l : List (List UInt8)) (w : World) (e : Ending) (w' : World) : Prop := ∃ v B, e = .returned v ∧ w.heap.size ≤ B ∧ w'.ownsRow B 9 1 v l.length (strVs l) ∧ Below w.heap.size w w'
theorem toks_len : ∀ (s : List UInt8) (n : Nat) (cm : Bool) (cur : List UInt8), (tk n cm cur s).length ≤ s.length + (if cur = [] then 0 else 1) := by
  intro s
  have hf : ∀ n cur, (fl n cur).length = if cur = [] then 0 else 1 := fun n cur => by unfold fl; split <;> rfl
  induction s with
  | nil => intro n cm cur; rw [tk_nil, hf]; simp
  | cons c r ih =>
    intro n cm cur
    rw [tk]
    split
    · have := ih (n + 1) false []; simp only [List.length_append, hf, List.length_cons] at *; simp at this; omega
    split
    · have := ih n true cur; simp only [List.length_cons]; omega
    split
    · have := ih n true []; simp only [List.length_append, hf, List.length_cons] at *; simp at this; omega
    split
    · have := ih n false []; simp only [List.length_append, hf, List.length_cons] at *; simp at this; omega
    · have := ih n false (cur ++ [c]); rw [if_neg (by simp)] at this; simp only [List.length_cons]; omega
theorem toks_le (s : List UInt8) : (toks s).length ≤ s.length := by
  have := toks_len s 1 false []
  rw [if_pos rfl] at this
  exact this
set_option maxHeartbeats 8000000 in
theorem Words_any (s : ByteArray) (hs : s.size ≤ 1000000) (w : World) : Calls Tryd.prog 18 #[.string s] w (WsP (wof (toks s.data.toList)) w) := by
  have hn : s.data.toList.length = s.size := by simp
  obtain ⟨i0, hi, hz0, hz1, hz2⟩ := info_parts info_str
  have cS := Lib.hid (split_any s hs)
  have hle := toks_le s.data.toList
  rw [hn] at hle
  obtain ⟨L, hL⟩ : ∃ L, toks s.data.toList = L := ⟨_, rfl⟩
  rw [hL] at cS hle ⊢
  have hgoal : ∀ (v : Value) (B : Nat) (w' : World), w.heap.size ≤ B → w'.ownsRow B 9 1 v L.length (strVs (wof (L.take L.length))) → Below w.heap.size w w' → WsP (wof L) w (.returned v) w' := fun v B w' h1 h2 h3 => by
    rw [List.take_length] at h2
    exact ⟨v, B, rfl, h1, by rw [wof_len]; exact h2, h3⟩
  obtain ⟨P, hP⟩ : ∃ P, WsP (wof L) w = P := ⟨_, rfl⟩
  rw [hP] at hgoal ⊢
  replace hgoal := Lib.hid hgoal
  clear hP hL hn
  show Calls _ _ _ _ (fun e w' => P e w')
  go_enter Tryd.func18, Tryd.ntmps18
  go_wp2_with fail
  refine (cS.out _).mono ?_
  rintro e w1 ⟨v0, rfl, hrow0, hb0⟩
  obtain ⟨A, cap, rfl, hIs⟩ := IsPs.of_own (l := L.map tokI) hrow0 (by simp)
  obtain ⟨n, hnl⟩ : ∃ n, L.length = n := ⟨_, rfl⟩
  rw [hnl] at hIs hle hgoal ⊢
  have hget := Lib.hid (fun (k : Nat) (hk : k < n) => IsPs.tok hIs hk)
  have hcap := hIs.le
  have hcm := hIs.capm
  have o1 := Lib.hid (show w1.ownsRow w1.heap.size 9 1 (.slice none 0 0) 0 (strVs (wof (L.take 0))) from own_none w1 w1.heap.size 9 1)
  have hbs0 := hb0.size
  replace hb0 := Lib.hid hb0
  clear hrow0 hIs cS hnl
  go_wp2
  go_loopw [3, 9] (fun tv iv wr => ∃ (k : Nat) (v : Value), v = tv ∧ iv = .int .i64 (k : Int) ∧ k ≤ n ∧ Hid (wr.ownsRow w1.heap.size 9 1 v k (strVs (wof (L.take k)))) ∧ Hid (Below w1.heap.size w1 wr)) (fun _ iv _ => n - (intOf iv).toNat)
  case atStart => exact ⟨0, _, rfl, rfl, Nat.zero_le _, o1, Lib.hid (Below.refl _ _)⟩
  case round =>
    clear o1
    obtain ⟨k, v, rfl, rfl, hk, hrow, hb⟩ := hrel
    by_cases hlt : k < n
    · have dk : decide ((k : Int) < (n : Int)) = true := decide_eq_true (by omega)
      have k0 : (0 : Int) ≤ (k : Int) := by omega
      have k1 : (k : Int) < (n : Int) := by omega
      have k2 : (k : Int) ≤ 1000000 := by omega
      obtain ⟨T, ln, b, o, hT, rfl, hbl, g0, g1⟩ := hget.out k hlt
      have ht := wof_take hT
      unfold strV at g0 ht
      obtain ⟨S, hS⟩ : ∃ S : ByteArray, ⟨T.toArray⟩ = S := ⟨_, rfl⟩
      dsimp only at ht
      rw [hS] at g0 ht
      have g0 : wr.cell? ⟨b, o + k * 2, none⟩ = some (.string S) := (hb.out.cell (p := ⟨b, o + k * 2, none⟩) hbl).trans g0
      have g1 : wr.cell? ⟨b, o + k * 2 + 1, none⟩ = some (.int .i64 (ln : Int)) := (hb.out.cell (p := ⟨b, o + k * 2 + 1, none⟩) hbl).trans g1
      have hro := hrow.out
      have hbo := hb.out
      have hbs := hbo.size
      replace ht := Lib.hid ht
      clear hT hS hrow hb hgoal hget
      obtain ⟨X, hX⟩ : ∃ X, wr.heap.size = X := ⟨_, rfl⟩
      obtain ⟨wX, hwX⟩ : ∃ W, wr.alloc (.cells #[.string S, .int .i64 (ln : Int)] 71) = W := ⟨_, rfl⟩
      have hxx : wX.heap[X]? = some (.cells #[.string S, .int .i64 (ln : Int)] 71 (0, 0)) := by rw [← hwX, ← hX]; exact World.alloc_heap_new wr _
      have hxc : wX.cell? ⟨X, 0, none⟩ = some (.string S) := by simp [World.cell?, hxx]
      have hroX : wX.ownsRow w1.heap.size 9 1 v k (strVs (wof (L.take k))) := by rw [← hwX]; exact hro.alloc _
      have hboX : Below w1.heap.size w1 wX := by rw [← hwX]; exact hbo.alloc hbs _
      have hbsX := hboX.size
      clear hro hbo hbs hxx
      go_wp2_with (at_builtin; refine wpList_append_own _ rfl _ _ 32 rfl w1.heap.size 9 i0 (.string ⟨#[]⟩) 1 16 Tryd.underlying32 hi hz0 hz1 hz2 rfl (by decide) _ _ _ rfl (hroX.alloc _) ⟨wX.heap.size, 0, none⟩ 1 1 [.string S] rfl rfl (one_new _ _ _) (one_str _) (by unfold maxLen; omega) (by omega) (by simp; omega) ?_; intro v' w6 hown' hgrow _)
      have hb6 := (hboX.alloc hbsX _).grown hgrow (by simp; omega) (fun j hj => (hroX.lt j hj).1)
      rw [← ht.out] at hown'
      clear hgrow hroX hboX
      go_roundw
      case rel => exact ⟨k + 1, _, rfl, by go_num, by omega, Lib.hid hown', Lib.hid hb6⟩
      case measure => simp [intOf]; omega
    · obtain rfl : k = n := by omega
      have dk : decide ((k : Int) < (k : Int)) = false := decide_eq_false (by omega)
      have hfin := Lib.hid (hgoal.out v _ wr hbs0 hrow.out (chain hb0.out hb.out))
      clear hgoal hrow hb hget hb0
      go_wp2
      first | go_ret | skip
      exact hfin.out
end Go.Proofs.YthmgocjmfhpafaaDoor.A18
