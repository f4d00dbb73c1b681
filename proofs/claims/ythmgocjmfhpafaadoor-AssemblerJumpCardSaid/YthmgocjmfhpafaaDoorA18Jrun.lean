/- The law on jumps: what is assembled, and how it runs on the plain machine. No walk here. -/
import Derived.Test.YthmgocjmfhpafaaDoorA18Sz
import Derived.Test.YthmgocjmfhpafaaDoorM17Lin
namespace Go.Proofs.YthmgocjmfhpafaaDoor.M17
set_option linter.unusedVariables false
set_option linter.unusedSimpArgs false
/-- One text alone: what lies in memory. -/
theorem has_placed (z : Nat) (S : ByteArray) : Has (placed [((z : Int), S)]) z (S.data.toList.map UInt8.toNat) := by
  intro i hi
  have hi' : i < S.data.toList.length := by simpa using hi
  have hs : S.data.toList.length = S.size := by simp
  unfold placed
  simp only [List.foldl_cons, List.foldl_nil]
  unfold place
  rw [if_pos (by dsimp only; omega)]
  dsimp only
  rw [show z + i - (z : Int).toNat = i by omega]
  unfold codeAt
  rw [List.getD_eq_getElem?_getD, List.getElem?_eq_getElem hi', List.getElem_map]
  rfl
theorem exec_jump {s : St} {b a : Nat} {r : List Nat} (hd : s.ds = b :: a :: r) : exec 63 s = .go { s with ds := r, pc := if a = 0 then b else s.pc, dig := false } := by
  obtain ⟨mem, pc, ds, cs, dig, inp, out⟩ := s
  dsimp only at hd
  subst hd
  rfl
theorem step_of {m : Nat → Nat} {pc c : Nat} {ds cs : List Nat} {dig : Bool} {inp : List Nat} {out : List UInt8} (hp : pc < 262144) (hc : m pc = c) : step ⟨m, pc, ds, cs, dig, inp, out⟩ = exec c ⟨m, pc + 1, ds, cs, dig, inp, out⟩ := step_at hp hc
/-- A straight piece, the state's parts by name. -/
theorem lin_of {lo : Nat} (hlo : lo ≤ 262144) (l : List Nat) {m : Nat → Nat} {pc p : Nat} {ds cs : List Nat} {dig : Bool} {inp : List Nat} {out : List UInt8} {m' : Nat → Nat} {ds' cs' : List Nat} {dig' : Bool} {inp' : List Nat} {out' : List UInt8}
    (h : Has m pc l) (hl : pc + l.length ≤ lo) (e : lin lo l ⟨m, pc, ds, cs, dig, inp, out⟩ = some ⟨m', p, ds', cs', dig', inp', out'⟩) (n q : Nat) (hn : l.length = n) (hq : pc + n = q) :
    Goes n ⟨m, pc, ds, cs, dig, inp, out⟩ ⟨m', q, ds', cs', dig', inp', out'⟩ ∧ ∀ i, i < lo → m' i = m i := by
  subst hn hq
  exact lin_goes hlo l ⟨m, pc, ds, cs, dig, inp, out⟩ _ h hl e
end Go.Proofs.YthmgocjmfhpafaaDoor.M17
namespace Go.Proofs.YthmgocjmfhpafaaDoor.A18
set_option maxRecDepth 100000
open Mem
open M17 (St Goes lin lin_app lin_digs lin_of lin_goes exec_jump step_of has_placed digs digs_range digs_pos digs_len exec_digit exec_digit' ans placed init run)
set_option linter.unusedVariables false
set_option linter.unusedSimpArgs false

/-! ### The tokens -/
def wsz (ts : List Tok) : Nat := (ts.map fun t => t.1.length + 1).sum
theorem wsz_app (a b : List Tok) : wsz (a ++ b) = wsz a + wsz b := by simp [wsz]
theorem fl_wsz (n : Nat) (cur : List UInt8) : wsz (fl n cur) ≤ 2 * cur.length := by
  unfold fl
  split
  · exact Nat.zero_le _
  · rename_i h
    have : 0 < cur.length := List.length_pos_iff.2 h
    simp [wsz]
    omega
theorem fl_code {n : Nat} {cur : List UInt8} (h : ∀ c ∈ cur, isIn c = true) : ∀ t ∈ fl n cur, codeB t.1 = true := by
  intro t ht
  unfold fl at ht
  split at ht
  · cases ht
  · rename_i hne
    rw [List.mem_singleton.1 ht]
    exact code_mk hne h
theorem tk_code : ∀ (x cur : List UInt8) (n : Nat), (∀ c ∈ x, isIn c = true ∨ c = 32 ∨ c = 10) → (∀ c ∈ cur, isIn c = true) →
    ∃ m ts, (∀ r, tk n false cur (x ++ 32 :: r) = ts ++ tk m false [] r) ∧ (∀ t ∈ ts, codeB t.1 = true) ∧ wsz ts ≤ 2 * (cur.length + x.length) := by
  intro x
  induction x with
  | nil =>
    intro cur n _ hc
    exact ⟨n, fl n cur, fun r => by rw [List.nil_append, tk_space], fl_code hc, by have := fl_wsz n cur; simpa using this⟩
  | cons c x ih =>
    intro cur n h hc
    have hx : ∀ d ∈ x, isIn d = true ∨ d = 32 ∨ d = 10 := fun d hd => h d (by simp [hd])
    have hf := fl_wsz n cur
    rcases h c (by simp) with h1 | rfl | rfl
    · obtain ⟨m, ts, h2, h3, h4⟩ := ih (cur ++ [c]) n hx (fun d hd => by
        rcases List.mem_append.1 hd with hd | hd
        · exact hc d hd
        · rw [List.mem_singleton.1 hd]; exact h1)
      refine ⟨m, ts, fun r => ?_, h3, ?_⟩
      · rw [List.cons_append, tk_in n cur _ (in_tk c h1)]; exact h2 r
      · simp at h4 ⊢; omega
    · obtain ⟨m, ts, h2, h3, h4⟩ := ih [] n hx (by simp)
      refine ⟨m, fl n cur ++ ts, fun r => ?_, ?_, ?_⟩
      · rw [List.cons_append, tk_space, h2, List.append_assoc]
      · intro t ht
        rcases List.mem_append.1 ht with ht | ht
        · exact fl_code hc t ht
        · exact h3 t ht
      · rw [wsz_app]; simp at h4 ⊢; omega
    · obtain ⟨m, ts, h2, h3, h4⟩ := ih [] (n + 1) hx (by simp)
      refine ⟨m, fl n cur ++ ts, fun r => ?_, ?_, ?_⟩
      · rw [List.cons_append, tk_ten, h2, List.append_assoc]
      · intro t ht
        rcases List.mem_append.1 ht with ht | ht
        · exact fl_code hc t ht
        · exact h3 t ht
      · rw [wsz_app]; simp at h4 ⊢; omega
/-- A byte's literal. -/
def dsc (c : UInt8) : List UInt8 := (digs c.toNat).map UInt8.ofNat
theorem dsc_dg (c : UInt8) : ∀ d ∈ dsc c, isDg d = true := by
  intro d hd
  obtain ⟨k, hk, rfl⟩ := List.mem_map.1 hd
  have := digs_range _ k hk
  unfold isDg
  rw [UInt8.toNat_ofNat_of_lt' (by show k < 256; omega)]
  simp
  omega
theorem dg_in {c : UInt8} (h : isDg c = true) : isIn c = true := by unfold isIn; rw [h]; rfl
theorem dsc_len (c : UInt8) : 0 < (dsc c).length ∧ (dsc c).length ≤ 3 := by
  unfold dsc
  rw [List.length_map]
  refine ⟨digs_pos _, digs_len 2 _ ?_⟩
  have := UInt8.toNat_lt c
  omega
theorem dsc_ne (c : UInt8) : dsc c ≠ [] := List.length_pos_iff.1 (dsc_len c).1
theorem dsc_code (c : UInt8) : codeB (dsc c) = true := code_mk (dsc_ne c) fun d hd => dg_in (dsc_dg c d hd)
theorem dsc_nat (c : UInt8) : (dsc c).map UInt8.toNat = digs c.toNat := by
  unfold dsc
  rw [List.map_map]
  conv => rhs; rw [← List.map_id (digs c.toNat)]
  refine List.map_congr_left fun k hk => ?_
  have := digs_range _ k hk
  show (UInt8.ofNat k).toNat = k
  rw [UInt8.toNat_ofNat_of_lt' (by show k < 256; omega)]
def litT (l : List UInt8) : List UInt8 := l.flatMap fun c => dsc c ++ [32, 46, 32]
def litW (l : List UInt8) : List (List UInt8) := (l.flatMap fun c => [dsc c, [46]]) ++ [[36]]
theorem litT_snoc (l : List UInt8) (c : UInt8) : litT (l ++ [c]) = litT l ++ (dsc c ++ [32, 46, 32]) := by unfold litT; simp
theorem litT_len (l : List UInt8) : (litT l).length ≤ 6 * l.length := by
  induction l with
  | nil => simp [litT]
  | cons c l ih =>
    have : litT (c :: l) = dsc c ++ [32, 46, 32] ++ litT l := by unfold litT; simp
    have h2 := dsc_len c
    rw [this]
    simp
    omega
theorem toks_lit (m : Nat) : ∀ l : List UInt8, tk m false [] (litT l ++ [36]) = (litW l).map fun w => (w, m) := by
  intro l
  induction l with
  | nil => rfl
  | cons c l ih =>
    have e1 : litT (c :: l) ++ [36] = dsc c ++ 32 :: 46 :: 32 :: (litT l ++ [36]) := by unfold litT; simp
    have e2 : litW (c :: l) = dsc c :: [46] :: litW l := by unfold litW; simp
    rw [e1, e2, tk_word m _ (dsc c) [] (fun d hd => in_tk d (dg_in (dsc_dg c d hd))), List.nil_append, tk_space, fl_cons (dsc_ne c), tk_in m [] _ (show isTk 46 = true by decide), List.nil_append, tk_space, fl_cons (by simp), ih]
    rfl
theorem litW_code (l : List UInt8) : ∀ w ∈ litW l, codeB w = true := by
  intro w hw
  unfold litW at hw
  rcases List.mem_append.1 hw with hw | hw
  · obtain ⟨c, _, hc⟩ := List.mem_flatMap.1 hw
    simp at hc
    rcases hc with rfl | rfl
    · exact dsc_code c
    · decide
  · rw [List.mem_singleton.1 hw]; decide
def start : List UInt8 := [115, 116, 97, 114, 116]
/-- The source that the law writes down. -/
def jsrc (x l : List UInt8) : List UInt8 := [48, 32, 38, 115, 116, 97, 114, 116, 32, 63, 32] ++ x ++ [32, 115, 116, 97, 114, 116, 58, 32] ++ litT l ++ [36]
structure Jtok (x l : List UInt8) (X : List Tok) (m : Nat) : Prop where
  eq : toks (jsrc x l) = [([48], 1), (38 :: start, 1), ([63], 1)] ++ (X ++ ([(start ++ [58], m)] ++ (litW l).map fun w => (w, m)))
  code : ∀ t ∈ X, codeB t.1 = true
  sz : wsz X ≤ 2 * x.length
theorem jtok (x l : List UInt8) (hx : ∀ c ∈ x, isIn c = true ∨ c = 32 ∨ c = 10) : ∃ X m, Jtok x l X m := by
  obtain ⟨m, X, h1, h2, h3⟩ := tk_code x [] 1 hx (by simp)
  refine ⟨X, m, ?_, h2, by simpa using h3⟩
  have e : jsrc x l = 48 :: 32 :: 38 :: 115 :: 116 :: 97 :: 114 :: 116 :: 32 :: 63 :: 32 :: (x ++ 32 :: (115 :: 116 :: 97 :: 114 :: 116 :: 58 :: 32 :: (litT l ++ [36]))) := by unfold jsrc; simp
  have e1 : ∀ r, tk 1 false [] (48 :: 32 :: 38 :: 115 :: 116 :: 97 :: 114 :: 116 :: 32 :: 63 :: 32 :: r) = [([48], 1), (38 :: start, 1), ([63], 1)] ++ tk 1 false [] r := fun r => rfl
  have e2 : ∀ r, tk m false [] (115 :: 116 :: 97 :: 114 :: 116 :: 58 :: 32 :: r) = [(start ++ [58], m)] ++ tk m false [] r := fun r => rfl
  unfold toks
  rw [e, e1, h1, e2, toks_lit]
/-! ### What is assembled -/
theorem dfs_code {ws : List (List UInt8)} (h : ∀ w ∈ ws, codeB w = true) : dfs ws = [] := by
  unfold dfs
  rw [List.filterMap_eq_nil_iff]
  exact fun w hw => def_code (h w hw)
theorem wof_code {X : List Tok} (h : ∀ t ∈ X, codeB t.1 = true) : ∀ w ∈ wof X, codeB w = true := fun w hw => by
  obtain ⟨t, ht, rfl⟩ := List.mem_map.1 hw
  exact h t ht
theorem lit_tok {l : List UInt8} {m : Nat} : ∀ t ∈ (litW l).map fun w => (w, m), codeB t.1 = true := fun t ht => by
  obtain ⟨w, hw, rfl⟩ := List.mem_map.1 ht
  exact litW_code l w hw
theorem def_start : defN (start ++ [58]) = some start := def_mk (by decide)
theorem jdfs {x l : List UInt8} {X : List Tok} {m : Nat} (h : Jtok x l X m) : dfs (wof (toks (jsrc x l))) = [start] := by
  rw [h.eq, wof_app, wof_app, wof_app, dfs_app, dfs_app, dfs_app, dfs_code (wof_code h.code), wof_const, dfs_code (litW_code l)]
  rfl
theorem jchk {x l : List UInt8} {X : List Tok} {m : Nat} (h : Jtok x l X m) : (chk (dfs (wof (toks (jsrc x l)))) [] (toks (jsrc x l))).2 = 0 := by
  have h1 : chk [start] [] [([48], 1), (38 :: start, 1), ([63], 1)] = (0, 0) := by decide +kernel
  have h3 : flt [start] [] (start ++ [58]) = 0 := by decide +kernel
  have h2 : dfs (wof [([48], 1), (38 :: start, 1), ([63], 1)]) = [] := by decide +kernel
  rw [jdfs h, h.eq, chk_app, h1, if_pos rfl, chk_app, chk_code h.code, if_pos rfl, chk_app, h2, dfs_code (wof_code h.code)]
  show (if (chk [start] [] [(start ++ [58], m)]).2 = 0 then _ else _ : Nat × Nat).2 = 0
  have h4 : chk [start] [] [(start ++ [58], m)] = (0, 0) := by rw [chk, if_pos h3]; rfl
  rw [h4, if_pos rfl, chk_code lit_tok]
theorem bld_code (A : List UInt8 → Nat) : ∀ (ws : List (List UInt8)) (t : List UInt8), (∀ w ∈ ws, codeB w = true) → (bld A t ws).length ≤ t.length + (ws.map fun w => w.length + 1).sum := by
  intro ws
  induction ws with
  | nil => intro t _; simp [bld]
  | cons w r ih =>
    intro t h
    rw [bld]
    have h1 := ih (stp A t w) fun v hv => h v (by simp [hv])
    have h2 : (stp A t w).length ≤ t.length + w.length + 1 := by
      have hc := h w (by simp)
      unfold stp
      rw [def_code hc, ref_code hc]
      exact addT_le t w
    simp
    omega
/-- The literals of the bytes, put out, and the end. -/
def prt (l : List UInt8) : List UInt8 := (l.flatMap fun c => dsc c ++ [46]) ++ [36]
theorem prt_cons (c : UInt8) (l : List UInt8) : prt (c :: l) = dsc c ++ 46 :: prt l := by unfold prt; simp
theorem ends_dot (t : List UInt8) : endsD (t ++ [46]) = false := by
  unfold endsD
  rw [List.getLast?_append]
  rfl
theorem stp_cod (A : List UInt8 → Nat) {t w : List UInt8} (h : codeB w = true) : stp A t w = addT t w := by unfold stp; rw [def_code h, ref_code h]
theorem addT_ng {t a : List UInt8} (h : begD a = false) : addT t a = t ++ a := by unfold addT; rw [h]; simp
theorem addT_ne' {t a : List UInt8} (h : endsD t = false) : addT t a = t ++ a := by unfold addT; rw [h]; simp
theorem bld_lit0 (A : List UInt8 → Nat) : ∀ (l t : List UInt8), endsD t = false → bld A t (litW l) = t ++ prt l := by
  intro l
  induction l with
  | nil =>
    intro t _
    show bld A t [[36]] = _
    rw [bld, bld, stp_cod A (by decide), addT_ng (by decide)]
    rfl
  | cons c l ih =>
    intro t ht
    have e2 : litW (c :: l) = dsc c :: [46] :: litW l := by unfold litW; simp
    rw [e2, bld, bld, stp_cod A (dsc_code c), addT_ne' ht, stp_cod A (by decide), addT_ng (by decide), ih _ (ends_dot _), prt_cons]
    simp
theorem bld_lit (A : List UInt8 → Nat) (l t : List UInt8) : ∃ sp, (sp = [] ∨ sp = [32]) ∧ bld A t (litW l) = t ++ (sp ++ prt l) := by
  cases l with
  | nil =>
    refine ⟨[], .inl rfl, ?_⟩
    show bld A t [[36]] = _
    rw [bld, bld, stp_cod A (by decide), addT_ng (by decide)]
    rfl
  | cons c l =>
    have e2 : litW (c :: l) = dsc c :: [46] :: litW l := by unfold litW; simp
    rw [e2, bld, bld, stp_cod A (dsc_code c), stp_cod A (by decide), addT_ng (by decide), bld_lit0 _ _ _ (ends_dot _), prt_cons]
    unfold addT
    split
    · exact ⟨[32], .inr rfl, by simp⟩
    · exact ⟨[], .inl rfl, by simp⟩
theorem prt_len (l : List UInt8) : (prt l).length ≤ 4 * l.length + 1 := by
  induction l with
  | nil => simp [prt]
  | cons c l ih =>
    have := dsc_len c
    rw [prt_cons]
    simp
    omega
/-- What comes of the source: the text's two parts. -/
structure Jasm (x l : List UInt8) (o : Int) (M sp : List UInt8) (a : Nat) : Prop where
  eq : asm (jsrc x l) o = ⟨([48, 32] ++ sixL a ++ [63] ++ M) ++ (sp ++ prt l), [(start, (a : Int))], 0, 0⟩
  addr : (a : Int) = o + (([48, 32] ++ sixL a ++ [63] ++ M).length : Int)
  sp01 : sp = [] ∨ sp = [32]
  len : M.length ≤ 2 * x.length
theorem jasm (x l : List UInt8) (o : Int) (hx : ∀ c ∈ x, isIn c = true ∨ c = 32 ∨ c = 10) (hxl : x.length ≤ 100) (hll : l.length ≤ 60) (h0 : 0 ≤ o) (h1 : o ≤ 260144) : ∃ M sp a, Jasm x l o M sp a := by
  obtain ⟨X, m, h⟩ := jtok x l hx
  have hw : wof (toks (jsrc x l)) = [[48], 38 :: start, [63]] ++ (wof X ++ ([start ++ [58]] ++ litW l)) := by
    rw [h.eq, wof_app, wof_app, wof_app, wof_const]
    rfl
  have front : ∀ A, bld A [] [[48], 38 :: start, [63]] = [48, 32] ++ sixL (A start) ++ [63] := fun A => by
    have r1 : stp A [] [48] = [48] := by rw [stp_cod A (by decide)]; rfl
    have r2 : stp A [48] (38 :: start) = [48] ++ 32 :: sixL (A start) := by
      unfold stp
      rw [show defN (38 :: start) = none by decide +kernel, show refN (38 :: start) = some start from ref_mk (by decide)]
      dsimp only
      unfold addT
      rw [show endsD [48] = true by decide, show begD (sixL (A start)) = true from dg_of _ (Nat.mod_lt _ (by decide))]
      rfl
    rw [bld, bld, bld, bld, r1, r2, stp_cod A (by decide), addT_ng (by decide)]
    rfl
  have body : ∀ A, ∃ M sp, (sp = [] ∨ sp = [32]) ∧ M.length ≤ 2 * x.length ∧ bld A [] ([[48], 38 :: start, [63]] ++ wof X) = [48, 32] ++ sixL (A start) ++ [63] ++ M ∧ bld A [] (wof (toks (jsrc x l))) = ([48, 32] ++ sixL (A start) ++ [63] ++ M) ++ (sp ++ prt l) := fun A => by
    obtain ⟨M, hM⟩ := bld_pre A (wof X) ([48, 32] ++ sixL (A start) ++ [63])
    obtain ⟨sp, h01, hs⟩ := bld_lit A l ([48, 32] ++ sixL (A start) ++ [63] ++ M)
    have hl := bld_code A (wof X) ([48, 32] ++ sixL (A start) ++ [63]) (wof_code h.code)
    have hz : ((wof X).map fun w => w.length + 1).sum = wsz X := by unfold wof wsz; rw [List.map_map]; rfl
    have hs2 := h.sz
    refine ⟨M, sp, h01, ?_, by rw [bld_app, front, hM], ?_⟩
    · rw [hM, List.length_append, hz] at hl
      omega
    · rw [hw, bld_app, bld_app, bld_app, front, hM]
      have e : bld A ([48, 32] ++ sixL (A start) ++ [63] ++ M) [start ++ [58]] = [48, 32] ++ sixL (A start) ++ [63] ++ M := by
        rw [bld, bld]
        unfold stp
        rw [def_start]
      rw [e, hs]
  obtain ⟨M0, sp0, _, hM0, hf0, hb0⟩ := body nul
  have hp := prt_len l
  have hlabs : lbs nul o [] (wof (toks (jsrc x l))) = [(start, o + (([48, 32] ++ sixL (nul start) ++ [63] ++ M0).length : Int))] := by
    have e : wof (toks (jsrc x l)) = ([[48], 38 :: start, [63]] ++ wof X) ++ ([start ++ [58]] ++ litW l) := by rw [hw]; simp
    have nolab : ∀ (A : List UInt8 → Nat) (ws : List (List UInt8)) (t : List UInt8), dfs ws = [] → lbs A o t ws = [] := fun A ws t hd => by
      have := lbs_names A o ws t
      rw [hd] at this
      simpa using this
    have d1 : dfs ([[48], 38 :: start, [63]] ++ wof X) = [] := by
      rw [dfs_app, dfs_code (wof_code h.code)]
      decide +kernel
    rw [e, lbs_app, nolab _ _ _ d1, List.nil_append, hf0, lbs_app, nolab _ _ _ (dfs_code (litW_code l)), List.append_nil, lbs, def_start, lbs]
    rfl
  have hsz : (bld nul [] (wof (toks (jsrc x l)))).length ≤ 40000 := by
    rw [hb0]
    simp only [List.length_append, List.length_cons, List.length_nil, six_len]
    rcases ‹sp0 = [] ∨ sp0 = [32]› with e | e <;> rw [e] <;> simp <;> omega
  obtain ⟨a, ha⟩ : ∃ a : Nat, (o + (([48, 32] ++ sixL (nul start) ++ [63] ++ M0).length : Int)).toNat = a := ⟨_, rfl⟩
  have haz : (a : Int) = o + (([48, 32] ++ sixL (nul start) ++ [63] ++ M0).length : Int) := by omega
  rw [← haz] at hlabs
  have hadr : adr (lbs nul o [] (wof (toks (jsrc x l)))) start = a := by
    rw [hlabs]
    unfold adr look
    simp
  obtain ⟨M, sp, h01, hM, hf, hb⟩ := body (adr (lbs nul o [] (wof (toks (jsrc x l)))))
  rw [hadr] at hf hb
  have hMl : M.length = M0.length := by
    have := bld_len_eq (adr (lbs nul o [] (wof (toks (jsrc x l))))) nul ([[48], 38 :: start, [63]] ++ wof X)
    rw [hf, hf0] at this
    simp only [List.length_append, List.length_cons, List.length_nil, six_len] at this
    omega
  refine ⟨M, sp, a, ?_, ?_, h01, hM⟩
  · rw [asm_mk h0 (by omega) (jchk h) hsz, hb, hlabs]
  · rw [haz]
    simp only [List.length_append, List.length_cons, List.length_nil, six_len, hMl]
/-! ### The run -/
def prtN (l : List UInt8) : List Nat := l.flatMap fun c => digs c.toNat ++ [46]
theorem prt_nat (l : List UInt8) : (prt l).map UInt8.toNat = prtN l ++ [36] := by
  induction l with
  | nil => rfl
  | cons c l ih =>
    rw [prt_cons, List.map_append, List.map_cons, ih, dsc_nat]
    unfold prtN
    simp
theorem lin_prt (lo : Nat) (m : Nat → Nat) (p : Nat) : ∀ (l out : List UInt8), lin lo (prtN l) ⟨m, p, [], [], false, [], out⟩ = some ⟨m, p, [], [], false, [], out ++ l⟩ := by
  intro l
  induction l with
  | nil => intro out; rw [List.append_nil]; rfl
  | cons c l ih =>
    intro out
    have h8 := UInt8.toNat_lt c
    have e : prtN (c :: l) = digs c.toNat ++ ([46] ++ prtN l) := by unfold prtN; simp
    rw [e, lin_app, lin_digs c.toNat _ (by omega) rfl (by simp)]
    show lin lo ([46] ++ prtN l) ⟨m, p, [c.toNat], [], true, [], out⟩ = _
    rw [lin_app]
    have h46 : lin lo [46] ⟨m, p, [c.toNat], [], true, [], out⟩ = some ⟨m, p, [], [], false, [], out ++ [UInt8.ofNat c.toNat]⟩ := rfl
    rw [h46]
    show lin lo (prtN l) ⟨m, p, [], [], false, [], out ++ [UInt8.ofNat c.toNat]⟩ = _
    rw [ih, UInt8.ofNat_toNat, List.append_assoc]
    rfl
theorem run_tail (l sp : List UInt8) (hsp : sp = [] ∨ sp = [32]) (m : Nat → Nat) (pc : Nat) (hm : M17.Has m pc ((sp ++ prt l).map UInt8.toNat)) (hp : pc + (sp ++ prt l).length ≤ 262144) :
    ∃ n s, n ≤ (sp ++ prt l).length ∧ Goes n ⟨m, pc, [], [], false, [], []⟩ s ∧ M17.step s = .halt ∧ s.out = l := by
  have e : (sp ++ prt l).map UInt8.toNat = (sp.map UInt8.toNat ++ prtN l) ++ [36] := by rw [List.map_append, prt_nat, List.append_assoc]
  have hlen := congrArg List.length e
  rw [List.length_map, List.length_append (bs := [36])] at hlen
  rw [e] at hm
  have hlin : lin 262144 (sp.map UInt8.toNat ++ prtN l) ⟨m, pc, [], [], false, [], []⟩ = some ⟨m, pc, [], [], false, [], l⟩ := by
    rcases hsp with rfl | rfl
    · exact lin_prt 262144 m pc l []
    · rw [lin_app]
      exact lin_prt 262144 m pc l []
  obtain ⟨q, hq⟩ : ∃ q, (sp.map UInt8.toNat ++ prtN l).length = q := ⟨_, rfl⟩
  rw [hq] at hlen
  have h1 : ([36] : List Nat).length = 1 := rfl
  obtain ⟨g, _⟩ := lin_of (lo := 262144) (by decide) _ (M17.Has.left hm) (by rw [hq]; omega) hlin q (pc + q) hq rfl
  have h2 := (M17.Has.right hm).head
  rw [hq] at h2
  refine ⟨q, _, by omega, g, ?_, rfl⟩
  rw [step_of (c := 36) (by omega) h2]
  rfl
theorem lin_more (lo : Nat) (m : Nat → Nat) (p : Nat) (r : List Nat) : ∀ (ds : List Nat) (t : Nat), (∀ d ∈ ds, d < 10) → lin lo (ds.map (48 + ·)) ⟨m, p, t :: r, [], true, [], []⟩ = some ⟨m, p, (ds.foldl (fun t d => (t * 10 + d) % 4294967296) t) :: r, [], true, [], []⟩ := by
  intro ds
  induction ds with
  | nil => intro t _; rfl
  | cons d ds ih =>
    intro t h
    have hd := h d (by simp)
    rw [List.map_cons]
    unfold lin
    rw [if_neg (by omega), if_neg (by omega), exec_digit' (t := t) (r := r) hd rfl rfl]
    exact ih _ fun x hx => h x (by simp [hx])
theorem six_1 (a : Nat) (ha : a < 1000000) : (a / 100000 % 10 * 10 + a / 10000 % 10) % 4294967296 = a / 10000 := by
  have k2 : a / 100000 < 10 := by omega
  rw [Nat.mod_eq_of_lt k2, show a / 100000 = a / 10000 / 10 from (Nat.div_div_eq_div_mul a 10000 10).symm]
  have k3 : a / 10000 < 100 := by omega
  generalize a / 10000 = b at k3 ⊢
  omega
theorem six_2 (a : Nat) (ha : a < 1000000) : (a / 10000 * 10 + a / 1000 % 10) % 4294967296 = a / 1000 := by
  rw [show a / 10000 = a / 1000 / 10 from (Nat.div_div_eq_div_mul a 1000 10).symm]
  have k3 : a / 1000 < 1000 := by omega
  generalize a / 1000 = b at k3 ⊢
  omega
theorem six_3 (a : Nat) (ha : a < 1000000) : (a / 1000 * 10 + a / 100 % 10) % 4294967296 = a / 100 := by
  rw [show a / 1000 = a / 100 / 10 from (Nat.div_div_eq_div_mul a 100 10).symm]
  have k3 : a / 100 < 10000 := by omega
  generalize a / 100 = b at k3 ⊢
  omega
theorem six_4 (a : Nat) (ha : a < 1000000) : (a / 100 * 10 + a / 10 % 10) % 4294967296 = a / 10 := by
  rw [show a / 100 = a / 10 / 10 from (Nat.div_div_eq_div_mul a 10 10).symm]
  have k3 : a / 10 < 100000 := by omega
  generalize a / 10 = b at k3 ⊢
  omega
theorem six_5 (a : Nat) (ha : a < 1000000) : (a / 10 * 10 + a % 10) % 4294967296 = a := by omega
theorem six_fold (a : Nat) (ha : a < 1000000) : List.foldl (fun t d => (t * 10 + d) % 4294967296) (a / 100000 % 10) [a / 10000 % 10, a / 1000 % 10, a / 100 % 10, a / 10 % 10, a % 10] = a := by
  rw [List.foldl_cons, six_1 a ha, List.foldl_cons, six_2 a ha, List.foldl_cons, six_3 a ha, List.foldl_cons, six_4 a ha, List.foldl_cons, six_5 a ha, List.foldl_nil]
theorem lin_first (lo : Nat) (m : Nat → Nat) (p d : Nat) (hd : d < 10) (l : List Nat) : lin lo ((48 + d) :: l) ⟨m, p, [0], [], false, [], []⟩ = lin lo l ⟨m, p, [d, 0], [], true, [], []⟩ := by
  conv => lhs; unfold lin
  rw [if_neg (by omega), if_neg (by omega), exec_digit hd rfl (by show 1 < 256; decide)]
theorem lin_six (lo : Nat) (m : Nat → Nat) (p a : Nat) (ha : a < 1000000) : lin lo ((sixL a).map UInt8.toNat) ⟨m, p, [0], [], false, [], []⟩ = some ⟨m, p, [a, 0], [], true, [], []⟩ := by
  have e : (sixL a).map UInt8.toNat = [a / 100000 % 10, a / 10000 % 10, a / 1000 % 10, a / 100 % 10, a / 10 % 10, a % 10].map (48 + ·) := by
    unfold sixL
    rw [List.map_map]
    refine List.map_congr_left fun d hd => ?_
    have : d < 10 := by
      simp only [List.mem_cons, List.not_mem_nil, or_false] at hd
      rcases hd with rfl | rfl | rfl | rfl | rfl | rfl <;> exact Nat.mod_lt _ (by decide)
    show (UInt8.ofNat (48 + d)).toNat = 48 + d
    rw [UInt8.toNat_ofNat_of_lt' (by show 48 + d < 256; omega)]
  rw [e, List.map_cons, lin_first lo m p _ (Nat.mod_lt _ (by decide)), lin_more lo m p [0] _ _ (by
    intro d hd
    simp only [List.mem_cons, List.not_mem_nil, or_false] at hd
    rcases hd with rfl | rfl | rfl | rfl | rfl <;> exact Nat.mod_lt _ (by decide)), six_fold a ha]
theorem run_head (a : Nat) (ha : a < 262144) (m : Nat → Nat) (pc : Nat) (hm : M17.Has m pc (([48, 32] ++ sixL a ++ [63]).map UInt8.toNat)) (hp : pc + 9 ≤ 262144) :
    Goes 9 ⟨m, pc, [], [], false, [], []⟩ ⟨m, a, [], [], false, [], []⟩ := by
  have e : ([48, 32] ++ sixL a ++ [63]).map UInt8.toNat = ([48, 32] ++ (sixL a).map UInt8.toNat) ++ [63] := by rw [List.map_append, List.map_append]; rfl
  rw [e] at hm
  have hlin : lin 262144 ([48, 32] ++ (sixL a).map UInt8.toNat) ⟨m, pc, [], [], false, [], []⟩ = some ⟨m, pc, [a, 0], [], true, [], []⟩ := by
    rw [lin_app]
    exact lin_six 262144 m pc a (by omega)
  have hq : ([48, 32] ++ (sixL a).map UInt8.toNat).length = 8 := by rw [List.length_append, List.length_map, six_len]; rfl
  obtain ⟨g, _⟩ := lin_of (lo := 262144) (by decide) _ (M17.Has.left hm) (by rw [hq]; omega) hlin 8 (pc + 8) hq rfl
  have h2 := (M17.Has.right hm).head
  rw [hq] at h2
  have hst : M17.step ⟨m, pc + 8, [a, 0], [], true, [], []⟩ = .go ⟨m, a, [], [], false, [], []⟩ := by
    rw [step_of (c := 63) (by omega) h2, exec_jump rfl]
    rfl
  exact g.trans (Goes.one hst)
theorem ans_run {z : Nat} {S : ByteArray} {b : Nat} (hb : b < 262144) (hf : z + S.size ≤ 262144) : ans [((z : Int), S)] (b : Int) [] 5000 = run 5000 ⟨placed [((z : Int), S)], b, [], [], false, [], []⟩ := by
  unfold ans
  rw [if_neg (by omega), if_neg (by
    intro h
    apply h
    intro t ht
    rw [List.mem_singleton.1 ht]
    exact ⟨by show (0 : Int) ≤ (z : Int); omega, by show (z : Int) + (S.size : Int) ≤ 262144; omega⟩), if_neg (by decide), if_neg (by decide), show (5000 : Int).toNat = 5000 from rfl, Int.toNat_natCast]
  unfold init
  rfl
/-- Both runs put the bytes out and halt. -/
theorem jrun {x l : List UInt8} {o : Int} {M sp : List UInt8} {a : Nat} (h : Jasm x l o M sp a) (hxl : x.length ≤ 100) (hll : l.length ≤ 60) (h0 : 0 ≤ o) (h1 : o ≤ 260144) (S : ByteArray) (hS : S.data.toList = (asm (jsrc x l) o).text) :
    (∃ k, ans [(o, S)] o [] 5000 = ⟨l, 0, k⟩) ∧ (∃ k, ans [(o, S)] (a : Int) [] 5000 = ⟨l, 0, k⟩) ∧ S.size ≤ 1000 ∧ a ≤ 262144 := by
  obtain ⟨z, rfl⟩ : ∃ z : Nat, o = (z : Int) := ⟨o.toNat, by omega⟩
  rw [h.eq] at hS
  have hS : S.data.toList = ([48, 32] ++ sixL a ++ [63] ++ M) ++ (sp ++ prt l) := hS
  have hM := h.len
  have haz := h.addr
  have hp := prt_len l
  have hspl : sp.length ≤ 1 := by rcases h.sp01 with e | e <;> rw [e] <;> simp
  have hl1 : ([48, 32] ++ sixL a ++ [63] ++ M).length = 9 + M.length := by
    simp only [List.length_append, List.length_cons, List.length_nil, six_len]
  have hl2 : (sp ++ prt l).length ≤ 4 * l.length + 2 := by rw [List.length_append]; omega
  have hsz : S.size = (9 + M.length) + (sp ++ prt l).length := by
    have := congrArg List.length hS
    rw [List.length_append, hl1] at this
    have h2 : S.data.toList.length = S.size := by simp
    omega
  rw [hl1] at haz
  have haz2 : a = z + (9 + M.length) := by omega
  have hm := has_placed z S
  rw [hS, List.map_append] at hm
  have hmR := M17.Has.right hm
  rw [List.length_map, hl1, ← haz2] at hmR
  have hmL := M17.Has.left hm
  rw [List.map_append] at hmL
  have hmH := M17.Has.left hmL
  obtain ⟨n, s, hn, g, hst, ho⟩ := run_tail l sp h.sp01 _ a hmR (by omega)
  have r1 : ans [((z : Int), S)] (z : Int) [] 5000 = ⟨s.out, 0, 9 + n + 1⟩ := by
    rw [ans_run (by omega) (by omega)]
    exact ((run_head a (by omega) _ z hmH (by omega)).trans g).halt (N := 5000) hst (by omega)
  have r2 : ans [((z : Int), S)] (a : Int) [] 5000 = ⟨s.out, 0, n + 1⟩ := by
    rw [ans_run (by omega) (by omega)]
    exact g.halt (N := 5000) hst (by omega)
  rw [ho] at r1 r2
  exact ⟨⟨_, r1⟩, ⟨_, r2⟩, by omega, by omega⟩
end Go.Proofs.YthmgocjmfhpafaaDoor.A18
