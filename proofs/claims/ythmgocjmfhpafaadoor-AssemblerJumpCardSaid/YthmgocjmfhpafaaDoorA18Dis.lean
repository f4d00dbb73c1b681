/- The way back from a text to assembly. No program is named here. -/
import Derived.Test.YthmgocjmfhpafaaDoorA18More
import Derived.Lib.Join
namespace Go.Proofs.YthmgocjmfhpafaaDoor.A18
open Mem
set_option linter.unusedVariables false
set_option linter.unusedSimpArgs false

def fw (cur : List UInt8) : List (List UInt8) := if cur = [] then [] else [cur]
/-- The tokens of what is left; cur: digits that have been read. -/
def dis : List UInt8 → List UInt8 → List (List UInt8)
  | cur, [] => fw cur
  | cur, c :: r =>
    if isDg c then dis (cur ++ [c]) r
    else if isSg c then fw cur ++ [c] :: dis [] r
    else fw cur ++ dis [] r
def badB (l : List UInt8) : Bool := l.any fun c => !isIn c && !isSp c
structure Dsm where
  text : List UInt8
  err : Nat
def dsm (l : List UInt8) : Dsm := if badB l then ⟨[], 3⟩ else ⟨jn (dis [] l), 0⟩
theorem fw_nil : fw [] = [] := rfl
theorem fw_cons {cur : List UInt8} (h : cur ≠ []) : fw cur = [cur] := if_neg h
theorem dis_nil (cur : List UInt8) : dis cur [] = fw cur := by unfold dis; rfl
theorem dis_dg (cur r : List UInt8) {c : UInt8} (h : isDg c = true) : dis cur (c :: r) = dis (cur ++ [c]) r := by rw [dis, if_pos h]
theorem dis_sg (cur r : List UInt8) {c : UInt8} (h : isSg c = true) : dis cur (c :: r) = fw cur ++ [c] :: dis [] r := by
  have hd : isDg c = false := by
    rcases e : isDg c with _ | _
    · rfl
    · rw [dg_sg c e] at h; cases h
  rw [dis, if_neg (by rw [hd]; simp), if_pos h]
theorem dis_sp (cur r : List UInt8) {c : UInt8} (h : isIn c = false) : dis cur (c :: r) = fw cur ++ dis [] r := by
  unfold isIn at h
  simp only [Bool.or_eq_false_iff] at h
  rw [dis, if_neg (by rw [h.1]; simp), if_neg (by rw [h.2]; simp)]
theorem dis_word (r : List UInt8) : ∀ (w cur : List UInt8), (∀ c ∈ w, isDg c = true) → dis cur (w ++ r) = dis (cur ++ w) r := by
  intro w
  induction w with
  | nil => intro cur _; simp
  | cons c w ih =>
    intro cur h
    rw [List.cons_append, dis_dg cur _ (h c (by simp)), ih _ (fun d hd => h d (by simp [hd])), List.append_assoc]
    rfl
theorem dis_end (cur r : List UInt8) (h : ∀ c ∈ r.head?, isDg c = false) : dis cur r = fw cur ++ dis [] r := by
  cases r with
  | nil => rw [dis_nil, dis_nil, fw_nil, List.append_nil]
  | cons c r =>
    have hc := h c (by simp)
    rcases e : isSg c with _ | _
    · have hi : isIn c = false := by unfold isIn; rw [hc, e]; rfl
      rw [dis_sp cur r hi, dis_sp [] r hi, fw_nil, List.nil_append]
    · rw [dis_sg cur r e, dis_sg [] r e, fw_nil, List.nil_append]
theorem join_jn : ∀ l : List (List UInt8), Lib.join l [32] = jn l := by
  intro l
  induction l with
  | nil => rfl
  | cons w r ih =>
    by_cases h : r = []
    · subst h; rw [Lib.join_one]; rfl
    · cases r with
      | nil => exact absurd rfl h
      | cons v r =>
        rw [jn_cons w h, ← ih, Lib.join_cons, Lib.join_cons]
        unfold Lib.joinTail
        simp
theorem dis_code : ∀ (r cur : List UInt8), (∀ c ∈ cur, isDg c = true) → ∀ w ∈ dis cur r, codeB w = true ∧ (w.length = 1 ∨ ∀ c ∈ w, isDg c = true) := by
  intro r
  have hf : ∀ cur : List UInt8, (∀ c ∈ cur, isDg c = true) → ∀ w ∈ fw cur, codeB w = true ∧ (w.length = 1 ∨ ∀ c ∈ w, isDg c = true) := by
    intro cur h w hw
    unfold fw at hw
    split at hw
    · cases hw
    · rename_i hne
      rw [List.mem_singleton.1 hw]
      exact ⟨code_mk hne fun c hc => by unfold isIn; rw [h c hc]; rfl, .inr h⟩
  induction r with
  | nil => intro cur h w hw; rw [dis_nil] at hw; exact hf cur h w hw
  | cons c r ih =>
    intro cur h w hw
    rw [dis] at hw
    split at hw
    · rename_i hd
      refine ih _ (fun d hd' => ?_) w hw
      rcases List.mem_append.1 hd' with hd' | hd'
      · exact h d hd'
      · rw [List.mem_singleton.1 hd']; exact hd
    split at hw
    · rename_i hs
      rcases List.mem_append.1 hw with hw | hw
      · exact hf cur h w hw
      · rcases List.mem_cons.1 hw with rfl | hw
        · exact ⟨code_mk (by simp) fun d hd' => by rw [List.mem_singleton.1 hd']; unfold isIn; rw [hs]; simp, .inl rfl⟩
        · exact ih [] (by simp) w hw
    · rcases List.mem_append.1 hw with hw | hw
      · exact hf cur h w hw
      · exact ih [] (by simp) w hw
theorem dis_len : ∀ (r cur : List UInt8), (dis cur r).length ≤ r.length + (if cur = [] then 0 else 1) := by
  intro r
  have hf : ∀ cur, (fw cur).length = if cur = [] then 0 else 1 := fun cur => by unfold fw; split <;> rfl
  induction r with
  | nil => intro cur; rw [dis_nil, hf]; simp
  | cons c r ih =>
    intro cur
    rw [dis]
    split
    · have := ih (cur ++ [c]); rw [if_neg (by simp)] at this; simp only [List.length_cons]; omega
    split
    · have := ih []; simp only [List.length_append, hf, List.length_cons] at *; simp at this; omega
    · have := ih []; simp only [List.length_append, hf, List.length_cons] at *; simp at this; omega
theorem dis_le (l : List UInt8) : (dis [] l).length ≤ l.length := by have := dis_len l []; simpa using this
/-- The text of the tokens is short. -/
theorem jn_app_one (l : List (List UInt8)) (w : List UInt8) : (jn (l ++ [w])).length ≤ (jn l).length + 1 + w.length := by
  rw [jn_snoc]
  split
  · omega
  · simp; omega
theorem jn_cons_le (w : List UInt8) (l : List (List UInt8)) : (jn (w :: l)).length ≤ w.length + 1 + (jn l).length := by
  by_cases h : l = []
  · subst h; simp [jn]
  · rw [jn_cons w h]; simp; omega
theorem jn_fw (cur : List UInt8) (l : List (List UInt8)) : (jn (fw cur ++ l)).length ≤ cur.length + (if cur = [] then 0 else 1) + (jn l).length := by
  unfold fw
  split
  · simp
  · show (jn (cur :: l)).length ≤ _
    have := jn_cons_le cur l
    omega
theorem dis_text : ∀ (r cur : List UInt8), (jn (dis cur r)).length ≤ cur.length + (if cur = [] then 0 else 1) + 2 * r.length := by
  intro r
  induction r with
  | nil =>
    intro cur
    have := jn_fw cur []
    rw [List.append_nil] at this
    rw [dis_nil]
    simp [jn] at *
    omega
  | cons c r ih =>
    intro cur
    rw [dis]
    split
    · have := ih (cur ++ [c])
      rw [if_neg (by simp)] at this
      simp only [List.length_append, List.length_cons, List.length_nil] at *
      split <;> omega
    split
    · have h1 := jn_fw cur ([c] :: dis [] r)
      have h2 := jn_cons_le [c] (dis [] r)
      have h3 := ih []
      simp only [List.length_cons, List.length_nil] at *
      simp at h3
      omega
    · have h1 := jn_fw cur (dis [] r)
      have h3 := ih []
      simp only [List.length_cons, List.length_nil] at *
      simp at h3
      omega
theorem dsm_len (l : List UInt8) : (jn (dis [] l)).length ≤ 2 * l.length := by have := dis_text l []; simpa using this

/-! ### An assembled text and its way back -/
/-- Spaces stand between digits alone; p: a digit stands ahead. -/
def gd : Bool → List UInt8 → Bool
  | _, [] => true
  | p, c :: r => if c = 32 then p && begD r && gd false r else isIn c && gd (isDg c) r
def lastD (p : Bool) (t : List UInt8) : Bool := match t.getLast? with | some c => isDg c | none => p
theorem lastD_cons (p : Bool) (c : UInt8) (r : List UInt8) : lastD p (c :: r) = lastD (isDg c) r := by
  unfold lastD
  cases r with
  | nil => rfl
  | cons d r =>
    rw [List.getLast?_cons_cons]
    rcases e : (d :: r).getLast? with _ | x
    · simp at e
    · rfl
theorem begD_app {r a : List UInt8} (h : begD r = true) : begD (r ++ a) = true := by
  cases r with
  | nil => cases h
  | cons c r => exact h
theorem gd_app : ∀ (t a : List UInt8) (p : Bool), gd p t = true → gd (lastD p t) a = true → gd p (t ++ a) = true := by
  intro t
  induction t with
  | nil => intro a p _ h; exact h
  | cons c r ih =>
    intro a p h k
    rw [List.cons_append]
    unfold gd at h ⊢
    split at h
    · rename_i hc
      simp only [Bool.and_eq_true] at h
      obtain ⟨⟨h1, h2⟩, h3⟩ := h
      rw [if_pos hc]
      simp only [Bool.and_eq_true]
      refine ⟨⟨h1, begD_app h2⟩, ih a false h3 ?_⟩
      rw [lastD_cons] at k
      subst hc
      exact k
    · rename_i hc
      simp only [Bool.and_eq_true] at h
      rw [if_neg hc]
      simp only [Bool.and_eq_true]
      refine ⟨h.1, ih a _ h.2 ?_⟩
      rw [lastD_cons] at k
      exact k
theorem gd_code : ∀ (a : List UInt8) (p : Bool), (∀ c ∈ a, isIn c = true) → gd p a = true := by
  intro a
  induction a with
  | nil => intro p _; rfl
  | cons c r ih =>
    intro p h
    have hc := h c (by simp)
    unfold gd
    rw [if_neg (fun e => by subst e; revert hc; decide), hc, ih _ fun d hd => h d (by simp [hd])]
    rfl
theorem gd_add {t a : List UInt8} (h : gd false t = true) (ha : ∀ c ∈ a, isIn c = true) : gd false (addT t a) = true := by
  unfold addT
  split
  · rename_i hh
    simp only [Bool.and_eq_true] at hh
    refine gd_app _ _ _ h ?_
    unfold gd
    rw [if_pos rfl]
    simp only [Bool.and_eq_true]
    refine ⟨⟨?_, hh.2⟩, gd_code a _ ha⟩
    have := hh.1
    unfold endsD at this
    unfold lastD
    rcases e : t.getLast? with _ | c
    · rw [e] at this; cases this
    · rw [e] at this; exact this
  · exact gd_app _ _ _ h (gd_code a _ ha)
theorem gd_bld (A : List UInt8 → Nat) : ∀ (ws : List (List UInt8)) (t : List UInt8), (∀ w ∈ ws, Good w) → gd false t = true → gd false (bld A t ws) = true := by
  intro ws
  induction ws with
  | nil => intro t _ h; exact h
  | cons w r ih =>
    intro t hg h
    rw [bld]
    refine ih _ (fun x hx => hg x (by simp [hx])) ?_
    unfold stp
    rcases hg w (by simp) with ⟨n, e⟩ | ⟨n, e⟩ | e
    · rw [e]; exact h
    · have hd : defN w = none := by
        rcases e2 : defN w with _ | m
        · rfl
        · rw [ref_def e2] at e; cases e
      rw [hd, e]
      exact gd_add h fun c hc => by unfold isIn; rw [six_dg _ c hc]; rfl
    · rw [def_code e, ref_code e]
      exact gd_add h (code_in e).2
theorem stp_code (A : List UInt8 → Nat) (t : List UInt8) {w : List UInt8} (h : codeB w = true) : stp A t w = addT t w := by unfold stp; rw [def_code h, ref_code h]
theorem endsD_snoc (t : List UInt8) (c : UInt8) : endsD (t ++ [c]) = isDg c := by unfold endsD; rw [List.getLast?_append]; rfl
theorem addT_snoc (t cur : List UInt8) (c : UInt8) (h : cur ≠ []) : addT t (cur ++ [c]) = addT t cur ++ [c] := by
  have : begD (cur ++ [c]) = begD cur := by
    cases cur with
    | nil => exact absurd rfl h
    | cons d r => rfl
  unfold addT
  rw [this]
  split <;> simp
theorem addT_no {t a : List UInt8} (h : (endsD t && begD a) = false) : addT t a = t ++ a := by unfold addT; rw [h]; rfl
theorem addT_yes {t a : List UInt8} (h1 : endsD t = true) (h2 : begD a = true) : addT t a = t ++ 32 :: a := by unfold addT; rw [h1, h2]; rfl
theorem endsD_add {t cur : List UInt8} (h : cur ≠ []) (hc : ∀ c ∈ cur, isDg c = true) : endsD (addT t cur) = true := by
  have : ∀ u : List UInt8, endsD (u ++ cur) = true := fun u => by
    unfold endsD
    rw [List.getLast?_append, List.getLast?_eq_some_getLast h]
    exact hc _ (List.getLast_mem h)
  unfold addT
  split
  · have := this (t ++ [32]); rw [List.append_assoc] at this; exact this
  · exact this t
theorem dg_code {c : UInt8} (h : isDg c = true) : codeB [c] = true := code_mk (by simp) fun d hd => by rw [List.mem_singleton.1 hd]; unfold isIn; rw [h]; rfl
theorem back : ∀ (A : List UInt8 → Nat) (r : List UInt8),
    (∀ t cur, cur ≠ [] → (∀ c ∈ cur, isDg c = true) → gd true r = true → bld A t (dis cur r) = addT t cur ++ r) ∧
    (∀ t, (endsD t && begD r) = false → gd false r = true → bld A t (dis [] r) = t ++ r) ∧
    (∀ t, endsD t = true → begD r = true → gd false r = true → bld A t (dis [] r) = t ++ 32 :: r) := by
  intro A r
  induction r with
  | nil =>
    refine ⟨fun t cur h0 hc _ => ?_, fun t _ _ => ?_, fun t _ h => by cases h⟩
    · rw [dis_nil, fw_cons h0, bld, bld, stp_code A t (code_mk h0 fun c h => by unfold isIn; rw [hc c h]; rfl), List.append_nil]
    · rw [dis_nil, fw_nil, bld, List.append_nil]
  | cons c r ih =>
    obtain ⟨ihD, ihN, ihS⟩ := ih
    have one : ∀ t, isSg c = true → bld A t ([c] :: dis [] r) = bld A (t ++ [c]) (dis [] r) := fun t hs => by
      have hd : isDg c = false := by
        rcases e : isDg c with _ | _
        · rfl
        · rw [dg_sg c e] at hs; cases hs
      rw [bld, stp_code A t (code_mk (by simp) fun d hd => by rw [List.mem_singleton.1 hd]; unfold isIn; rw [hs]; simp), addT_no (by unfold begD; simp [hd])]
    have nosg : ∀ t, isSg c = true → endsD (t ++ [c]) = false := fun t hs => by
      rw [endsD_snoc]
      rcases e : isDg c with _ | _
      · rfl
      · rw [dg_sg c e] at hs; cases hs
    refine ⟨fun t cur h0 hc hg => ?_, fun t hn hg => ?_, fun t he hb hg => ?_⟩
    · have hcode : codeB cur = true := code_mk h0 fun c h => by unfold isIn; rw [hc c h]; rfl
      rcases e : isDg c with _ | _
      · rcases e2 : isSg c with _ | _
        · have hi : isIn c = false := by unfold isIn; rw [e, e2]; rfl
          unfold gd at hg
          by_cases h32 : c = 32
          · subst h32
            rw [if_pos rfl] at hg
            simp only [Bool.and_eq_true] at hg
            rw [dis_sp cur r hi, fw_cons h0]
            show bld A t (cur :: dis [] r) = _
            rw [bld, stp_code A t hcode, ihS _ (endsD_add h0 hc) hg.1.2 hg.2]
          · rw [if_neg h32, hi] at hg
            cases hg
        · have hg2 : gd false r = true := by
            unfold gd at hg
            rw [if_neg (fun h => by subst h; revert e2; decide), e] at hg
            simp only [Bool.and_eq_true] at hg
            exact hg.2
          rw [dis_sg cur r e2, fw_cons h0]
          show bld A t (cur :: [c] :: dis [] r) = _
          rw [bld, stp_code A t hcode, one _ e2, ihN _ (by rw [nosg _ e2]; rfl) hg2]
          simp
      · have hg2 : gd true r = true := by
          unfold gd at hg
          rw [if_neg (fun h => by subst h; revert e; decide), e] at hg
          simp only [Bool.and_eq_true] at hg
          exact hg.2
        rw [dis_dg cur r e, ihD t (cur ++ [c]) (by simp) (fun d hd => by
          rcases List.mem_append.1 hd with hd | hd
          · exact hc d hd
          · rw [List.mem_singleton.1 hd]; exact e) hg2, addT_snoc t cur c h0]
        simp
    · rcases e : isDg c with _ | _
      · rcases e2 : isSg c with _ | _
        · have hi : isIn c = false := by unfold isIn; rw [e, e2]; rfl
          unfold gd at hg
          by_cases h32 : c = 32
          · rw [if_pos h32] at hg
            simp at hg
          · rw [if_neg h32, hi] at hg
            cases hg
        · have hg2 : gd false r = true := by
            unfold gd at hg
            rw [if_neg (fun h => by subst h; revert e2; decide), e] at hg
            simp only [Bool.and_eq_true] at hg
            exact hg.2
          rw [dis_sg [] r e2, fw_nil, List.nil_append, one _ e2, ihN _ (by rw [nosg _ e2]; rfl) hg2]
          simp
      · have hg2 : gd true r = true := by
          unfold gd at hg
          rw [if_neg (fun h => by subst h; revert e; decide), e] at hg
          simp only [Bool.and_eq_true] at hg
          exact hg.2
        rw [dis_dg [] r e, List.nil_append, ihD t [c] (by simp) (fun d hd => by rw [List.mem_singleton.1 hd]; exact e) hg2, addT_no (a := [c]) hn]
        simp
    · have e : isDg c = true := hb
      have hg2 : gd true r = true := by
        unfold gd at hg
        rw [if_neg (fun h => by subst h; revert e; decide), e] at hg
        simp only [Bool.and_eq_true] at hg
        exact hg.2
      rw [dis_dg [] r e, List.nil_append, ihD t [c] (by simp) (fun d hd => by rw [List.mem_singleton.1 hd]; exact e) hg2, addT_yes (a := [c]) he e]
      simp
theorem gd_bad : ∀ (r : List UInt8) (p : Bool), gd p r = true → badB r = false := by
  intro r
  induction r with
  | nil => intro p _; rfl
  | cons c r ih =>
    intro p h
    unfold gd at h
    unfold badB
    rw [List.any_cons]
    split at h
    · rename_i hc
      subst hc
      simp only [Bool.and_eq_true] at h
      have := ih _ h.2
      unfold badB at this
      rw [this]
      rfl
    · simp only [Bool.and_eq_true] at h
      have := ih _ h.2
      unfold badB at this
      rw [this, h.1]
      rfl
structure Rt (s : List UInt8) (o : Int) : Prop where
  noerr : (dsm (asm s o).text).err = 0
  code : ∀ w ∈ wof (toks (dsm (asm s o).text).text), w.length = 1 ∨ ∀ c ∈ w, isDg c = true
  back : (asm (dsm (asm s o).text).text o).text = (asm s o).text
  err : (asm (dsm (asm s o).text).text o).err = 0
  labs : (asm (dsm (asm s o).text).text o).labs = []
  line : (asm (dsm (asm s o).text).text o).line = 0
theorem round_trip {s : List UInt8} {o : Int} (h : (asm s o).err = 0) : Rt s o := by
  have H := asm_ok h
  have hgood : ∀ w ∈ wof (toks s), Good w := fun w hw => by
    obtain ⟨t, ht, rfl⟩ := List.mem_map.1 hw
    obtain ⟨i, hi⟩ := List.mem_iff_getElem?.1 ht
    exact flt_good (H.flts i t hi)
  have hlen : (asm s o).text.length ≤ 40000 := by rw [text_len H]; exact H.len
  have hg : gd false (asm s o).text = true := by rw [H.eq]; exact gd_bld _ _ _ hgood rfl
  obtain ⟨T, hT⟩ : ∃ T, (asm s o).text = T := ⟨_, rfl⟩
  have hb := gd_bad _ _ hg
  rw [hT] at hg hb hlen
  have hd : dsm T = ⟨jn (dis [] T), 0⟩ := by unfold dsm; rw [hb]; rfl
  have hc := dis_code T [] (by simp)
  have ht : toks (jn (dis [] T)) = (dis [] T).map fun w => (w, 1) := toks_jn _ 1 fun w hw => code_wd (hc w hw).1
  have hw : wof (toks (jn (dis [] T))) = dis [] T := by rw [ht, wof_const]
  have hbk : ∀ A, bld A [] (dis [] T) = T := fun A => (back A T).2.1 [] rfl hg
  have hdf : dfs (dis [] T) = [] := by
    unfold dfs
    rw [List.filterMap_eq_nil_iff]
    intro w hw
    exact def_code (hc w hw).1
  have ha : asm (jn (dis [] T)) o = ⟨T, [], 0, 0⟩ := by
    rw [asm_mk H.o0 H.o1 (by rw [ht, chk_code]; intro t ht; obtain ⟨w, hw, rfl⟩ := List.mem_map.1 ht; exact (hc w hw).1) (by rw [hw, hbk]; exact hlen), hw, hbk]
    have hl : lbs nul o [] (dis [] T) = [] := by
      have := lbs_names nul o (dis [] T) []
      rw [hdf] at this
      exact List.map_eq_nil_iff.1 this
    rw [hl]
  constructor
  · rw [hT, hd]
  · rw [hT, hd]
    dsimp only
    rw [hw]
    exact fun w hw => (hc w hw).2
  · rw [hT, hd]
    dsimp only
    rw [ha]
  · rw [hT, hd]
    dsimp only
    rw [ha]
  · rw [hT, hd]
    dsimp only
    rw [ha]
  · rw [hT, hd]
    dsimp only
    rw [ha]
end Go.Proofs.YthmgocjmfhpafaaDoor.A18
