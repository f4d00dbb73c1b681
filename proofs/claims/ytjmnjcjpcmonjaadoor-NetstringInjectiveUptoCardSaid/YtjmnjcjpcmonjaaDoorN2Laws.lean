/- Plain laws of layer 2: what the readers answer at what the writers made. No program is named here. -/
import Derived.Test.YtjmnjcjpcmonjaaDoorN2Ref6
namespace Go.Proofs.YtjmnjcjpcmonjaaDoor.N2
set_option linter.unusedVariables false

theorem dg_of (d : Nat) (h : d < 10) : isDg (UInt8.ofNat (48 + d)) = true := by
  unfold isDg
  rw [UInt8.toNat_ofNat']
  simp
  omega
theorem dig_all (u : Nat) : (dig u).all isDg = true := by
  induction u using Nat.strongRecOn with
  | _ u ih =>
    by_cases h : u < 10
    · rw [dig_small u h]
      simp only [List.all_cons, List.all_nil, Bool.and_true]
      exact dg_of u h
    · rw [dig_step u h, List.all_append, ih (u / 10) (by omega)]
      simp only [List.all_cons, List.all_nil, Bool.and_true, Bool.true_and]
      exact dg_of _ (by omega)
theorem dig_mem {u : Nat} {c : UInt8} (h : c ∈ dig u) : 48 ≤ c.toNat ∧ c.toNat ≤ 57 := by
  have := List.all_eq_true.1 (dig_all u) c h
  unfold isDg at this
  simpa using this
theorem dig_ne (u : Nat) : dig u ≠ [] := by
  intro e
  have := dig_pos u
  rw [e] at this
  simp at this
theorem dig_head {u : Nat} (h0 : 0 < u) : (dig u).head? ≠ some 48 := by
  induction u using Nat.strongRecOn with
  | _ u ih =>
    by_cases h : u < 10
    · rw [dig_small u h]
      simp only [List.head?_cons]
      intro e
      injection e with e
      have e2 := congrArg UInt8.toNat e
      rw [UInt8.toNat_ofNat'] at e2
      have : ((48 : UInt8)).toNat = 48 := rfl
      omega
    · have h1 := ih (u / 10) (by omega) (by omega)
      rw [dig_step u h]
      cases hd : dig (u / 10) with
      | nil => exact absurd hd (dig_ne _)
      | cons x xs =>
        rw [hd] at h1
        simpa using h1
theorem dig_lead (u : Nat) : lead (dig u) = false := by
  unfold lead
  by_cases h0 : u < 10
  · rw [dig_small u h0]; rfl
  · have := dig_head (u := u) (by omega)
    simp [this]
theorem dig_ok (u : Nat) : dcok (dig u) = true := dcok_good (dig_ne u) (dig_lead u) (dig_all u)
theorem dcS_dig (q d : Nat) (h : d < 10) : dcS (min q top) (UInt8.ofNat (48 + d)) = min (10 * q + d) top := by
  unfold dcS top
  rw [UInt8.toNat_ofNat']
  have : (48 + d) % 256 = 48 + d := by omega
  omega
theorem dcv_dig (u : Nat) : dcv (dig u) = min u top := by
  induction u using Nat.strongRecOn with
  | _ u ih =>
    by_cases h : u < 10
    · rw [dig_small u h]
      have := dcS_dig 0 u h
      unfold dcv
      simp only [List.foldl_cons, List.foldl_nil]
      rw [show (0 : Nat) = min 0 top by unfold top; omega, this]
      congr 1
      omega
    · rw [dig_step u h, dcv_snoc, ih (u / 10) (by omega), dcS_dig _ _ (by omega)]
      congr 1
      omega
theorem dcv_small (u : Nat) (h : u ≤ top) : dcv (dig u) = u := by rw [dcv_dig]; omega
/-- A byte that does not occur in the digits is found behind them. -/
theorem posI_mid (f d r : List UInt8) (c : UInt8) (h : ∀ x ∈ d, x ≠ c) : posI (f ++ (d ++ c :: r)) f.length c = ((f.length + d.length : Nat) : Int) := by
  refine posI_hit (by omega) (by simp) ?_ ?_
  · rw [List.getElem_append_right (by omega), List.getElem_append_right (by omega)]
    simp
  · intro j h1 h2
    rw [List.getElem?_append_right h1, List.getElem?_append_left (by omega), List.getElem?_eq_getElem (by omega)]
    intro e
    injection e with e
    exact h _ (List.getElem_mem _) e
theorem cut_mid (f d r : List UInt8) : ((f ++ (d ++ r)).drop f.length).take (f.length + d.length - f.length) = d := by
  rw [List.drop_left, show f.length + d.length - f.length = d.length by omega, List.take_left]
theorem dig_no (u : Nat) (c : UInt8) (hc : c.toNat < 48 ∨ 57 < c.toNat) : ∀ x ∈ dig u, x ≠ c := by
  intro x hx e
  have := dig_mem hx
  rw [e] at this
  omega
theorem decI_no (n : Int) (c : UInt8) (hc : (c.toNat < 48 ∨ 57 < c.toNat) ∧ c ≠ 45) : ∀ x ∈ decI n, x ≠ c := by
  intro x hx
  by_cases h : n < 0
  · rw [decI_neg h] at hx
    rcases List.mem_append.1 hx with h1 | h1
    · simp at h1
      subst h1
      exact fun e => hc.2 e.symm
    · exact dig_no _ c hc.1 x h1
  · rw [decI_pos h] at hx
    exact dig_no _ c hc.1 x hx

/-- A number is read back, between other bytes; one that does not fit is told. -/
theorem rdN_num (f r : List UInt8) (n : Int) : rdN (f ++ (numL n ++ r)) (f.length : Int) = if n < -2147483648 ∨ 2147483647 < n then (0, 0, 2) else (n, ((f.length + (numL n).length : Nat) : Int), 0) := by
  have e : f ++ (numL n ++ r) = f ++ (decI n ++ 32 :: r) := by simp [numL]
  have hp := posI_mid f (decI n) r 32 (decI_no n 32 ⟨.inl (by decide), by decide⟩)
  have hw := cut_mid f (decI n) (32 :: r)
  rw [e]
  have hlen : (numL n).length = (decI n).length + 1 := by simp [numL]
  by_cases h : n < 0
  · rw [decI_neg h] at hw hp ⊢
    rw [rdN_neg (v := dig n.natAbs) (by simp) hp hw, dcv_dig, if_neg (by
      rintro (h1 | h1)
      · rw [dig_ok] at h1; cases h1
      · unfold top at h1; omega)]
    by_cases hg : n < -2147483648 ∨ 2147483647 < n
    · rw [if_pos hg, if_pos (by unfold top; omega)]
    · rw [if_neg hg, if_neg (by unfold top; omega), hlen, decI_neg h]
      have h1 : -((min n.natAbs top : Nat) : Int) = n := by unfold top; omega
      have h2 : ((f.length + ([45] ++ dig n.natAbs).length : Nat) : Int) + 1 = ((f.length + (([45] ++ dig n.natAbs).length + 1) : Nat) : Int) := by omega
      rw [h1, h2]
  · rw [decI_pos h] at hw hp ⊢
    rw [rdN_nat (by simp) hp hw (by
      intro e1
      cases hd : dig n.natAbs with
      | nil => exact dig_ne _ hd
      | cons x xs =>
        rw [hd] at e1
        injection e1 with e1
        have := dig_mem (u := n.natAbs) (c := x) (by rw [hd]; exact List.mem_cons_self)
        rw [e1] at this
        have h45 : ((45 : UInt8)).toNat = 45 := rfl
        omega), dcv_dig, if_neg (by rw [dig_ok]; decide)]
    by_cases hg : n < -2147483648 ∨ 2147483647 < n
    · rw [if_pos hg, if_pos (by unfold top; omega)]
    · rw [if_neg hg, if_neg (by unfold top; omega), hlen, decI_pos h]
      have h1 : ((min n.natAbs top : Nat) : Int) = n := by unfold top; omega
      have h2 : ((f.length + (dig n.natAbs).length : Nat) : Int) + 1 = ((f.length + ((dig n.natAbs).length + 1) : Nat) : Int) := by omega
      rw [h1, h2]
/-- A string is read back, between other bytes. -/
theorem rdS_str (f s r : List UInt8) (hs : s.length ≤ top) : rdS (f ++ (strL s ++ r)) (f.length : Int) = (s, ((f.length + (strL s).length : Nat) : Int), 0) := by
  have e : f ++ (strL s ++ r) = f ++ (dig s.length ++ 58 :: (s ++ 44 :: r)) := by simp [strL]
  have hp := posI_mid f (dig s.length) (s ++ 44 :: r) 58 (dig_no _ 58 (.inr (by decide)))
  have hw := cut_mid f (dig s.length) (58 :: (s ++ 44 :: r))
  have hlen : (strL s).length = (dig s.length).length + 1 + s.length + 1 := by simp [strL]; omega
  rw [e, rdS_at (by simp) hp hw, dcv_small _ hs, if_neg (by rw [dig_ok]; decide), if_neg (by simp; omega)]
  have hP : f ++ (dig s.length ++ 58 :: (s ++ 44 :: r)) = (f ++ (dig s.length ++ [58])) ++ (s ++ 44 :: r) := by simp
  have hPl : (f ++ (dig s.length ++ [58])).length = f.length + (dig s.length).length + 1 := by simp; omega
  have hd : (f ++ (dig s.length ++ 58 :: (s ++ 44 :: r))).drop (f.length + (dig s.length).length + 1) = s ++ 44 :: r := by
    rw [hP, ← hPl, List.drop_left]
  have hg : (f ++ (dig s.length ++ 58 :: (s ++ 44 :: r)))[f.length + (dig s.length).length + 1 + s.length]? = some 44 := by
    rw [hP, ← hPl, List.getElem?_append_right (by omega), List.getElem?_append_right (by omega)]
    have : (f ++ (dig s.length ++ [58])).length + s.length - (f ++ (dig s.length ++ [58])).length - s.length = 0 := by omega
    rw [this]
    rfl
  rw [if_neg (by rw [hg]; simp), hd, List.take_left, hlen]
  have h2 : ((f.length + (dig s.length).length : Nat) : Int) + 2 + (s.length : Int) = ((f.length + ((dig s.length).length + 1 + s.length + 1) : Nat) : Int) := by omega
  rw [h2]
theorem strL_pos (x : List UInt8) : 0 < (strL x).length := by simp [strL]; omega
/-- A list is read back from its encoding. -/
theorem rdLF_strs (l : List (List UInt8)) : ∀ (f : List UInt8) (n : Nat), (∀ x ∈ l, x.length ≤ top) → (strsL l).length < n → rdLF (f ++ strsL l) n f.length = (l, 0) := by
  induction l with
  | nil =>
    intro f n _ hn
    exact rdLF_end (by simp [strsL]) (by omega)
  | cons x l ih =>
    intro f n hx hn
    have e : strsL (x :: l) = strL x ++ strsL l := by simp [strsL]
    have hp := strL_pos x
    rw [e, List.length_append] at hn
    obtain ⟨n, rfl⟩ : ∃ m, n = m + 1 := ⟨n - 1, by omega⟩
    rw [e]
    have hr := rdS_str f x (strsL l) (hx x List.mem_cons_self)
    rw [rdLF_ok (by simp; omega) hr, show f ++ (strL x ++ strsL l) = (f ++ strL x) ++ strsL l by simp, show f.length + (strL x).length = (f ++ strL x).length by simp,
      ih (f ++ strL x) n (fun y hy => hx y (List.mem_cons_of_mem _ hy)) (by omega)]
    simp [comb]
theorem rdL_strs (l : List (List UInt8)) (h : ∀ x ∈ l, x.length ≤ top) : rdL (strsL l) = (l, 0) := by
  unfold rdL
  have := rdLF_strs l [] ((strsL l).length + 1) h (by omega)
  simpa using this
theorem tot_mem {l : List (List UInt8)} {x : List UInt8} (h : x ∈ l) : x.length ≤ tot l := by
  obtain ⟨k, hk, rfl⟩ := List.mem_iff_getElem.1 h
  exact tot_get l k hk
theorem strs_inj {a b : List (List UInt8)} (ha : tot a ≤ 1000000) (hb : tot b ≤ 1000000) : strsL a = strsL b ↔ a = b := by
  constructor
  · intro h
    have h1 := rdL_strs a (fun x hx => by have := tot_mem hx; unfold top; omega)
    have h2 := rdL_strs b (fun x hx => by have := tot_mem hx; unfold top; omega)
    rw [h, h2] at h1
    injection h1 with h1
    exact h1.symm
  · intro h; rw [h]
theorem strsL_append (a b : List (List UInt8)) : strsL (a ++ b) = strsL a ++ strsL b := by simp [strsL]
/-- Every proper prefix is told as too short. -/
theorem rdS_prefix (s : List UInt8) (n : Nat) (hs : s.length ≤ top) (hn : n < (strL s).length) : rdS ((strL s).take n) 0 = ([], 0, 4) := by
  have hlen : (strL s).length = (dig s.length).length + 1 + s.length + 1 := by simp [strL]; omega
  have e : strL s = dig s.length ++ 58 :: (s ++ [44]) := by simp [strL]
  have hlt : ((strL s).take n).length = n := by rw [List.length_take]; omega
  by_cases h : n ≤ (dig s.length).length
  · refine rdS_short (a := 0) (Nat.zero_le _) (posI_none ?_)
    intro j _ hj
    rw [hlt] at hj
    rw [List.getElem?_take, if_pos hj, e, List.getElem?_append_left (by omega), List.getElem?_eq_getElem (by omega)]
    intro x
    injection x with x
    exact dig_no _ 58 (.inr (by decide)) _ (List.getElem_mem _) x
  · have hp : posI ((strL s).take n) 0 58 = ((dig s.length).length : Int) := by
      have e2 : (strL s).take n = [] ++ (dig s.length ++ 58 :: ((s ++ [44]).take (n - (dig s.length).length - 1))) := by
        rw [e, List.nil_append, List.take_append, List.take_of_length_le (by omega)]
        congr 1
        obtain ⟨m, hm⟩ : ∃ m, n - (dig s.length).length = m + 1 := ⟨n - (dig s.length).length - 1, by omega⟩
        rw [hm, List.take_succ_cons]
        rfl
      have := posI_mid [] (dig s.length) ((s ++ [44]).take (n - (dig s.length).length - 1)) 58 (dig_no _ 58 (.inr (by decide)))
      rw [e2]
      simpa using this
    have hw : (((strL s).take n).drop 0).take ((dig s.length).length - 0) = dig s.length := by
      rw [List.drop_zero, List.take_take, show min ((dig s.length).length - 0) n = (dig s.length).length by omega, e, List.take_left]
    have := rdS_at (a := 0) (Nat.zero_le _) hp hw
    rw [dcv_small _ hs, if_neg (by rw [dig_ok]; decide), hlt, if_pos (by omega)] at this
    exact this
theorem rdLF_len (l : List UInt8) : ∀ f k : Nat, k ≤ l.length → (rdLF l f k).1.length + k ≤ l.length
  | 0, k, h => by simpa [rdLF] using h
  | f + 1, k, h => by
    by_cases h1 : l.length ≤ k
    · rw [rdLF_end h1 (by omega)]
      simpa using h
    · obtain ⟨x, y, e, hr⟩ : ∃ x y e, rdS l (k : Int) = (x, y, e) := ⟨_, _, _, rfl⟩
      rcases rdS_next h hr with ⟨rfl, n, rfl, hkn, hnl, _⟩ | he
      · rw [rdLF_ok (by omega) hr]
        have := rdLF_len l f n hnl
        unfold comb
        split
        · simp only [List.length_append, List.length_cons, List.length_nil]
          omega
        · simp only [List.length_nil]
          omega
      · rw [rdLF_err (by omega) hr (by omega)]
        simpa using h
theorem rdL_len (l : List UInt8) : (rdL l).1.length ≤ l.length := by
  have := rdLF_len l (l.length + 1) 0 (Nat.zero_le _)
  unfold rdL
  omega
end Go.Proofs.YtjmnjcjpcmonjaaDoor.N2
