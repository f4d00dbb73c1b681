/- What the laws of layer 6 take of the package's own functions: their contracts, as one structure; the bound on lengths, the chapter's examples. -/
import Derived.Test.YtdinngcfjjajeaaG6Ref3
namespace Go.Proofs.Ytdinngcfjjajeaa.G6
open Go.Proofs.Ytdinngcfjjajeaa.G5
open Go.RowKit Mem
set_option linter.unusedVariables false
set_option linter.unusedSimpArgs false

/-- Interpolate's answer without a polynomial. -/
def ItpNo (k : Int) (w : World) (e : Ending) (w' : World) : Prop := ∃ A c, e = .returned (.tuple #[.slice A 0 c, .int .i64 k]) ∧ IsSl w' A c [] ∧ Below w.heap.size w w'
def ItpYes (xl yl : List R) (w : World) (e : Ending) (w' : World) : Prop := ∃ (l : List R) (A : Option Addr) (c : Nat), Itp xl yl l ∧ e = .returned (.tuple #[.slice A l.length c, .int .i64 0]) ∧ IsSl w' A c l ∧ Below w.heap.size w w'

/-- The contracts of the package's functions. -/
structure Dev : Prop where
  gadd : ∀ (a b : R) (w : World), Calls Try.prog 29 #[bv a, bv b] w fun e w' => e = .returned (bv (a ^^^ b)) ∧ w = w'
  gmul : ∀ (a b : R) (w : World), Calls Try.prog 30 #[bv a, bv b] w fun e w' => e = .returned (bv (tms a b)) ∧ w = w'
  trim : ∀ {A : Option Addr} {c : Nat} {p : List R} {w : World}, IsSl w A c p → p.length ≤ 100 → Calls Try.prog 15 #[.slice A p.length c] w (Gives w (trim p))
  add : ∀ {A B : Option Addr} {c d : Nat} {p q : List R} {w : World}, IsSl w A c p → IsSl w B d q → p.length ≤ 100 → q.length ≤ 100 → Calls Try.prog 17 #[.slice A p.length c, .slice B q.length d] w (Gives w (addL p q))
  mul : ∀ {A B : Option Addr} {c d : Nat} {p q : List R} {w : World}, IsSl w A c p → IsSl w B d q → p.length + q.length ≤ 100 → Calls Try.prog 25 #[.slice A p.length c, .slice B q.length d] w (Gives w (mulL p q))
  div0 : ∀ {A B : Option Addr} {c d : Nat} {p q : List R} {w : World}, IsSl w A c p → IsSl w B d q → p.length ≤ 60 → q.length ≤ 60 → G6.trim q = [] → Calls Try.prog 23 #[.slice A p.length c, .slice B q.length d] w (Div0 w)
  div1 : ∀ {A B : Option Addr} {c d : Nat} {p q : List R} {w : World}, IsSl w A c p → IsSl w B d q → p.length ≤ 60 → q.length ≤ 60 → G6.trim q ≠ [] → Calls Try.prog 23 #[.slice A p.length c, .slice B q.length d] w (Div1 p q w)
  eval : ∀ {A : Option Addr} {c : Nat} {p : List R} {w : World} (x : R), IsSl w A c p → p.length ≤ 100 → Calls Try.prog 21 #[.slice A p.length c, bv x] w fun e w' => e = .returned (bv (ev p x)) ∧ ∃ n, w' = w.drewN n
  der : ∀ {A : Option Addr} {c : Nat} {p : List R} {w : World}, IsSl w A c p → p.length ≤ 100 → Calls Try.prog 19 #[.slice A p.length c] w (Gives w (derL p))
  itp1 : ∀ {A B : Option Addr} {c d : Nat} {xl yl : List R} {w : World}, IsSl w A c xl → IsSl w B d yl → xl.length ≤ 20 → yl.length ≤ 20 → xl.length ≠ yl.length → Calls Try.prog 27 #[.slice A xl.length c, .slice B yl.length d] w (ItpNo 1 w)
  itp2 : ∀ {A B : Option Addr} {c d : Nat} {xl yl : List R} {w : World}, IsSl w A c xl → IsSl w B d yl → xl.length ≤ 20 → yl.length ≤ 20 → xl.length = yl.length → ¬ xl.Nodup → Calls Try.prog 27 #[.slice A xl.length c, .slice B yl.length d] w (ItpNo 8 w)
  itp3 : ∀ {A B : Option Addr} {c d : Nat} {xl yl : List R} {w : World}, IsSl w A c xl → IsSl w B d yl → xl.length ≤ 20 → yl.length ≤ 20 → xl.length = yl.length → xl.Nodup → Calls Try.prog 27 #[.slice A xl.length c, .slice B yl.length d] w (ItpYes xl yl w)

theorem Dev.evalB (D : Dev) {A : Option Addr} {c : Nat} {p : List R} {w : World} (x : R) (h : IsSl w A c p) (hp : p.length ≤ 100) : Calls Try.prog 21 #[.slice A p.length c, bv x] w fun e w' => e = .returned (bv (ev p x)) ∧ Below w.heap.size w w' :=
  (D.eval x h hp).mono fun _ _ ⟨a, n, b⟩ => ⟨a, by rw [b]; exact chainN (Below.refl _ _) n⟩
theorem same_eq {A B : Option Addr} {c d : Nat} {l m : List R} {w : World} (h : IsSl w A c l) (k : IsSl w B d m) (e : l = m) :
    Calls Try.prog 14 #[.slice A l.length c, .slice B m.length d] w fun e w' => e = .returned (.bool true) ∧ w = w' := by
  have := same_any h k
  rw [show (l == m) = true from beq_iff_eq.2 e] at this
  exact this
/-! ### the bound on lengths -/
abbrev slv (v : Option Addr × Nat × Nat) : Value := .slice v.1 v.2.1 v.2.2
set_option maxHeartbeats 1000000 in
theorem small_any (n : Nat) (A : Option Addr) (cap m : Nat) (vs : List (Option Addr × Nat × Nat)) (w : World) (hr : Rd w A (vs.map slv)) (hm : vs.length = m) (hl : m ≤ 100) (hn : n ≤ 100) :
    Calls Try.prog 12 #[.int .i64 (n : Int), .slice A m cap] w fun e w' => e = .returned (.bool (vs.all fun v => decide (v.2.1 ≤ n))) ∧ w = w' := by
  subst hm
  have hrh := Lib.hid hr
  clear hr
  go_enter Try.func12, Try.ntmps12
  go_wp2
  go_loop [9] (fun i => ∃ k : Nat, k ≤ vs.length ∧ i = .int .i64 k ∧ Hid (∀ v ∈ vs.take k, v.2.1 ≤ n)) (fun i => vs.length - (intOf i).toNat)
  case atStart => exact ⟨0, Nat.zero_le _, rfl, Lib.hid (fun v h => by simp at h)⟩
  case round =>
    obtain ⟨k, hk, rfl, ha⟩ := hrel
    by_cases hlt : k < vs.length
    · obtain ⟨b, o, rfl, hb, hc⟩ := hrh.out k (by simpa using hlt)
      rw [List.getElem_map] at hc
      have hts : vs.take (k + 1) = vs.take k ++ [vs[k]] := List.take_succ_eq_append_getElem hlt
      have hmem : vs[k] ∈ vs := List.getElem_mem hlt
      obtain ⟨v, hv⟩ : ∃ v, vs[k] = v := ⟨_, rfl⟩
      rw [hv] at hc hts hmem
      obtain ⟨V, L, C⟩ := v
      have hts := Lib.hid hts
      have hmem := Lib.hid hmem
      clear hv
      have hi : (k : Int) < (vs.length : Int) := by omega
      by_cases hL : L ≤ n
      · have t1 : decide (n < L) = false := decide_eq_false (by omega)
        have ha' : Hid (∀ v ∈ vs.take (k + 1), v.2.1 ≤ n) := Lib.hid (fun v hv => by
          rw [hts.out] at hv
          rcases List.mem_append.1 hv with h | h
          · exact ha.out v h
          · have e := List.mem_singleton.1 h
            rw [e]
            exact hL)
        clear hL
        go_wp2
        go_round
        case rel => exact ⟨k + 1, by omega, by go_num, ha'⟩
        case measure => simp [intOf]; omega
      · have t1 : decide (n < L) = true := decide_eq_true (by omega)
        have hall := Lib.hid (show (vs.all fun v => decide (v.2.1 ≤ n)) = false by
          rw [List.all_eq_false]
          exact ⟨_, hmem.out, by simpa using hL⟩)
        clear hL
        go_wp2
        go_ret
        exact ⟨by rw [hall.out]; rfl, rfl⟩
    · have hall := Lib.hid (show (vs.all fun v => decide (v.2.1 ≤ n)) = true by
        rw [List.all_eq_true]
        intro v hv
        have := ha.out v (by rw [List.take_of_length_le (by omega)]; exact hv)
        exact decide_eq_true this)
      have hi : ¬ (k : Int) < (vs.length : Int) := by omega
      go_wp2
      go_ret
      exact ⟨by rw [hall.out]; rfl, rfl⟩
theorem small1 (n : Nat) (hn : n ≤ 100) {A1 : Option Addr} {c1 n1 : Nat} {w : World} (B : Bool) (hB : B = decide (n1 ≤ n)) :
    Calls Try.prog 12 #[.int .i64 (n : Int), .slice (some ⟨w.heap.size, 0, none⟩) 1 1] (w.alloc (.cells #[.slice A1 n1 c1] 22)) fun e w' => e = .returned (.bool B) ∧ Below w.heap.size w w' := by
  have h := small_any n (some ⟨w.heap.size, 0, none⟩) 1 1 [(A1, n1, c1)] _ (rd_lit w 22 _ #[.slice A1 n1 c1] rfl) rfl (by decide) hn
  refine h.mono fun e w' ⟨a, b⟩ => ⟨by rw [a, hB]; simp, by subst b; exact mb w _⟩
theorem small2 (n : Nat) (hn : n ≤ 100) {A1 A2 : Option Addr} {c1 c2 n1 n2 : Nat} {w : World} (B : Bool) (hB : B = (decide (n1 ≤ n) && decide (n2 ≤ n))) :
    Calls Try.prog 12 #[.int .i64 (n : Int), .slice (some ⟨w.heap.size, 0, none⟩) 2 2] (w.alloc (.cells #[.slice A1 n1 c1, .slice A2 n2 c2] 22)) fun e w' => e = .returned (.bool B) ∧ Below w.heap.size w w' := by
  have h := small_any n (some ⟨w.heap.size, 0, none⟩) 2 2 [(A1, n1, c1), (A2, n2, c2)] _ (rd_lit w 22 _ #[.slice A1 n1 c1, .slice A2 n2 c2] rfl) rfl (by decide) hn
  refine h.mono fun e w' ⟨a, b⟩ => ⟨by rw [a, hB]; simp, by subst b; exact mb w _⟩
theorem small3 (n : Nat) (hn : n ≤ 100) {A1 A2 A3 : Option Addr} {c1 c2 c3 n1 n2 n3 : Nat} {w : World} (B : Bool) (hB : B = (decide (n1 ≤ n) && (decide (n2 ≤ n) && decide (n3 ≤ n)))) :
    Calls Try.prog 12 #[.int .i64 (n : Int), .slice (some ⟨w.heap.size, 0, none⟩) 3 3] (w.alloc (.cells #[.slice A1 n1 c1, .slice A2 n2 c2, .slice A3 n3 c3] 22)) fun e w' => e = .returned (.bool B) ∧ Below w.heap.size w w' := by
  have h := small_any n (some ⟨w.heap.size, 0, none⟩) 3 3 [(A1, n1, c1), (A2, n2, c2), (A3, n3, c3)] _ (rd_lit w 22 _ #[.slice A1 n1 c1, .slice A2 n2 c2, .slice A3 n3 c3] rfl) rfl (by decide) hn
  refine h.mono fun e w' ⟨a, b⟩ => ⟨by rw [a, hB]; simp, by subst b; exact mb w _⟩

/-! ### the chapter's examples -/
theorem itp_example {l : List R} (h : Itp [0#8, 1#8] [5#8, 5#8] l) : l = [5#8] :=
  Itp.only (by decide) h ⟨rfl, by decide, fun i hi => by
    rcases i with _ | _ | i
    · exact ev_one _ _
    · exact ev_one _ _
    · simp at hi
      omega⟩
theorem mul_example : mulL [1#8, 1#8] [1#8, 1#8] = [1#8, 0#8, 1#8] := by decide +kernel
set_option maxRecDepth 100000 in
set_option maxHeartbeats 2000000 in
theorem awake_any (D : Dev) (w : World) : Calls Try.prog 13 #[] w fun e w' => e = .returned (.bool true) ∧ Below w.heap.size w w' := by
  go_enter Try.func13, Try.ntmps13
  have hb := mb w (.cells #[.int .u8 0, .int .u8 1] 5)
  have hB := hb
  clear hb
  have hx := Lib.hid (IsSl.made w 5 [0#8, 1#8] #[.int .u8 0, .int .u8 1] (w.heap.size) 2 rfl rfl rfl (by decide))
  have hb := mb (w.alloc (.cells #[.int .u8 0, .int .u8 1] 5)) (.cells #[.int .u8 5, .int .u8 5] 5)
  replace hx := Lib.hid (hx.out.below hb)
  replace hB := chain hB hb
  clear hb
  have hy := Lib.hid (IsSl.made (w.alloc (.cells #[.int .u8 0, .int .u8 1] 5)) 5 [5#8, 5#8] #[.int .u8 5, .int .u8 5] (w.heap.size + 1) 2 rfl (by simp) rfl (by decide))
  have cc := D.itp3 hx.out hy.out (by decide) (by decide) rfl (by decide)
  simp only [List.length_cons, List.length_nil, Nat.reduceAdd] at cc
  have cc := Lib.hid cc
  go_wp2_with fail
  refine cc.out.mono ?_
  rintro e w1 ⟨l, A1, c1, hi, rfl, hs1, hb⟩
  obtain rfl := itp_example hi
  clear cc hi
  replace hx := Lib.hid (hx.out.below hb)
  replace hy := Lib.hid (hy.out.below hb)
  replace hB := chain hB hb
  have hl := Lib.hid hs1
  clear hs1 hb hx hy
  have hb := mb w1 (.cells #[.int .u8 1, .int .u8 1] 5)
  replace hl := Lib.hid (hl.out.below hb)
  replace hB := chain hB hb
  clear hb
  have hx := Lib.hid (IsSl.made w1 5 [1#8, 1#8] #[.int .u8 1, .int .u8 1] (w1.heap.size) 2 rfl rfl rfl (by decide))
  have hb := mb (w1.alloc (.cells #[.int .u8 1, .int .u8 1] 5)) (.cells #[.int .u8 1, .int .u8 1] 5)
  replace hl := Lib.hid (hl.out.below hb)
  replace hx := Lib.hid (hx.out.below hb)
  replace hB := chain hB hb
  clear hb
  have hy := Lib.hid (IsSl.made (w1.alloc (.cells #[.int .u8 1, .int .u8 1] 5)) 5 [1#8, 1#8] #[.int .u8 1, .int .u8 1] (w1.heap.size + 1) 2 rfl (by simp) rfl (by decide))
  have cc := D.mul hx.out hy.out (by decide)
  simp only [List.length_cons, List.length_nil, Nat.reduceAdd] at cc
  have cc := Lib.hid cc
  go_wp2_with fail
  refine cc.out.mono ?_
  rintro e w2 ⟨A2, c2, rfl, hs2, hb⟩
  clear cc
  replace hl := Lib.hid (hl.out.below hb)
  replace hx := Lib.hid (hx.out.below hb)
  replace hy := Lib.hid (hy.out.below hb)
  replace hB := chain hB hb
  have hm := Lib.hid hs2
  clear hs2 hb
  have hb := mb w2 (.cells #[.int .u8 1, .int .u8 0, .int .u8 1] 5)
  replace hl := Lib.hid (hl.out.below hb)
  replace hx := Lib.hid (hx.out.below hb)
  replace hy := Lib.hid (hy.out.below hb)
  replace hm := Lib.hid (hm.out.below hb)
  replace hB := chain hB hb
  clear hb
  have hz := Lib.hid (IsSl.made w2 5 [1#8, 0#8, 1#8] #[.int .u8 1, .int .u8 0, .int .u8 1] (w2.heap.size) 3 rfl rfl rfl (by decide))
  have cc := same_eq hm.out hz.out mul_example
  simp only [List.length_cons, List.length_nil, Nat.reduceAdd] at cc
  have cc := Lib.hid cc
  go_wp2_with fail
  refine cc.out.mono ?_
  rintro e w3 ⟨rfl, rfl⟩
  clear cc
  have hb := mb (w2.alloc (.cells #[.int .u8 1, .int .u8 0, .int .u8 1] 5)) (.cells #[.int .u8 5] 5)
  replace hl := Lib.hid (hl.out.below hb)
  replace hx := Lib.hid (hx.out.below hb)
  replace hy := Lib.hid (hy.out.below hb)
  replace hm := Lib.hid (hm.out.below hb)
  replace hz := Lib.hid (hz.out.below hb)
  replace hB := chain hB hb
  clear hb
  have hf := Lib.hid (IsSl.made (w2.alloc (.cells #[.int .u8 1, .int .u8 0, .int .u8 1] 5)) 5 [5#8] #[.int .u8 5] (w2.heap.size + 1) 1 rfl (by simp) rfl (by decide))
  have cc := same_eq hl.out hf.out rfl
  simp only [List.length_cons, List.length_nil, Nat.reduceAdd] at cc
  have cc := Lib.hid cc
  go_wp2_with fail
  refine cc.out.mono ?_
  rintro e w4 ⟨rfl, rfl⟩
  clear cc
  go_wp2
  go_ret
  exact ⟨rfl, hB⟩
end Go.Proofs.Ytdinngcfjjajeaa.G6
