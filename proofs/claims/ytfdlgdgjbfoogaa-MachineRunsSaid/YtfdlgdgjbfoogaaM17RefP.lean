/- The contracts of the reference's push and operate of layer 17. -/
import Derived.Test.YtfdlgdgjbfoogaaM17RefM
import Derived.Laws.BitsAllLaws
namespace Go.Proofs.Ytfdlgdgjbfoogaa.M17
set_option maxRecDepth 100000
open Go.RowKit Mem
set_option linter.unusedVariables false
set_option linter.unusedSimpArgs false

section
variable {w0 w : World} {base B M ic : Nat} {s : St} {D C O : Value} {IA : Option Addr} {vs : List Value}
set_option maxHeartbeats 4000000 in
theorem rpush_own (h : RA w0 base w B s M D C O IA ic (rowR M D C O IA ic s)) (hl : s.ds.length < 256) {x : Nat} (hx : x < 4294967296) :
    Calls Try.prog 31 #[.pointer (some ⟨B, 0, none⟩), .int .u32 (x : Int)] w fun e w' => e = .returned (.bool true) ∧ ∃ D', RA w0 base w' B { s with ds := x :: s.ds } M D' C O IA ic (rowR M D' C O IA ic { s with ds := x :: s.ds }) := by
  obtain ⟨pA, cap, hD, _⟩ := own_slice h.ds
  obtain ⟨c1, f1⟩ := h.f (i := 2) (v := D) rfl
  rw [hD] at c1
  have hat := h.alloc (.cells #[.int .u32 (x : Int)] 36)
  have n1 : decide ((256 : Int) ≤ (s.ds.length : Int)) = false := decide_eq_false (by omega)
  have fin : ∀ (D' : Value) (w' : World), w'.ownsRow base 36 1 D' (s.ds.length + 1) (us s.ds.reverse ++ [.int .u32 (x : Int)]) → (w.alloc (.cells #[.int .u32 (x : Int)] 36)).grownBy w' D.ownBlock →
      (D'.ownBlock = D.ownBlock ∨ D'.ownBlock = some (w.heap.size + 1)) → RA w0 base (w'.setCell ⟨B, 2, none⟩ D') B { s with ds := x :: s.ds } M D' C O IA ic (rowR M D' C O IA ic { s with ds := x :: s.ds }) := fun D' w' h1 h2 h3 => by
    refine RA.field (i := 2) (v := D') (hat.swapD (l := x :: s.ds) h2 ?_ (by rw [World.size_alloc]; exact h3) (fun y hy => ?_) (by simp only [List.length_cons]; omega))
    · rw [List.reverse_cons, us_snoc]; exact h1
    · rcases List.mem_cons.1 hy with rfl | hy
      · exact hx
      · exact h.ok.ds y hy
  have hfr : ∀ (D' : Value) (w' : World), (w.alloc (.cells #[.int .u32 (x : Int)] 36)).grownBy w' D.ownBlock → w'.frozen? ⟨B, 2, none⟩ = false ∧ ∃ u, w'.cell? ⟨B, 2, none⟩ = some u := fun D' w' h2 => by
    have g := h2.block B hat.blk.lt (fun e => h.parted.db e.symm)
    have hb : Blk 63 w' B _ := g.trans hat.blk
    exact ⟨hb.frz 2, _, hb.cell 2⟩
  have hown := hat.ds
  have hbw := hat.bw
  obtain ⟨i0, hi, hi0, hi1, hi2⟩ := info_parts info_u32
  obtain ⟨m, hm⟩ : ∃ m, s.ds.length = m := ⟨_, rfl⟩
  rw [hm] at c1 n1 fin hown hD
  have hm2 : m < 256 := by omega
  obtain ⟨xs, hxs⟩ : ∃ xs, us s.ds.reverse = xs := ⟨_, rfl⟩
  rw [hxs] at fin hown
  have hDb : D.ownBlock = (Value.slice pA m cap).ownBlock := by rw [hD]
  rw [hDb] at fin hfr
  rw [hD] at hown
  replace fin := Lib.hid fin
  replace hown := Lib.hid hown
  replace hbw := Lib.hid hbw
  replace hfr := Lib.hid hfr
  clear hat hDb hD hxs hm hl h hx
  go_enter Try.func31, Try.ntmps31
  go_wp2_with (at_builtin; refine wpList_append_own_at _ rfl _ _ 23 rfl base 36 i0 (.int .u32 0) 1 4 Try.underlying23 hi hi0 hi1 hi2 rfl (by decide) _ _ _ rfl (hown.out) ⟨w.heap.size, 0, none⟩ 1 1 [.int .u32 (x : Int)] rfl rfl (one_new _ _ _) (one_cell _ _) (by unfold maxLen; omega) (by omega) (hbw.out) ?_)
  intro D' w' h1 h2 _ h3
  obtain ⟨hz, u, hu⟩ := hfr.out D' w' h2
  have fin2 := Lib.hid (fin.out D' w' h1 h2 h3)
  obtain ⟨pA', cap', rfl, _⟩ := own_slice h1
  clear h1 h2 h3 fin hown hbw hfr
  go_wp2
  first | go_ret | skip
  exact ⟨rfl, _, fin2.out⟩
theorem rpush_bad (h : RA w0 base w B s M D C O IA ic (rowR M D C O IA ic s)) (hl : s.ds.length = 256) (x : Nat) :
    Calls Try.prog 31 #[.pointer (some ⟨B, 0, none⟩), .int .u32 (x : Int)] w fun e w' => e = .returned (.bool false) ∧ w' = w := by
  obtain ⟨pA, cap, hD, _⟩ := own_slice h.ds
  obtain ⟨c1, f1⟩ := h.f (i := 2) (v := D) rfl
  rw [hD, hl] at c1
  clear hD hl h
  go_enter Try.func31, Try.ntmps31
  go_wp2
  first | go_ret | skip
  exact ⟨rfl, rfl⟩
/-- push, whatever lies there. -/
theorem rpush_any (h : RA w0 base w B s M D C O IA ic (rowR M D C O IA ic s)) {x : Nat} (hx : x < 4294967296) :
    Calls Try.prog 31 #[.pointer (some ⟨B, 0, none⟩), .int .u32 (x : Int)] w fun e w' => (¬ 256 ≤ s.ds.length ∧ e = .returned (.bool true) ∧ ROn w0 base w' B { s with ds := x :: s.ds }) ∨ (256 ≤ s.ds.length ∧ e = .returned (.bool false) ∧ w' = w) := by
  by_cases hl : s.ds.length < 256
  · exact (rpush_own h hl hx).mono fun e w' ⟨h1, _, h2⟩ => .inl ⟨by omega, h1, h2.on⟩
  · exact (rpush_bad h (by have := h.ok.dl; omega) x).mono fun e w' ⟨h1, h2⟩ => .inr ⟨by omega, h1, h2⟩
end
/-- What operate hands back. -/
def opV (o : Option Nat) : Value := match o with | none => .tuple #[.int .u32 0, .bool false] | some v => .tuple #[.int .u32 (v : Int), .bool true]
theorem opV_some {o : Option Nat} {v : Nat} (h : o = some v) : opV o = .tuple #[.int .u32 (v : Int), .bool true] := by rw [h]; rfl
theorem opV_none {o : Option Nat} (h : o = none) : opV o = .tuple #[.int .u32 0, .bool false] := by rw [h]; rfl
theorem ret_ub {x x' : Int} (h : x = x') : Ending.returned (.tuple #[.int .u32 x, .bool true]) = .returned (.tuple #[.int .u32 x', .bool true]) := by rw [h]
set_option maxHeartbeats 4000000 in
theorem roperate_any (c a b : Nat) (hc : c = 43 ∨ c = 45 ∨ c = 42 ∨ c = 47 ∨ c = 37 ∨ c = 94 ∨ c = 60) (ha : a < 4294967296) (hb : b < 4294967296) (w : World) :
    Calls Try.prog 32 #[.int .u32 (c : Int), .int .u32 (a : Int), .int .u32 (b : Int)] w fun e w' => e = .returned (opV (op2 c a b)) ∧ w' = w := by
  rcases hc with rfl | rfl | rfl | rfl | rfl | rfl | rfl
  · obtain ⟨v, hv⟩ : ∃ v, (a + b) % 4294967296 = v := ⟨_, rfl⟩
    rw [opV_some (show op2 43 a b = some v from congrArg some hv)]
    have e1 : ((a : Int) + (b : Int)) % 4294967296 = (v : Int) := by omega
    rw [show ((43 : Nat) : Int) = 43 from rfl]
    clear hv
    go_enter Try.func32, Try.ntmps32
    go_wp2
    first | go_ret2 | skip
    exact ⟨ret_ub (by first | rfl | assumption), rfl⟩
  · obtain ⟨v, hv⟩ : ∃ v, (a + 4294967296 - b) % 4294967296 = v := ⟨_, rfl⟩
    rw [opV_some (show op2 45 a b = some v from congrArg some hv)]
    have e1 : ((a : Int) - (b : Int)) % 4294967296 = (v : Int) := by omega
    rw [show ((45 : Nat) : Int) = 45 from rfl]
    clear hv
    go_enter Try.func32, Try.ntmps32
    go_wp2
    first | go_ret2 | skip
    exact ⟨ret_ub (by first | rfl | assumption), rfl⟩
  · obtain ⟨v, hv⟩ : ∃ v, (a * b) % 4294967296 = v := ⟨_, rfl⟩
    rw [opV_some (show op2 42 a b = some v from congrArg some hv)]
    have e1 : ((a : Int) * (b : Int)) % 4294967296 = (v : Int) := by rw [← hv]; simp
    rw [show ((42 : Nat) : Int) = 42 from rfl]
    clear hv
    go_enter Try.func32, Try.ntmps32
    go_wp2
    first | go_ret2 | skip
    exact ⟨ret_ub (by first | rfl | assumption), rfl⟩
  · rw [show ((47 : Nat) : Int) = 47 from rfl]
    by_cases hb0 : b = 0
    · rw [opV_none (show op2 47 a b = none from if_pos hb0)]
      subst hb0
      rw [show ((0 : Nat) : Int) = 0 from rfl]
      go_enter Try.func32, Try.ntmps32
      go_wp2
      first | go_ret2 | skip
      exact ⟨rfl, rfl⟩
    · obtain ⟨v, hv⟩ : ∃ v, a / b = v := ⟨_, rfl⟩
      rw [opV_some (show op2 47 a b = some v from (if_neg hb0).trans (congrArg some hv))]
      have hv2 : v < 4294967296 := by rw [← hv]; exact Nat.lt_of_le_of_lt (Nat.div_le_self _ _) ha
      have e0 : (a : Int) / (b : Int) = (v : Int) := by rw [← hv]; simp
      have e1 : (a : Int).tdiv (b : Int) = (v : Int) := by rw [← hv]; exact (Int.ofNat_tdiv a b).symm
      have b0 : ¬ (b : Int) = 0 := by omega
      have b1 : ((b : Int) == 0) = false := by simpa using hb0
      have v2 : IntKind.u32.wrap (v : Int) = (v : Int) := by rw [IntKind.wrap_u32]; omega
      have v3 : (v : Int) % 4294967296 = (v : Int) := by omega
      clear hv hv2 hb0 ha hb
      go_enter Try.func32, Try.ntmps32
      go_wp2
      first | go_ret2 | skip
      exact ⟨ret_ub (by first | rfl | assumption), rfl⟩
  · rw [show ((37 : Nat) : Int) = 37 from rfl]
    by_cases hb0 : b = 0
    · rw [opV_none (show op2 37 a b = none from if_pos hb0)]
      subst hb0
      rw [show ((0 : Nat) : Int) = 0 from rfl]
      go_enter Try.func32, Try.ntmps32
      go_wp2
      first | go_ret2 | skip
      exact ⟨rfl, rfl⟩
    · obtain ⟨v, hv⟩ : ∃ v, a % b = v := ⟨_, rfl⟩
      rw [opV_some (show op2 37 a b = some v from (if_neg hb0).trans (congrArg some hv))]
      have hv2 : v < 4294967296 := by rw [← hv]; exact Nat.lt_of_le_of_lt (Nat.mod_le _ _) ha
      have e0 : (a : Int) % (b : Int) = (v : Int) := by rw [← hv]; simp
      have e1 : (a : Int).tmod (b : Int) = (v : Int) := by rw [← hv]; exact (Int.ofNat_tmod a b).symm
      have b0 : ¬ (b : Int) = 0 := by omega
      have b1 : ((b : Int) == 0) = false := by simpa using hb0
      have v2 : IntKind.u32.wrap (v : Int) = (v : Int) := by rw [IntKind.wrap_u32]; omega
      have v3 : (v : Int) % 4294967296 = (v : Int) := by omega
      clear hv hv2 hb0 ha hb
      go_enter Try.func32, Try.ntmps32
      go_wp2
      first | go_ret2 | skip
      exact ⟨ret_ub (by first | rfl | assumption), rfl⟩
  · have e1 := u32_xor_nat a b ha hb
    obtain ⟨v, hv⟩ : ∃ v, a ^^^ b = v := ⟨_, rfl⟩
    rw [opV_some (show op2 94 a b = some v from congrArg some hv)]
    rw [hv] at e1
    rw [show ((94 : Nat) : Int) = 94 from rfl]
    clear hv ha hb
    go_enter Try.func32, Try.ntmps32
    go_wp2
    first | go_ret2 | skip
    exact ⟨ret_ub (by first | rfl | assumption), rfl⟩
  · rw [show ((60 : Nat) : Int) = 60 from rfl]
    by_cases hab : a < b
    · rw [opV_some (show op2 60 a b = some 1 from congrArg some (if_pos hab))]
      have t : decide (a < b) = true := decide_eq_true hab
      rw [show ((1 : Nat) : Int) = 1 from rfl]
      clear hab ha hb
      go_enter Try.func32, Try.ntmps32
      go_wp2
      first | go_ret2 | skip
      exact ⟨ret_ub (by first | rfl | assumption), rfl⟩
    · rw [opV_some (show op2 60 a b = some 0 from congrArg some (if_neg hab))]
      have t : decide (a < b) = false := decide_eq_false hab
      rw [show ((0 : Nat) : Int) = 0 from rfl]
      clear hab ha hb
      go_enter Try.func32, Try.ntmps32
      go_wp2
      first | go_ret2 | skip
      exact ⟨ret_ub (by first | rfl | assumption), rfl⟩
end Go.Proofs.Ytfdlgdgjbfoogaa.M17
