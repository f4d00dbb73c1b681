/- The reference's step of layer 17: loads, stores, jumps, input, output; the step whole. -/
import Derived.Test.YtfdlgdgjbfoogaaM17RefS
import Derived.StillTail
import Derived.StillTailTactics
import Derived.Deep.RegionLaw
import Derived.Deep.RegionWith
import Derived.Deep.QuietTactic
import Derived.Test.YtfdlgdgjbfoogaaM17OwnB
import Derived.Maps.AppendAt
import Derived.Lib.AppendZeros
import Derived.BigRegion
namespace Go.Proofs.Ytfdlgdgjbfoogaa.M17
set_option maxRecDepth 100000
open Go.RowKit Mem
set_option linter.unusedVariables false
set_option linter.unusedSimpArgs false

/-- 'append' of a word to a row of the call's own, as one step of a region that draws. -/
theorem step_appU {w : World} {ops : Array Oper} {o : Oper} {a : Act} {K : Act → World → Prop} {Q : Exit → Act → World → Prop} {E : Prop} (hgd : o.guard = none) (s x : Operand)
    (ho : o.op = .call { callee := .builtin .append, args := #[s, x], argTypes := #[23, 23] }) (base : Nat)
    (v : Value) (n : Nat) (xs : List Value) (b : Nat) (u : Int)
    (hs : a.eval s = v) (hown : w.ownsRow base 36 1 v n xs) (hx : a.eval x = .slice (some ⟨b, 0, none⟩) 1 1) (hc : w.cell? ⟨b, 0, none⟩ = some (.int .u32 u)) (hn : n ≤ 1000000) (hbase : base ≤ w.heap.size)
    (h : ∀ v' w', w'.ownsRow base 36 1 v' (n + 1) (xs ++ [.int .u32 u]) → w.grownBy w' v.ownBlock → (v'.ownBlock = v.ownBlock ∨ v'.ownBlock = some w.heap.size) → K (a.put o.dst v') w') :
    if Region.wanted o (yielded ops a.tmps) = true then Oper.wp Try.prog o a w K Q else E := by
  rw [if_pos (by simp [Region.wanted, hgd])]
  obtain ⟨i0, hi0, hz0, hz1, hz2⟩ := info_parts info_u32r
  obtain ⟨v', w', hr, h2, h3, h4, h5⟩ := run_append_own_at (P := Try.prog) w base 23 o.type 36 i0 (.int .u32 0) 1 4 Try.underlying23 hi0 hz0 hz1 hz2 rfl (by decide) v n xs hown ⟨b, 0, none⟩ 1 1 [.int .u32 u] rfl (fun j y hj => by
    match j, hj with
    | 0, hj =>
      simp at hj
      subst hj
      rw [add_at]
      exact hc) (one_cell _ _) (by unfold maxLen; omega) (by omega) hbase
  exact Go.Lib.wp_append_run w s x 23 23 ho _ _ hs hx v' w' hr (h v' w' h2 h3 h5)
section
variable {w0 w : World} {base B M ic : Nat} {s : St} {D C O : Value} {IA : Option Addr} {vs : List Value}
set_option maxHeartbeats 4000000 in
theorem rstep_load_none (h : RA w0 base w B s M D C O IA ic (rowR M D C O IA ic s)) (hs : s.ds = []) : Calls Try.prog 21 #[.pointer (some ⟨B, 0, none⟩), .int .u32 64] w (RQ w0 base B s (exec 64 s)) := by
  obtain ⟨pA, cap, hD, _⟩ := own_slice h.ds
  obtain ⟨c2, f2⟩ := h.f (i := 2) (v := D) rfl
  rw [hD] at c2
  obtain ⟨m, hm⟩ : ∃ m, s.ds.length = m := ⟨_, rfl⟩
  rw [hm] at c2
  have hm0 : m = 0 := by rw [← hm, hs]; rfl
  have n1 : decide ((m : Int) < 1) = true := decide_eq_true (by omega)
  have fin : RQ w0 base B s (exec 64 s) (.returned (.bool false)) w := RQ.trap (by
    obtain ⟨smem, spc, sds, scs, sdig, sinp, sout⟩ := s
    dsimp only at hs
    subst hs
    rfl) h.on
  obtain ⟨Q, hQ⟩ : ∃ Q, RQ w0 base B s (exec 64 s) = Q := ⟨_, rfl⟩
  rw [hQ] at fin ⊢
  replace fin := Lib.hid fin
  clear hQ hm hD hm0 hs h
  go_enter Try.func21, Try.ntmps21
  go_wp2
  first | go_ret | skip
  exact fin.out
set_option maxHeartbeats 4000000 in
theorem rstep_call_none (h : RA w0 base w B s M D C O IA ic (rowR M D C O IA ic s)) (hs : s.ds = []) : Calls Try.prog 21 #[.pointer (some ⟨B, 0, none⟩), .int .u32 58] w (RQ w0 base B s (exec 58 s)) := by
  obtain ⟨pA, cap, hD, _⟩ := own_slice h.ds
  obtain ⟨c2, f2⟩ := h.f (i := 2) (v := D) rfl
  rw [hD] at c2
  obtain ⟨m, hm⟩ : ∃ m, s.ds.length = m := ⟨_, rfl⟩
  rw [hm] at c2
  have hm0 : m = 0 := by rw [← hm, hs]; rfl
  have n1 : decide ((m : Int) < 1) = true := decide_eq_true (by omega)
  have fin : RQ w0 base B s (exec 58 s) (.returned (.bool false)) w := RQ.trap (by
    obtain ⟨smem, spc, sds, scs, sdig, sinp, sout⟩ := s
    dsimp only at hs
    subst hs
    rfl) h.on
  obtain ⟨Q, hQ⟩ : ∃ Q, RQ w0 base B s (exec 58 s) = Q := ⟨_, rfl⟩
  rw [hQ] at fin ⊢
  replace fin := Lib.hid fin
  clear hQ hm hD hm0 hs h
  go_enter Try.func21, Try.ntmps21
  go_wp2
  first | go_ret | skip
  exact fin.out
set_option maxHeartbeats 4000000 in
theorem rstep_write_none (h : RA w0 base w B s M D C O IA ic (rowR M D C O IA ic s)) (hs : s.ds = []) : Calls Try.prog 21 #[.pointer (some ⟨B, 0, none⟩), .int .u32 46] w (RQ w0 base B s (exec 46 s)) := by
  obtain ⟨pA, cap, hD, _⟩ := own_slice h.ds
  obtain ⟨c2, f2⟩ := h.f (i := 2) (v := D) rfl
  rw [hD] at c2
  obtain ⟨m, hm⟩ : ∃ m, s.ds.length = m := ⟨_, rfl⟩
  rw [hm] at c2
  have hm0 : m = 0 := by rw [← hm, hs]; rfl
  have n1 : decide ((m : Int) < 1) = true := decide_eq_true (by omega)
  have fin : RQ w0 base B s (exec 46 s) (.returned (.bool false)) w := RQ.trap (by
    obtain ⟨smem, spc, sds, scs, sdig, sinp, sout⟩ := s
    dsimp only at hs
    subst hs
    rfl) h.on
  obtain ⟨Q, hQ⟩ : ∃ Q, RQ w0 base B s (exec 46 s) = Q := ⟨_, rfl⟩
  rw [hQ] at fin ⊢
  replace fin := Lib.hid fin
  clear hQ hm hD hm0 hs h
  go_enter Try.func21, Try.ntmps21
  go_wp2
  first | go_ret | skip
  exact fin.out
set_option maxHeartbeats 4000000 in
theorem rstep_load_bad (h : RA w0 base w B s M D C O IA ic (rowR M D C O IA ic s)) {a : Nat} {r : List Nat} (hs : s.ds = a :: r) (ha : 262144 ≤ a) : Calls Try.prog 21 #[.pointer (some ⟨B, 0, none⟩), .int .u32 64] w (RQ w0 base B s (exec 64 s)) := by
  obtain ⟨g, cap, rfl, h1, h2, hx, fx, hp, hset⟩ := h.top hs
  obtain ⟨c2, f2⟩ := h.f (i := 2) (v := .slice (some ⟨g, 0, none⟩) (r.length + 1) cap) rfl
  obtain ⟨n, hn⟩ : ∃ n, r.length = n := ⟨_, rfl⟩
  obtain ⟨m, hm⟩ : ∃ m, r.length + 1 = m := ⟨_, rfl⟩
  rw [hm] at c2 h1
  rw [hn] at hx fx
  have e1 : (m : Int) - 1 = (n : Int) := by omega
  have n0 : (0 : Int) ≤ (n : Int) := by omega
  have n1 : (n : Int) < (m : Int) := by omega
  have n2 : n < m := by omega
  have n3 : n ≤ cap := by omega
  have n4 : (n : Int) ≤ (cap : Int) := by omega
  have n5 : decide ((m : Int) < 1) = false := decide_eq_false (by omega)
  have n6 : (m : Int) ≤ 256 := by have := h.ok.dl; rw [hs] at this; simp only [List.length_cons] at this; omega
  have n7 : IntKind.i64.wrap (n : Int) = (n : Int) := by rw [IntKind.wrap_i64]; omega
  have k1 : decide (262144 ≤ (a : Int)) = true := decide_eq_true (by omega)
  have fin : RQ w0 base B s (exec 64 s) (.returned (.bool false)) w := RQ.trap (by
    obtain ⟨smem, spc, sds, scs, sdig, sinp, sout⟩ := s
    dsimp only at hs ⊢
    subst hs
    exact if_pos ha) h.on
  obtain ⟨Q, hQ⟩ : ∃ Q, RQ w0 base B s (exec 64 s) = Q := ⟨_, rfl⟩
  rw [hQ] at fin ⊢
  replace fin := Lib.hid fin
  clear hQ hset hp hs hn hm ha h2 h
  go_enter Try.func21, Try.ntmps21
  go_wp2
  first | go_ret | skip
  exact fin.out
set_option maxHeartbeats 4000000 in
theorem rstep_load_own (h : RA w0 base w B s M D C O IA ic (rowR M D C O IA ic s)) {a : Nat} {r : List Nat} (hs : s.ds = a :: r) (ha : a < 262144) : Calls Try.prog 21 #[.pointer (some ⟨B, 0, none⟩), .int .u32 64] w (RQ w0 base B s (exec 64 s)) := by
  obtain ⟨g, cap, rfl, h1, h2, hx, fx, hp, hset⟩ := h.top hs
  obtain ⟨c2, f2⟩ := h.f (i := 2) (v := .slice (some ⟨g, 0, none⟩) (r.length + 1) cap) rfl
  obtain ⟨c0, _⟩ := h.f (i := 0) (v := memV M) rfl
  unfold memV at c0
  have cm := h.mem.cell a ha
  obtain ⟨v, hv⟩ : ∃ v, s.mem a = v := ⟨_, rfl⟩
  have hvl : v < 4294967296 := by rw [← hv]; exact h.ok.mem a
  rw [hv] at cm
  have k1 : decide (262144 ≤ (a : Int)) = false := decide_eq_false (by omega)
  have a0 : (0 : Int) ≤ (a : Int) := by omega
  have a1 : (a : Int) < 262144 := by omega
  have a2 : a < 262144 := ha
  have fin : RQ w0 base B s (exec 64 s) (.returned (.bool true)) (w.drew.setCell ⟨g, r.length, none⟩ (.int .u32 (v : Int))) := RQ.go (s' := { s with ds := v :: r, dig := false }) (by
    obtain ⟨smem, spc, sds, scs, sdig, sinp, sout⟩ := s
    dsimp only at hs hv ⊢
    subst hs
    subst hv
    exact if_neg (show ¬ 262144 ≤ a by omega)) (RA.on ((hset v hvl).drew))
  obtain ⟨n, hn⟩ : ∃ n, r.length = n := ⟨_, rfl⟩
  obtain ⟨m, hm⟩ : ∃ m, r.length + 1 = m := ⟨_, rfl⟩
  rw [hm] at c2 h1
  rw [hn] at hx fx
  have e1 : (m : Int) - 1 = (n : Int) := by omega
  have n0 : (0 : Int) ≤ (n : Int) := by omega
  have n1 : (n : Int) < (m : Int) := by omega
  have n2 : n < m := by omega
  have n3 : n ≤ cap := by omega
  have n4 : (n : Int) ≤ (cap : Int) := by omega
  have n5 : decide ((m : Int) < 1) = false := decide_eq_false (by omega)
  have n6 : (m : Int) ≤ 256 := by have := h.ok.dl; rw [hs] at this; simp only [List.length_cons] at this; omega
  have n7 : IntKind.i64.wrap (n : Int) = (n : Int) := by rw [IntKind.wrap_i64]; omega
  rw [hn] at fin
  obtain ⟨Q, hQ⟩ : ∃ Q, RQ w0 base B s (exec 64 s) = Q := ⟨_, rfl⟩
  rw [hQ] at fin ⊢
  replace fin := Lib.hid fin
  clear hQ hset hp hs hn hm hv hvl h2 ha h
  go_enter Try.func21, Try.ntmps21
  go_wp2_with fail
  go_region
  go_wp2
  first | go_ret | skip
  exact fin.out
set_option maxHeartbeats 4000000 in
theorem rstep_put_bad (h : RA w0 base w B s M D C O IA ic (rowR M D C O IA ic s)) {a b : Nat} {r : List Nat} (hs : s.ds = b :: a :: r) (hb : 262144 ≤ b) : Calls Try.prog 21 #[.pointer (some ⟨B, 0, none⟩), .int .u32 33] w (RQ w0 base B s (exec 33 s)) := by
  obtain ⟨g, cap, rfl, h1, h2, hx, fx, hp1, hset1⟩ := h.top hs
  obtain ⟨g', cap', e', h1', h2', hy, fy, hp, hset⟩ := hp1.top rfl
  cases e'
  obtain ⟨c2, f2⟩ := h.f (i := 2) (v := .slice (some ⟨g, 0, none⟩) (r.length + 1 + 1) cap) rfl
  obtain ⟨p, hp0⟩ : ∃ p, r.length = p := ⟨_, rfl⟩
  obtain ⟨n, hn⟩ : ∃ n, r.length + 1 = n := ⟨_, rfl⟩
  obtain ⟨m, hm⟩ : ∃ m, r.length + 1 + 1 = m := ⟨_, rfl⟩
  simp only [List.length_cons] at hx fx h1
  rw [hm] at c2 h1
  rw [hn] at hx fx
  rw [hp0] at hy fy
  have e1 : (m : Int) - 1 = (n : Int) := by omega
  have e2 : (m : Int) - 2 = (p : Int) := by omega
  have n0 : (0 : Int) ≤ (n : Int) := by omega
  have n1 : (n : Int) < (m : Int) := by omega
  have n2 : n < m := by omega
  have p0 : (0 : Int) ≤ (p : Int) := by omega
  have p1 : (p : Int) < (m : Int) := by omega
  have p2 : p < m := by omega
  have p3 : p ≤ cap := by omega
  have p4 : (p : Int) ≤ (cap : Int) := by omega
  have n5 : decide ((m : Int) < 2) = false := decide_eq_false (by omega)
  have n6 : (m : Int) ≤ 256 := by have := h.ok.dl; rw [hs] at this; simp only [List.length_cons] at this; omega
  have n7 : IntKind.i64.wrap (n : Int) = (n : Int) := by rw [IntKind.wrap_i64]; omega
  have n8 : IntKind.i64.wrap (p : Int) = (p : Int) := by rw [IntKind.wrap_i64]; omega
  have k1 : decide (262144 ≤ (b : Int)) = true := decide_eq_true (by omega)
  have fin : RQ w0 base B s (exec 33 s) (.returned (.bool false)) w := RQ.trap (by
    obtain ⟨smem, spc, sds, scs, sdig, sinp, sout⟩ := s
    dsimp only at hs ⊢
    subst hs
    exact if_pos hb) h.on
  obtain ⟨Q, hQ⟩ : ∃ Q, RQ w0 base B s (exec 33 s) = Q := ⟨_, rfl⟩
  rw [hQ] at fin ⊢
  replace fin := Lib.hid fin
  clear hQ hset hset1 hp hp1 hs hn hm hp0 hb h2 h2' h1' h
  go_enter Try.func21, Try.ntmps21
  go_wp2
  first | go_ret | skip
  exact fin.out
set_option maxHeartbeats 4000000 in
theorem rstep_put_own (h : RA w0 base w B s M D C O IA ic (rowR M D C O IA ic s)) {a b : Nat} {r : List Nat} (hs : s.ds = b :: a :: r) (hb : b < 262144) : Calls Try.prog 21 #[.pointer (some ⟨B, 0, none⟩), .int .u32 33] w (RQ w0 base B s (exec 33 s)) := by
  obtain ⟨g, cap, rfl, h1, h2, hx, fx, hp1, hset1⟩ := h.top hs
  obtain ⟨g', cap', e', h1', h2', hy, fy, hp, hset⟩ := hp1.top rfl
  cases e'
  obtain ⟨c2, f2⟩ := h.f (i := 2) (v := .slice (some ⟨g, 0, none⟩) (r.length + 1 + 1) cap) rfl
  have ha : a < 4294967296 := h.ok.ds a (by rw [hs]; simp)
  obtain ⟨c0, _⟩ := h.f (i := 0) (v := memV M) rfl
  unfold memV at c0
  have cm := h.mem.cell b hb
  have fm := h.mem.frz b
  have hMB : ¬ M = B := fun e => h.parted.bm e.symm
  have hMg : ¬ M = g := fun e => h.dm (by rw [e]; rfl)
  have hset2 := hp.drew.setMem b ha
  have d2 : (w.drew.setCell ⟨M, b, none⟩ (.int .u32 (a : Int))).cell? ⟨B, 2, none⟩ = some (.slice (some ⟨g, 0, none⟩) (r.length + 1 + 1) cap) := (hset2.blk.cell 2)
  have d2f : (w.drew.setCell ⟨M, b, none⟩ (.int .u32 (a : Int))).frozen? ⟨B, 2, none⟩ = false := (hset2.blk.frz 2)
  have k1 : decide (262144 ≤ (b : Int)) = false := decide_eq_false (by omega)
  have b0 : (0 : Int) ≤ (b : Int) := by omega
  have b1 : (b : Int) < 262144 := by omega
  have fin : RQ w0 base B s (exec 33 s) (.returned (.bool true)) ((w.drew.setCell ⟨M, b, none⟩ (.int .u32 (a : Int))).setCell ⟨B, 2, none⟩ (.slice (some ⟨g, 0, none⟩) r.length cap)) := RQ.go (s' := { s with ds := r, mem := upd s.mem b a, dig := false }) (by
    obtain ⟨smem, spc, sds, scs, sdig, sinp, sout⟩ := s
    dsimp only at hs ⊢
    subst hs
    exact if_neg (show ¬ 262144 ≤ b by omega)) (RA.on (hset2.field 2 _))
  obtain ⟨p, hp0⟩ : ∃ p, r.length = p := ⟨_, rfl⟩
  obtain ⟨n, hn⟩ : ∃ n, r.length + 1 = n := ⟨_, rfl⟩
  obtain ⟨m, hm⟩ : ∃ m, r.length + 1 + 1 = m := ⟨_, rfl⟩
  simp only [List.length_cons] at hx fx h1
  rw [hm] at c2 h1
  rw [hn] at hx fx
  rw [hp0] at hy fy
  have e1 : (m : Int) - 1 = (n : Int) := by omega
  have e2 : (m : Int) - 2 = (p : Int) := by omega
  have n0 : (0 : Int) ≤ (n : Int) := by omega
  have n1 : (n : Int) < (m : Int) := by omega
  have n2 : n < m := by omega
  have p0 : (0 : Int) ≤ (p : Int) := by omega
  have p1 : (p : Int) < (m : Int) := by omega
  have p2 : p < m := by omega
  have p3 : p ≤ cap := by omega
  have p4 : (p : Int) ≤ (cap : Int) := by omega
  have n5 : decide ((m : Int) < 2) = false := decide_eq_false (by omega)
  have n6 : (m : Int) ≤ 256 := by have := h.ok.dl; rw [hs] at this; simp only [List.length_cons] at this; omega
  have n7 : IntKind.i64.wrap (n : Int) = (n : Int) := by rw [IntKind.wrap_i64]; omega
  have n8 : IntKind.i64.wrap (p : Int) = (p : Int) := by rw [IntKind.wrap_i64]; omega
  rw [hp0] at fin
  rw [hm] at d2
  obtain ⟨Q, hQ⟩ : ∃ Q, RQ w0 base B s (exec 33 s) = Q := ⟨_, rfl⟩
  rw [hQ] at fin ⊢
  replace fin := Lib.hid fin
  clear hQ hset hset1 hset2 hp hp1 hs hn hm hp0 ha h2 h2' h1' h
  go_enter Try.func21, Try.ntmps21
  go_wp2_with fail
  go_region
  go_wp2
  first | go_ret | skip
  exact fin.out
set_option maxHeartbeats 4000000 in
theorem rstep_jump_yes (h : RA w0 base w B s M D C O IA ic (rowR M D C O IA ic s)) {a b : Nat} {r : List Nat} (hs : s.ds = b :: a :: r) (ha : a = 0) : Calls Try.prog 21 #[.pointer (some ⟨B, 0, none⟩), .int .u32 63] w (RQ w0 base B s (exec 63 s)) := by
  obtain ⟨g, cap, rfl, h1, h2, hx, fx, hp1, hset1⟩ := h.top hs
  obtain ⟨g', cap', e', h1', h2', hy, fy, hp, hset⟩ := hp1.top rfl
  cases e'
  obtain ⟨c2, f2⟩ := h.f (i := 2) (v := .slice (some ⟨g, 0, none⟩) (r.length + 1 + 1) cap) rfl
  have hb : b < 4294967296 := h.ok.ds b (by rw [hs]; simp)
  obtain ⟨c1, f1⟩ := h.f (i := 1) (v := .int .u32 (s.pc : Int)) rfl
  have k1 : ((a : Int) == 0) = true := by simpa using ha
  have hj := hp.field 1 (.int .u32 (b : Int))
  have d2 : (w.setCell ⟨B, 1, none⟩ (.int .u32 (b : Int))).cell? ⟨B, 2, none⟩ = some (.slice (some ⟨g, 0, none⟩) (r.length + 1 + 1) cap) := (hj.blk.cell 2)
  have d2f : (w.setCell ⟨B, 1, none⟩ (.int .u32 (b : Int))).frozen? ⟨B, 2, none⟩ = false := (hj.blk.frz 2)
  have fin : RQ w0 base B s (exec 63 s) (.returned (.bool true)) ((w.setCell ⟨B, 1, none⟩ (.int .u32 (b : Int))).setCell ⟨B, 2, none⟩ (.slice (some ⟨g, 0, none⟩) r.length cap)) := RQ.go (s' := { s with ds := r, pc := b, dig := false }) (by
    obtain ⟨smem, spc, sds, scs, sdig, sinp, sout⟩ := s
    dsimp only at hs ha ⊢
    subst hs
    subst ha
    rfl) (RA.on ((hj.field 2 _).st (s' := { s with ds := r, pc := b }) rfl rfl rfl rfl rfl ⟨hp.ok.mem, hb, hp.ok.ds, hp.ok.cs, hp.ok.inp, hp.ok.dl, hp.ok.cl⟩))
  obtain ⟨p, hp0⟩ : ∃ p, r.length = p := ⟨_, rfl⟩
  obtain ⟨n, hn⟩ : ∃ n, r.length + 1 = n := ⟨_, rfl⟩
  obtain ⟨m, hm⟩ : ∃ m, r.length + 1 + 1 = m := ⟨_, rfl⟩
  simp only [List.length_cons] at hx fx h1
  rw [hm] at c2 h1
  rw [hn] at hx fx
  rw [hp0] at hy fy
  have e1 : (m : Int) - 1 = (n : Int) := by omega
  have e2 : (m : Int) - 2 = (p : Int) := by omega
  have n0 : (0 : Int) ≤ (n : Int) := by omega
  have n1 : (n : Int) < (m : Int) := by omega
  have n2 : n < m := by omega
  have p0 : (0 : Int) ≤ (p : Int) := by omega
  have p1 : (p : Int) < (m : Int) := by omega
  have p2 : p < m := by omega
  have p3 : p ≤ cap := by omega
  have p4 : (p : Int) ≤ (cap : Int) := by omega
  have n5 : decide ((m : Int) < 2) = false := decide_eq_false (by omega)
  have n6 : (m : Int) ≤ 256 := by have := h.ok.dl; rw [hs] at this; simp only [List.length_cons] at this; omega
  have n7 : IntKind.i64.wrap (n : Int) = (n : Int) := by rw [IntKind.wrap_i64]; omega
  have n8 : IntKind.i64.wrap (p : Int) = (p : Int) := by rw [IntKind.wrap_i64]; omega
  rw [hp0] at fin
  rw [hm] at d2
  obtain ⟨Q, hQ⟩ : ∃ Q, RQ w0 base B s (exec 63 s) = Q := ⟨_, rfl⟩
  rw [hQ] at fin ⊢
  replace fin := Lib.hid fin
  clear hQ hset hset1 hp hp1 hj hs hn hm hp0 ha hb h2 h2' h1' h
  go_enter Try.func21, Try.ntmps21
  go_wp2
  first | go_ret | skip
  exact fin.out
set_option maxHeartbeats 4000000 in
theorem rstep_jump_no (h : RA w0 base w B s M D C O IA ic (rowR M D C O IA ic s)) {a b : Nat} {r : List Nat} (hs : s.ds = b :: a :: r) (ha : ¬ a = 0) : Calls Try.prog 21 #[.pointer (some ⟨B, 0, none⟩), .int .u32 63] w (RQ w0 base B s (exec 63 s)) := by
  obtain ⟨g, cap, rfl, h1, h2, hx, fx, hp1, hset1⟩ := h.top hs
  obtain ⟨g', cap', e', h1', h2', hy, fy, hp, hset⟩ := hp1.top rfl
  cases e'
  obtain ⟨c2, f2⟩ := h.f (i := 2) (v := .slice (some ⟨g, 0, none⟩) (r.length + 1 + 1) cap) rfl
  have hb : b < 4294967296 := h.ok.ds b (by rw [hs]; simp)
  obtain ⟨c1, f1⟩ := h.f (i := 1) (v := .int .u32 (s.pc : Int)) rfl
  have k1 : ((a : Int) == 0) = false := by simpa using ha
  have fin : RQ w0 base B s (exec 63 s) (.returned (.bool true)) (w.setCell ⟨B, 2, none⟩ (.slice (some ⟨g, 0, none⟩) r.length cap)) := RQ.go (s' := { s with ds := r, dig := false }) (by
    obtain ⟨smem, spc, sds, scs, sdig, sinp, sout⟩ := s
    dsimp only at hs ⊢
    subst hs
    show Res.go _ = _
    rw [if_neg ha]) (RA.on (hp.field 2 _))
  obtain ⟨p, hp0⟩ : ∃ p, r.length = p := ⟨_, rfl⟩
  obtain ⟨n, hn⟩ : ∃ n, r.length + 1 = n := ⟨_, rfl⟩
  obtain ⟨m, hm⟩ : ∃ m, r.length + 1 + 1 = m := ⟨_, rfl⟩
  simp only [List.length_cons] at hx fx h1
  rw [hm] at c2 h1
  rw [hn] at hx fx
  rw [hp0] at hy fy
  have e1 : (m : Int) - 1 = (n : Int) := by omega
  have e2 : (m : Int) - 2 = (p : Int) := by omega
  have n0 : (0 : Int) ≤ (n : Int) := by omega
  have n1 : (n : Int) < (m : Int) := by omega
  have n2 : n < m := by omega
  have p0 : (0 : Int) ≤ (p : Int) := by omega
  have p1 : (p : Int) < (m : Int) := by omega
  have p2 : p < m := by omega
  have p3 : p ≤ cap := by omega
  have p4 : (p : Int) ≤ (cap : Int) := by omega
  have n5 : decide ((m : Int) < 2) = false := decide_eq_false (by omega)
  have n6 : (m : Int) ≤ 256 := by have := h.ok.dl; rw [hs] at this; simp only [List.length_cons] at this; omega
  have n7 : IntKind.i64.wrap (n : Int) = (n : Int) := by rw [IntKind.wrap_i64]; omega
  have n8 : IntKind.i64.wrap (p : Int) = (p : Int) := by rw [IntKind.wrap_i64]; omega
  rw [hp0] at fin
  obtain ⟨Q, hQ⟩ : ∃ Q, RQ w0 base B s (exec 63 s) = Q := ⟨_, rfl⟩
  rw [hQ] at fin ⊢
  replace fin := Lib.hid fin
  clear hQ hset hset1 hp hp1 hs hn hm hp0 ha hb h2 h2' h1' h
  go_enter Try.func21, Try.ntmps21
  go_wp2
  first | go_ret | skip
  exact fin.out
set_option maxHeartbeats 4000000 in
theorem rstep_call_full (h : RA w0 base w B s M D C O IA ic (rowR M D C O IA ic s)) {a : Nat} {r : List Nat} (hs : s.ds = a :: r) (hl : s.cs.length = 64) : Calls Try.prog 21 #[.pointer (some ⟨B, 0, none⟩), .int .u32 58] w (RQ w0 base B s (exec 58 s)) := by
  obtain ⟨g, cap, rfl, h1, h2, hx, fx, hp, hset⟩ := h.top hs
  obtain ⟨c2, f2⟩ := h.f (i := 2) (v := .slice (some ⟨g, 0, none⟩) (r.length + 1) cap) rfl
  obtain ⟨pC, cc, hC, _⟩ := own_slice h.cs
  obtain ⟨c3, f3⟩ := h.f (i := 3) (v := C) rfl
  rw [hC, hl] at c3
  have fin : RQ w0 base B s (exec 58 s) (.returned (.bool false)) w := RQ.trap (by
    obtain ⟨smem, spc, sds, scs, sdig, sinp, sout⟩ := s
    dsimp only at hs hl ⊢
    subst hs
    exact if_pos (show 64 ≤ scs.length by omega)) h.on
  obtain ⟨n, hn⟩ : ∃ n, r.length = n := ⟨_, rfl⟩
  obtain ⟨m, hm⟩ : ∃ m, r.length + 1 = m := ⟨_, rfl⟩
  rw [hm] at c2 h1
  rw [hn] at hx fx
  have e1 : (m : Int) - 1 = (n : Int) := by omega
  have n0 : (0 : Int) ≤ (n : Int) := by omega
  have n1 : (n : Int) < (m : Int) := by omega
  have n2 : n < m := by omega
  have n3 : n ≤ cap := by omega
  have n4 : (n : Int) ≤ (cap : Int) := by omega
  have n5 : decide ((m : Int) < 1) = false := decide_eq_false (by omega)
  have n6 : (m : Int) ≤ 256 := by have := h.ok.dl; rw [hs] at this; simp only [List.length_cons] at this; omega
  have n7 : IntKind.i64.wrap (n : Int) = (n : Int) := by rw [IntKind.wrap_i64]; omega
  obtain ⟨Q, hQ⟩ : ∃ Q, RQ w0 base B s (exec 58 s) = Q := ⟨_, rfl⟩
  rw [hQ] at fin ⊢
  replace fin := Lib.hid fin
  clear hQ hset hp hs hn hm hl hC h2 h
  go_enter Try.func21, Try.ntmps21
  go_wp2
  first | go_ret | skip
  exact fin.out
set_option maxHeartbeats 8000000 in
theorem rstep_call_own (h : RA w0 base w B s M D C O IA ic (rowR M D C O IA ic s)) {a : Nat} {r : List Nat} (hs : s.ds = a :: r) (hl : s.cs.length < 64) : Calls Try.prog 21 #[.pointer (some ⟨B, 0, none⟩), .int .u32 58] w (RQ w0 base B s (exec 58 s)) := by
  obtain ⟨g, cap, rfl, h1, h2, hx, fx, hp, hset⟩ := h.top hs
  obtain ⟨c2, f2⟩ := h.f (i := 2) (v := .slice (some ⟨g, 0, none⟩) (r.length + 1) cap) rfl
  have ha : a < 4294967296 := h.ok.ds a (by rw [hs]; simp)
  obtain ⟨pC, cc, hC, _⟩ := own_slice h.cs
  obtain ⟨c3, f3⟩ := h.f (i := 3) (v := C) rfl
  obtain ⟨c1, f1⟩ := h.f (i := 1) (v := .int .u32 (s.pc : Int)) rfl
  rw [hC] at c3
  have k1 : decide (64 ≤ (s.cs.length : Int)) = false := decide_eq_false (by omega)
  have hat := (h.drew).alloc (.cells #[.int .u32 (s.pc : Int)] 36)
  have cG : ∀ (W4 : World) (C' : Value), W4.ownsRow base 36 1 C' (s.cs.length + 1) (us s.cs.reverse ++ [.int .u32 (s.pc : Int)]) → (w.drew.alloc (.cells #[.int .u32 (s.pc : Int)] 36)).grownBy W4 C.ownBlock → (C'.ownBlock = C.ownBlock ∨ C'.ownBlock = some (w.heap.size + 1)) →
      (W4.frozen? ⟨B, 3, none⟩ = false ∧ ∃ u, W4.cell? ⟨B, 3, none⟩ = some u) ∧ ((W4.setCell ⟨B, 3, none⟩ C').cell? ⟨B, 2, none⟩ = some (.slice (some ⟨g, 0, none⟩) (r.length + 1) cap) ∧ (W4.setCell ⟨B, 3, none⟩ C').cell? ⟨g, r.length, none⟩ = some (.int .u32 (a : Int)) ∧ (W4.setCell ⟨B, 3, none⟩ C').frozen? ⟨B, 1, none⟩ = false ∧ ∃ u, (W4.setCell ⟨B, 3, none⟩ C').cell? ⟨B, 1, none⟩ = some u) ∧
      (((W4.setCell ⟨B, 3, none⟩ C').setCell ⟨B, 1, none⟩ (.int .u32 (a : Int))).cell? ⟨B, 2, none⟩ = some (.slice (some ⟨g, 0, none⟩) (r.length + 1) cap) ∧ ((W4.setCell ⟨B, 3, none⟩ C').setCell ⟨B, 1, none⟩ (.int .u32 (a : Int))).frozen? ⟨B, 2, none⟩ = false) ∧
      RQ w0 base B s (exec 58 s) (.returned (.bool true)) (((W4.setCell ⟨B, 3, none⟩ C').setCell ⟨B, 1, none⟩ (.int .u32 (a : Int))).setCell ⟨B, 2, none⟩ (.slice (some ⟨g, 0, none⟩) r.length cap)) := fun W4 C' q1 q2 q3 => by
    have h4 := hat.swapC (l := s.pc :: s.cs) q2 (by rw [List.reverse_cons, us_snoc]; exact q1) (by rw [World.size_alloc]; exact q3) (fun y hy => by
      rcases List.mem_cons.1 hy with rfl | hy
      · exact h.ok.pc
      · exact h.ok.cs y hy) (by simp only [List.length_cons]; omega)
    have h5 := h4.field 3 C'
    obtain ⟨g2, cap2, e2, _, _, hx2, _, hp2, _⟩ := h5.top (x := a) (r := r) hs
    cases e2
    have h6 := hp2.field 1 (.int .u32 (a : Int))
    have h7 := h6.field 2 (.slice (some ⟨g, 0, none⟩) r.length cap)
    refine ⟨⟨h4.blk.frz 3, _, h4.blk.cell 3⟩, ⟨h5.blk.cell 2, hx2, h5.blk.frz 1, _, h5.blk.cell 1⟩, ⟨h6.blk.cell 2, h6.blk.frz 2⟩, RQ.go (s' := { s with ds := r, cs := s.pc :: s.cs, pc := a, dig := false }) ?_ (RA.on (h7.st (s' := { s with ds := r, cs := s.pc :: s.cs, pc := a }) rfl rfl rfl rfl rfl ⟨h7.ok.mem, ha, h7.ok.ds, h7.ok.cs, h7.ok.inp, h7.ok.dl, h7.ok.cl⟩))⟩
    clear h4 h5 h6 h7 hp2 hx2 hat
    obtain ⟨smem, spc, sds, scs, sdig, sinp, sout⟩ := s
    dsimp only at hs hl ⊢
    subst hs
    exact if_neg (show ¬ 64 ≤ scs.length by omega)
  have hown := hat.cs
  have hbw := hat.bw
  have c3a : (w.alloc (.cells #[.int .u32 (s.pc : Int)] 36)).cell? ⟨B, 3, none⟩ = some C := hat.blk.cell 3
  obtain ⟨n, hn⟩ : ∃ n, r.length = n := ⟨_, rfl⟩
  obtain ⟨m, hm⟩ : ∃ m, r.length + 1 = m := ⟨_, rfl⟩
  rw [hm] at c2 h1
  rw [hn] at hx fx
  have e1 : (m : Int) - 1 = (n : Int) := by omega
  have n0 : (0 : Int) ≤ (n : Int) := by omega
  have n1 : (n : Int) < (m : Int) := by omega
  have n2 : n < m := by omega
  have n3 : n ≤ cap := by omega
  have n4 : (n : Int) ≤ (cap : Int) := by omega
  have n5 : decide ((m : Int) < 1) = false := decide_eq_false (by omega)
  have n6 : (m : Int) ≤ 256 := by have := h.ok.dl; rw [hs] at this; simp only [List.length_cons] at this; omega
  have n7 : IntKind.i64.wrap (n : Int) = (n : Int) := by rw [IntKind.wrap_i64]; omega
  obtain ⟨q, hq⟩ : ∃ q, s.pc = q := ⟨_, rfl⟩
  obtain ⟨cn, hcn⟩ : ∃ cn, s.cs.length = cn := ⟨_, rfl⟩
  obtain ⟨xs, hxs⟩ : ∃ xs, us s.cs.reverse = xs := ⟨_, rfl⟩
  obtain ⟨Q, hQ⟩ : ∃ Q, RQ w0 base B s (exec 58 s) = Q := ⟨_, rfl⟩
  have hCb : C.ownBlock = (Value.slice pC cn cc).ownBlock := by rw [hC, hcn]
  rw [hcn] at c3 k1 hC
  rw [hC, hq] at c3a
  simp only [hcn, hxs, hq, hm, hn, hQ, hCb] at cG
  rw [hC] at hown
  rw [hcn, hxs, hq] at hown
  rw [hq] at c1 hbw
  rw [hQ]
  have cn1 : cn ≤ 64 := by omega
  replace cG := Lib.hid cG
  replace hown := Lib.hid hown
  replace hbw := Lib.hid hbw
  clear hQ hset hp hs hn hm hl hC hCb hcn hxs hq hat ha h2 h
  go_enter Try.func21, Try.ntmps21
  go_wp2_with fail
  go_region_law (refine step_appU (by rfl) _ _ (by rfl) base (.slice pC cn cc) cn xs _ (q : Int) (by rfl) hown.out (by rfl) (by exact one_new w _ _ 0 _ rfl) (by omega) hbw.out ?_; intro C' w4 q1 q2 q3; obtain ⟨⟨z1, u1, z2⟩, ⟨y1, y2, y3, u2, y4⟩, ⟨x1, x2⟩, fin⟩ := cG.out w4 C' q1 q2 (q3.imp id (fun e => e.trans (by simp))); replace fin := Lib.hid fin; obtain ⟨pA', cap', rfl, _⟩ := own_slice q1; clear q1 q2 q3)
  all_goals (
    go_wp2
    first | go_ret | skip
    exact fin.out)
set_option maxHeartbeats 4000000 in
theorem rstep_ret_none (h : RA w0 base w B s M D C O IA ic (rowR M D C O IA ic s)) (hs : s.cs = []) : Calls Try.prog 21 #[.pointer (some ⟨B, 0, none⟩), .int .u32 59] w (RQ w0 base B s (exec 59 s)) := by
  obtain ⟨pA, cap, hD, _⟩ := own_slice h.ds
  obtain ⟨c2, f2⟩ := h.f (i := 2) (v := D) rfl
  rw [hD] at c2
  obtain ⟨m, hm⟩ : ∃ m, s.ds.length = m := ⟨_, rfl⟩
  rw [hm] at c2
  obtain ⟨pC, cc, hC, _⟩ := own_slice h.cs
  obtain ⟨c3, f3⟩ := h.f (i := 3) (v := C) rfl
  rw [hC, hs] at c3
  simp only [List.length_nil] at c3
  have fin : RQ w0 base B s (exec 59 s) (.returned (.bool false)) w := RQ.trap (by
    obtain ⟨smem, spc, sds, scs, sdig, sinp, sout⟩ := s
    dsimp only at hs ⊢
    subst hs
    rfl) h.on
  obtain ⟨Q, hQ⟩ : ∃ Q, RQ w0 base B s (exec 59 s) = Q := ⟨_, rfl⟩
  rw [hQ] at fin ⊢
  replace fin := Lib.hid fin
  clear hQ hm hD hC hs h
  go_enter Try.func21, Try.ntmps21
  go_wp2
  first | go_ret | skip
  exact fin.out
set_option maxHeartbeats 4000000 in
theorem rstep_ret_own (h : RA w0 base w B s M D C O IA ic (rowR M D C O IA ic s)) {a : Nat} {r : List Nat} (hs : s.cs = a :: r) : Calls Try.prog 21 #[.pointer (some ⟨B, 0, none⟩), .int .u32 59] w (RQ w0 base B s (exec 59 s)) := by
  obtain ⟨g, cap, rfl, h1, h2, hx, hp⟩ := h.topC hs
  have ha : a < 4294967296 := h.ok.cs a (by rw [hs]; simp)
  obtain ⟨c3, f3⟩ := h.f (i := 3) (v := .slice (some ⟨g, 0, none⟩) (r.length + 1) cap) rfl
  obtain ⟨c1, f1⟩ := h.f (i := 1) (v := .int .u32 (s.pc : Int)) rfl
  obtain ⟨pA, capD, hD, _⟩ := own_slice h.ds
  obtain ⟨c2, f2⟩ := h.f (i := 2) (v := D) rfl
  rw [hD] at c2
  obtain ⟨md, hmd⟩ : ∃ md, s.ds.length = md := ⟨_, rfl⟩
  rw [hmd] at c2
  have hj := hp.field 1 (.int .u32 (a : Int))
  have d2 : (w.setCell ⟨B, 1, none⟩ (.int .u32 (a : Int))).cell? ⟨B, 3, none⟩ = some (.slice (some ⟨g, 0, none⟩) (r.length + 1) cap) := (hj.blk.cell 3)
  have d2f : (w.setCell ⟨B, 1, none⟩ (.int .u32 (a : Int))).frozen? ⟨B, 3, none⟩ = false := (hj.blk.frz 3)
  have fin : RQ w0 base B s (exec 59 s) (.returned (.bool true)) ((w.setCell ⟨B, 1, none⟩ (.int .u32 (a : Int))).setCell ⟨B, 3, none⟩ (.slice (some ⟨g, 0, none⟩) r.length cap)) := RQ.go (s' := { s with cs := r, pc := a, dig := false }) (by
    obtain ⟨smem, spc, sds, scs, sdig, sinp, sout⟩ := s
    dsimp only at hs ⊢
    subst hs
    rfl) (RA.on ((hj.field 3 _).st (s' := { s with cs := r, pc := a }) rfl rfl rfl rfl rfl ⟨hp.ok.mem, ha, hp.ok.ds, hp.ok.cs, hp.ok.inp, hp.ok.dl, hp.ok.cl⟩))
  obtain ⟨n, hn⟩ : ∃ n, r.length = n := ⟨_, rfl⟩
  obtain ⟨m, hm⟩ : ∃ m, r.length + 1 = m := ⟨_, rfl⟩
  rw [hm] at c3 h1
  rw [hn] at hx
  have e1 : (m : Int) - 1 = (n : Int) := by omega
  have n0 : (0 : Int) ≤ (n : Int) := by omega
  have n1 : (n : Int) < (m : Int) := by omega
  have n2 : n < m := by omega
  have n3 : n ≤ cap := by omega
  have n4 : (n : Int) ≤ (cap : Int) := by omega
  have n5 : decide ((m : Int) < 1) = false := decide_eq_false (by omega)
  have n6 : (m : Int) ≤ 256 := by have := h.ok.cl; rw [hs] at this; simp only [List.length_cons] at this; omega
  have n7 : IntKind.i64.wrap (n : Int) = (n : Int) := by rw [IntKind.wrap_i64]; omega
  rw [hn] at fin
  rw [hm] at d2
  obtain ⟨Q, hQ⟩ : ∃ Q, RQ w0 base B s (exec 59 s) = Q := ⟨_, rfl⟩
  rw [hQ] at fin ⊢
  replace fin := Lib.hid fin
  clear hQ hj hp hs hn hm hmd hD ha h2 h
  go_enter Try.func21, Try.ntmps21
  go_wp2
  first | go_ret | skip
  exact fin.out
set_option maxHeartbeats 4000000 in
theorem rstep_read_end (h : RA w0 base w B s M D C O IA ic (rowR M D C O IA ic s)) (hs : s.inp = []) : Calls Try.prog 21 #[.pointer (some ⟨B, 0, none⟩), .int .u32 44] w (RQ w0 base B s (exec 44 s)) := by
  obtain ⟨pA, cap, hD, _⟩ := own_slice h.ds
  obtain ⟨c2, f2⟩ := h.f (i := 2) (v := D) rfl
  rw [hD] at c2
  obtain ⟨m, hm⟩ : ∃ m, s.ds.length = m := ⟨_, rfl⟩
  rw [hm] at c2
  obtain ⟨c4, f4⟩ := h.f (i := 4) (v := .slice IA s.inp.length ic) rfl
  rw [hs] at c4
  simp only [List.length_nil] at c4
  have cP := rpush_any h (x := 4294967295) (by decide)
  rw [show ((4294967295 : Nat) : Int) = 4294967295 from rfl] at cP
  have fin1 : ∀ w', ¬ 256 ≤ s.ds.length → ROn w0 base w' B { s with ds := 4294967295 :: s.ds } → RQ w0 base B s (exec 44 s) (.returned (.bool true)) w' := fun w' hl h' => RQ.go (s' := { s with ds := 4294967295 :: s.ds, dig := false }) (by
    obtain ⟨smem, spc, sds, scs, sdig, sinp, sout⟩ := s
    dsimp only at hs hl ⊢
    subst hs
    exact if_neg hl) h'
  have fin2 : 256 ≤ s.ds.length → RQ w0 base B s (exec 44 s) (.returned (.bool false)) w := fun hl => RQ.trap (by
    obtain ⟨smem, spc, sds, scs, sdig, sinp, sout⟩ := s
    exact if_pos hl) h.on
  obtain ⟨Q, hQ⟩ : ∃ Q, RQ w0 base B s (exec 44 s) = Q := ⟨_, rfl⟩
  rw [hQ] at fin1 fin2 ⊢
  replace fin1 := Lib.hid fin1
  replace fin2 := Lib.hid fin2
  replace cP := Lib.hid cP
  clear hQ hm hD hs h
  go_enter Try.func21, Try.ntmps21
  go_wp2_with fail
  refine (cP.out).mono ?_
  rintro e w1 (⟨hl, rfl, h'⟩ | ⟨hl, rfl, rfl⟩)
  · have z := Lib.hid (fin1.out _ hl h')
    clear hl h' fin1 fin2 cP
    go_wp2
    first | go_ret | skip
    exact z.out
  · have z := Lib.hid (fin2.out hl)
    clear hl fin1 fin2 cP
    go_wp2
    first | go_ret | skip
    exact z.out
set_option maxHeartbeats 4000000 in
theorem rstep_read_full (h : RA w0 base w B s M D C O IA ic (rowR M D C O IA ic s)) {x : Nat} {l : List Nat} (hs : s.inp = x :: l) (hl : s.ds.length = 256) : Calls Try.prog 21 #[.pointer (some ⟨B, 0, none⟩), .int .u32 44] w (RQ w0 base B s (exec 44 s)) := by
  obtain ⟨pA, cap, hD, _⟩ := own_slice h.ds
  obtain ⟨c2, f2⟩ := h.f (i := 2) (v := D) rfl
  rw [hD] at c2
  obtain ⟨m, hm⟩ : ∃ m, s.ds.length = m := ⟨_, rfl⟩
  rw [hm] at c2
  obtain ⟨c4, f4⟩ := h.f (i := 4) (v := .slice IA s.inp.length ic) rfl
  have hi := h.inp
  rw [hs] at c4 hi
  obtain ⟨b, o, rfl, hx, hrd⟩ := rd_head hi
  simp only [List.length_cons] at c4
  have cP := rpush_bad h hl x
  have fin : RQ w0 base B s (exec 44 s) (.returned (.bool false)) w := RQ.trap (by
    obtain ⟨smem, spc, sds, scs, sdig, sinp, sout⟩ := s
    exact if_pos (show 256 ≤ sds.length by dsimp only at hl; omega)) h.on
  obtain ⟨n, hn⟩ : ∃ n, l.length + 1 = n := ⟨_, rfl⟩
  rw [hn] at c4
  have n2 : ((n : Int) == 0) = false := by simp; omega
  have n3 : (0 : Int) < (n : Int) := by omega
  have n4 : 0 < n := by omega
  obtain ⟨Q, hQ⟩ : ∃ Q, RQ w0 base B s (exec 44 s) = Q := ⟨_, rfl⟩
  rw [hQ] at fin ⊢
  replace fin := Lib.hid fin
  replace cP := Lib.hid cP
  clear hQ hm hD hs hl hn hrd hi h
  go_enter Try.func21, Try.ntmps21
  go_wp2_with fail
  refine (cP.out).mono ?_
  rintro e w1 ⟨rfl, rfl⟩
  go_wp2
  first | go_ret | skip
  exact fin.out
set_option maxHeartbeats 8000000 in
theorem rstep_read_own (h : RA w0 base w B s M D C O IA ic (rowR M D C O IA ic s)) {x : Nat} {l : List Nat} (hs : s.inp = x :: l) (hl : s.ds.length < 256) : Calls Try.prog 21 #[.pointer (some ⟨B, 0, none⟩), .int .u32 44] w (RQ w0 base B s (exec 44 s)) := by
  obtain ⟨pA, cap, hD, _⟩ := own_slice h.ds
  obtain ⟨c2, f2⟩ := h.f (i := 2) (v := D) rfl
  rw [hD] at c2
  obtain ⟨m, hm⟩ : ∃ m, s.ds.length = m := ⟨_, rfl⟩
  rw [hm] at c2
  obtain ⟨c4, f4⟩ := h.f (i := 4) (v := .slice IA s.inp.length ic) rfl
  have hi := h.inp
  have hle := h.ile
  have hcm := h.icm
  have hin := h.ok.inp
  rw [hs] at c4 hi hle hin
  obtain ⟨b, o, rfl, hx, hrd⟩ := rd_head hi
  have hlow := h.low _ rfl (by rw [hs]; simp [us])
  simp only [List.length_cons] at c4 hle
  have cP := rpush_own h hl (hin x (by simp))
  have cG : ∀ (w' : World) D', RA w0 base w' B { s with ds := x :: s.ds } M D' C O (some ⟨b, o, none⟩) ic (rowR M D' C O (some ⟨b, o, none⟩) ic { s with ds := x :: s.ds }) → (w'.cell? ⟨B, 4, none⟩ = some (.slice (some ⟨b, o, none⟩) (l.length + 1) ic) ∧ w'.frozen? ⟨B, 4, none⟩ = false) ∧
      ∀ IA', (∀ a : Addr, IA' = some a → a.block < base) → (l ≠ [] → IA' = some ⟨b, o + 1, none⟩) → (IA' = none → ic - 1 = 0) → RQ w0 base B s (exec 44 s) (.returned (.bool true)) (w'.setCell ⟨B, 4, none⟩ (.slice IA' l.length (ic - 1))) := fun w' D' h' => by
    obtain ⟨e1, e2⟩ := h'.f (i := 4) (v := .slice (some ⟨b, o, none⟩) s.inp.length ic) rfl
    rw [hs] at e1
    refine ⟨⟨e1, e2⟩, fun IA' q1 q2 q3 => ?_⟩
    refine RQ.go (s' := { s with ds := x :: s.ds, inp := l, dig := false }) ?_ (RA.on (RA.field (i := 4) (v := .slice IA' l.length (ic - 1)) (h'.stI (l := l) ?_ (fun a e _ => q1 a e) (by omega) (by omega) q3 (fun y hy => hin y (List.mem_cons_of_mem _ hy)))))
    · clear h' e1 e2 cP
      obtain ⟨smem, spc, sds, scs, sdig, sinp, sout⟩ := s
      dsimp only at hs hl ⊢
      subst hs
      exact if_neg (show ¬ 256 ≤ sds.length by omega)
    · rcases l with _ | ⟨y, l⟩
      · exact fun j hj => absurd hj (by simp [us])
      · rw [q2 (by simp)]
        have hi' := h'.inp
        rw [show ({ s with ds := x :: s.ds } : St).inp = s.inp from rfl, hs] at hi'
        obtain ⟨b', o', e', _, hrd'⟩ := rd_head hi'
        cases e'
        exact hrd'
  obtain ⟨n, hn⟩ : ∃ n, l.length = n := ⟨_, rfl⟩
  obtain ⟨mm, hmm⟩ : ∃ m, l.length + 1 = m := ⟨_, rfl⟩
  simp only [hmm] at cG
  rw [hmm] at c4 hle
  simp only [hn] at cG
  have n1 : mm - 1 = n := by omega
  have n2 : ((mm : Int) == 0) = false := by simp; omega
  have n3 : (0 : Int) < (mm : Int) := by omega
  have n4 : 0 < mm := by omega
  have n5 : (1 : Int) ≤ (mm : Int) := by omega
  have n6 : 1 ≤ mm := by omega
  have n7 : (mm : Int) ≤ (ic : Int) := by omega
  replace cP := Lib.hid cP
  obtain ⟨Q, hQ⟩ : ∃ Q, RQ w0 base B s (exec 44 s) = Q := ⟨_, rfl⟩
  simp only [hQ] at cG
  rw [hQ]
  replace cG := Lib.hid cG
  have hne : ic = 1 → ¬ l ≠ [] := fun hc e => e (List.eq_nil_of_length_eq_zero (by omega))
  clear hQ hm hD hs hl hrd hi hin h
  go_enter Try.func21, Try.ntmps21
  go_wp2_with fail
  refine (cP.out).mono ?_
  rintro e w1 ⟨rfl, D', h'⟩
  obtain ⟨⟨z1, z2⟩, z3⟩ := cG.out w1 D' h'
  clear h' cG cP hx c4 f4
  by_cases hc : ic = 1
  · have fin := Lib.hid (z3 (some ⟨b, o, none⟩) (fun a e => by cases e; exact hlow) (fun e => absurd e (hne hc)) (fun e => by cases e))
    obtain rfl : mm = 1 := by omega
    obtain rfl : n = 0 := by omega
    subst hc
    clear z3 hlow hn hmm hne
    go_wp2
    first | go_ret | skip
    exact fin.out
  · have fin := Lib.hid (z3 (some ⟨b, o + 1, none⟩) (fun a e => by cases e; exact hlow) (fun _ => rfl) (fun e => by cases e))
    clear z3 hlow hn hmm hne
    go_wp2
    first | go_ret | skip
    exact fin.out
set_option maxHeartbeats 8000000 in
theorem rstep_write_own (h : RA w0 base w B s M D C O IA ic (rowR M D C O IA ic s)) {a : Nat} {r : List Nat} (hs : s.ds = a :: r) (hol : s.out.length ≤ 1000000000) : Calls Try.prog 21 #[.pointer (some ⟨B, 0, none⟩), .int .u32 46] w (RQ w0 base B s (exec 46 s)) := by
  obtain ⟨g, cap, rfl, h1, h2, hx, fx, hp, hset⟩ := h.top hs
  obtain ⟨c2, f2⟩ := h.f (i := 2) (v := .slice (some ⟨g, 0, none⟩) (r.length + 1) cap) rfl
  obtain ⟨pO, oc, hO, _⟩ := own_slice h.out
  obtain ⟨c5, f5⟩ := h.f (i := 5) (v := O) rfl
  rw [hO] at c5
  obtain ⟨y, hy⟩ : ∃ y : UInt8, UInt8.ofNat a = y := ⟨_, rfl⟩
  have ey : (a : Int) % 256 = (y.toNat : Int) := by rw [← hy]; simp
  have ey2 : IntKind.u8.wrap (a : Int) = (y.toNat : Int) := by rw [IntKind.wrap_u8]; exact ey
  have hat := (hp.drew).alloc (.cells #[.int .u8 (y.toNat : Int)] 5)
  have cG : ∀ (W4 : World) (O' : Value), W4.ownsRow base 5 1 O' (s.out.length + 1) (bys s.out ++ [.int .u8 (y.toNat : Int)]) → (w.drew.alloc (.cells #[.int .u8 (y.toNat : Int)] 5)).grownBy W4 O.ownBlock →
      (W4.frozen? ⟨B, 5, none⟩ = false ∧ ∃ u, W4.cell? ⟨B, 5, none⟩ = some u) ∧ ((W4.setCell ⟨B, 5, none⟩ O').cell? ⟨B, 2, none⟩ = some (.slice (some ⟨g, 0, none⟩) (r.length + 1) cap) ∧ (W4.setCell ⟨B, 5, none⟩ O').frozen? ⟨B, 2, none⟩ = false) ∧
      RQ w0 base B s (exec 46 s) (.returned (.bool true)) ((W4.setCell ⟨B, 5, none⟩ O').setCell ⟨B, 2, none⟩ (.slice (some ⟨g, 0, none⟩) r.length cap)) := fun W4 O' q1 q2 => by
    have h4 := hat.swapO (l := s.out ++ [y]) q2 (by rw [List.length_append, bys_snoc]; exact q1)
    have h5 := h4.field 5 O'
    refine ⟨⟨h4.blk.frz 5, _, h4.blk.cell 5⟩, ⟨h5.blk.cell 2, h5.blk.frz 2⟩, RQ.go (s' := { s with ds := r, out := s.out ++ [y], dig := false }) ?_ (RA.on (h5.field 2 _))⟩
    clear h4 h5 hat
    obtain ⟨smem, spc, sds, scs, sdig, sinp, sout⟩ := s
    dsimp only at hs hy ⊢
    subst hs
    subst hy
    rfl
  have hown := hat.out
  have hbw := hat.bw
  have c5a : (w.alloc (.cells #[.int .u8 (y.toNat : Int)] 5)).cell? ⟨B, 5, none⟩ = some O := hat.blk.cell 5
  obtain ⟨n, hn⟩ : ∃ n, r.length = n := ⟨_, rfl⟩
  obtain ⟨m, hm⟩ : ∃ m, r.length + 1 = m := ⟨_, rfl⟩
  rw [hm] at c2 h1
  rw [hn] at hx fx
  have e1 : (m : Int) - 1 = (n : Int) := by omega
  have n0 : (0 : Int) ≤ (n : Int) := by omega
  have n1 : (n : Int) < (m : Int) := by omega
  have n2 : n < m := by omega
  have n3 : n ≤ cap := by omega
  have n4 : (n : Int) ≤ (cap : Int) := by omega
  have n5 : decide ((m : Int) < 1) = false := decide_eq_false (by omega)
  have n6 : (m : Int) ≤ 256 := by have := h.ok.dl; rw [hs] at this; simp only [List.length_cons] at this; omega
  have n7 : IntKind.i64.wrap (n : Int) = (n : Int) := by rw [IntKind.wrap_i64]; omega
  obtain ⟨on, hon⟩ : ∃ on, s.out.length = on := ⟨_, rfl⟩
  obtain ⟨xs, hxs⟩ : ∃ xs, bys s.out = xs := ⟨_, rfl⟩
  obtain ⟨Q, hQ⟩ : ∃ Q, RQ w0 base B s (exec 46 s) = Q := ⟨_, rfl⟩
  have hOb : O.ownBlock = (Value.slice pO on oc).ownBlock := by rw [hO, hon]
  rw [hon] at c5 hO hol
  rw [hO] at c5a
  simp only [hon, hxs, hm, hn, hQ, hOb] at cG
  rw [hO] at hown
  dsimp only at hown
  rw [hon, hxs] at hown
  rw [hQ]
  replace cG := Lib.hid cG
  replace hown := Lib.hid hown
  replace hbw := Lib.hid hbw
  clear hQ hset hp hs hn hm hO hOb hon hxs hy hat h2 h
  go_enter Try.func21, Try.ntmps21
  go_wp2_with fail
  go_region_law (refine step_app1 (by rfl) _ _ (by rfl) base (.slice pO on oc) on xs _ (.int .u8 (y.toNat : Int)) (by rfl) hown.out (by rfl) (by exact one_new w _ _ 0 _ rfl) rfl hol hbw.out ?_; intro O' w4 q1 q2; obtain ⟨⟨z1, u1, z2⟩, ⟨y1, y2⟩, fin⟩ := cG.out w4 O' q1 q2; replace fin := Lib.hid fin; obtain ⟨pA', cap', rfl, _⟩ := own_slice q1; clear q1 q2)
  all_goals (
    go_wp2
    first | go_ret | skip
    exact fin.out)
theorem rexec_other {c : Nat} (hd : ¬ (48 ≤ c ∧ c ≤ 57)) (h36 : ¬ c = 36) (h32 : ¬ c = 32) (h10 : ¬ c = 10) (h43 : ¬ c = 43) (h45 : ¬ c = 45) (h42 : ¬ c = 42) (h47 : ¬ c = 47) (h37 : ¬ c = 37) (h94 : ¬ c = 94) (h60 : ¬ c = 60) (h64 : ¬ c = 64) (h33 : ¬ c = 33) (h63 : ¬ c = 63) (h58 : ¬ c = 58) (h59 : ¬ c = 59) (h44 : ¬ c = 44) (h46 : ¬ c = 46) (s : St) : exec c s = .trap := by
  obtain ⟨mem, pc, ds, cs, dig, inp, out⟩ := s
  unfold exec
  rw [if_neg hd, if_neg (fun e => e.elim h32 h10), if_neg h36, if_neg h64, if_neg h58, if_neg h59, if_neg h44, if_neg h46]
  rcases ds with _ | ⟨b, _ | ⟨a, r⟩⟩
  · rfl
  · rfl
  · show (if c = 33 then _ else _) = _
    rw [if_neg h33, if_neg h63]
    have : op2 c a b = none := by
      unfold op2
      rw [if_neg h43, if_neg h45, if_neg h42, if_neg h47, if_neg h37, if_neg h94, if_neg h60]
    rw [this]
set_option maxHeartbeats 8000000 in
theorem rstep_other (h : RA w0 base w B s M D C O IA ic (rowR M D C O IA ic s)) {c : Nat} (hd : ¬ (48 ≤ c ∧ c ≤ 57)) (h36 : ¬ c = 36) (h32 : ¬ c = 32) (h10 : ¬ c = 10) (h43 : ¬ c = 43) (h45 : ¬ c = 45) (h42 : ¬ c = 42) (h47 : ¬ c = 47) (h37 : ¬ c = 37) (h94 : ¬ c = 94) (h60 : ¬ c = 60) (h64 : ¬ c = 64) (h33 : ¬ c = 33) (h63 : ¬ c = 63) (h58 : ¬ c = 58) (h59 : ¬ c = 59) (h44 : ¬ c = 44) (h46 : ¬ c = 46) : Calls Try.prog 21 #[.pointer (some ⟨B, 0, none⟩), .int .u32 (c : Int)] w (RQ w0 base B s (exec c s)) := by
  obtain ⟨pA, cap, hD, _⟩ := own_slice h.ds
  obtain ⟨c2, f2⟩ := h.f (i := 2) (v := D) rfl
  rw [hD] at c2
  obtain ⟨m, hm⟩ : ∃ m, s.ds.length = m := ⟨_, rfl⟩
  rw [hm] at c2
  have fin : RQ w0 base B s (exec c s) (.returned (.bool false)) w := RQ.trap (rexec_other hd h36 h32 h10 h43 h45 h42 h47 h37 h94 h60 h64 h33 h63 h58 h59 h44 h46 s) h.on
  obtain ⟨Q, hQ⟩ : ∃ Q, RQ w0 base B s (exec c s) = Q := ⟨_, rfl⟩
  rw [hQ] at fin ⊢
  replace fin := Lib.hid fin
  have hk : ∀ n : Nat, ¬ c = n → ((c : Int) == (n : Int)) = false := fun n hn => by
    have : ¬ (c : Int) = (n : Int) := by omega
    simpa using this
  have t32 : ((c : Int) == 32) = false := hk 32 h32
  have t10 : ((c : Int) == 10) = false := hk 10 h10
  have t43 : ((c : Int) == 43) = false := hk 43 h43
  have t45 : ((c : Int) == 45) = false := hk 45 h45
  have t42 : ((c : Int) == 42) = false := hk 42 h42
  have t47 : ((c : Int) == 47) = false := hk 47 h47
  have t37 : ((c : Int) == 37) = false := hk 37 h37
  have t94 : ((c : Int) == 94) = false := hk 94 h94
  have t60 : ((c : Int) == 60) = false := hk 60 h60
  have t64 : ((c : Int) == 64) = false := hk 64 h64
  have t33 : ((c : Int) == 33) = false := hk 33 h33
  have t63 : ((c : Int) == 63) = false := hk 63 h63
  have t58 : ((c : Int) == 58) = false := hk 58 h58
  have t59 : ((c : Int) == 59) = false := hk 59 h59
  have t44 : ((c : Int) == 44) = false := hk 44 h44
  have t46 : ((c : Int) == 46) = false := hk 46 h46
  clear hk
  by_cases d1 : 48 ≤ c
  · have k1 : decide (48 ≤ (c : Int)) = true := decide_eq_true (by omega)
    have k2 : decide ((c : Int) ≤ 57) = false := decide_eq_false (by omega)
    clear hQ hm hD hd h36 h32 h10 h43 h45 h42 h47 h37 h94 h60 h64 h33 h63 h58 h59 h44 h46 h d1
    go_enter Try.func21, Try.ntmps21
    go_wp2
    first | go_ret | skip
    exact fin.out
  · have k1 : decide (48 ≤ (c : Int)) = false := decide_eq_false (by omega)
    clear hQ hm hD hd h36 h32 h10 h43 h45 h42 h47 h37 h94 h60 h64 h33 h63 h58 h59 h44 h46 h d1
    go_enter Try.func21, Try.ntmps21
    go_wp2
    first | go_ret | skip
    exact fin.out
/-- The reference's step does what the plain machine's instruction does. -/
theorem rstep_any (h : RA w0 base w B s M D C O IA ic (rowR M D C O IA ic s)) (hdg : Dg s) (hol : s.out.length ≤ 1000000000) (c : Nat) (h36 : ¬ c = 36) : Calls Try.prog 21 #[.pointer (some ⟨B, 0, none⟩), .int .u32 (c : Int)] w (RQ w0 base B s (exec c s)) := by
  by_cases hd : 48 ≤ c ∧ c ≤ 57
  · cases hg : s.dig with
    | false => exact rstep_off h hg hd
    | true =>
      cases hs : s.ds with
      | nil => exact absurd hs (hdg hg)
      | cons t r => exact rstep_on h hg hs hd
  by_cases h32 : c = 32
  · subst h32; exact rstep_space h
  by_cases h10 : c = 10
  · subst h10; exact rstep_feed h
  by_cases h43 : c = 43 ∨ c = 45 ∨ c = 42 ∨ c = 47 ∨ c = 37 ∨ c = 94 ∨ c = 60
  · match hs : s.ds with
    | [] => exact rstep_short h (by rw [hs]; decide) (by omega)
    | [_] => exact rstep_short h (by rw [hs]; simp) (by omega)
    | b :: a :: r => exact rstep_two h hs h43
  by_cases h64 : c = 64
  · subst h64
    cases hs : s.ds with
    | nil => exact rstep_load_none h hs
    | cons a r =>
      by_cases ha : a < 262144
      · exact rstep_load_own h hs ha
      · exact rstep_load_bad h hs (by omega)
  by_cases h33 : c = 33
  · subst h33
    match hs : s.ds with
    | [] => exact rstep_short h (by rw [hs]; decide) (by omega)
    | [_] => exact rstep_short h (by rw [hs]; simp) (by omega)
    | b :: a :: r =>
      by_cases hb : b < 262144
      · exact rstep_put_own h hs hb
      · exact rstep_put_bad h hs (by omega)
  by_cases h63 : c = 63
  · subst h63
    match hs : s.ds with
    | [] => exact rstep_short h (by rw [hs]; decide) (by omega)
    | [_] => exact rstep_short h (by rw [hs]; simp) (by omega)
    | b :: a :: r =>
      by_cases ha : a = 0
      · exact rstep_jump_yes h hs ha
      · exact rstep_jump_no h hs ha
  by_cases h58 : c = 58
  · subst h58
    cases hs : s.ds with
    | nil => exact rstep_call_none h hs
    | cons a r =>
      by_cases hl : s.cs.length < 64
      · exact rstep_call_own h hs hl
      · exact rstep_call_full h hs (by have := h.ok.cl; omega)
  by_cases h59 : c = 59
  · subst h59
    cases hs : s.cs with
    | nil => exact rstep_ret_none h hs
    | cons a r => exact rstep_ret_own h hs
  by_cases h44 : c = 44
  · subst h44
    cases hs : s.inp with
    | nil => exact rstep_read_end h hs
    | cons x l =>
      by_cases hl : s.ds.length < 256
      · exact rstep_read_own h hs hl
      · exact rstep_read_full h hs (by have := h.ok.dl; omega)
  by_cases h46 : c = 46
  · subst h46
    cases hs : s.ds with
    | nil => exact rstep_write_none h hs
    | cons a r => exact rstep_write_own h hs hol
  exact rstep_other h hd h36 h32 h10 (by omega) (by omega) (by omega) (by omega) (by omega) (by omega) (by omega) h64 h33 h63 h58 h59 h44 h46
end
end Go.Proofs.Ytfdlgdgjbfoogaa.M17
