/- The reference's step of layer 17: digits, blanks, signs. -/
import Derived.Test.YtfdlgdgjbfoogaaM17RefP
import Derived.StillTail
import Derived.StillTailTactics
import Derived.Deep.RegionLaw
import Derived.Deep.RegionWith
import Derived.Deep.QuietTactic
namespace Go.Proofs.Ytfdlgdgjbfoogaa.M17
set_option maxRecDepth 100000
open Go.RowKit Mem
set_option linter.unusedVariables false
set_option linter.unusedSimpArgs false

section
variable {w0 w : World} {base B M ic : Nat} {s : St} {D C O : Value} {IA : Option Addr} {vs : List Value}
set_option maxHeartbeats 4000000 in
theorem rstep_on (h : RA w0 base w B s M D C O IA ic (rowR M D C O IA ic s)) (hdg : s.dig = true) {t : Nat} {r : List Nat} (hs : s.ds = t :: r) {c : Nat} (hc : 48 ≤ c ∧ c ≤ 57) : Calls Try.prog 21 #[.pointer (some ⟨B, 0, none⟩), .int .u32 (c : Int)] w (RQ w0 base B s (exec c s)) := by
  obtain ⟨g, cap, rfl, h1, h2, hx, fx, hp, hset⟩ := h.top hs
  obtain ⟨c2, f2⟩ := h.f (i := 2) (v := .slice (some ⟨g, 0, none⟩) (r.length + 1) cap) rfl
  obtain ⟨c6, _⟩ := h.f (i := 6) (v := .bool s.dig) rfl
  rw [hdg] at c6
  obtain ⟨v, hv⟩ : ∃ v, (t * 10 + (c - 48)) % 4294967296 = v := ⟨_, rfl⟩
  have hvl : v < 4294967296 := by omega
  have ht := h.ok.ds t (by rw [hs]; simp)
  obtain ⟨T, hT⟩ : ∃ T, t * 10 % 4294967296 = T := ⟨_, rfl⟩
  obtain ⟨U, hU⟩ : ∃ U, (T + c) % 4294967296 = U := ⟨_, rfl⟩
  have a1 : ((t : Int) * 10) % 4294967296 = (T : Int) := by omega
  have a2 : ((T : Int) + (c : Int)) % 4294967296 = (U : Int) := by omega
  have a3 : ((U : Int) - 48) % 4294967296 = (v : Int) := by omega
  have a4 : IntKind.u32.wrap ((t : Int) * 10) = (T : Int) := by rw [IntKind.wrap_u32]; exact a1
  have a5 : IntKind.u32.wrap ((T : Int) + (c : Int)) = (U : Int) := by rw [IntKind.wrap_u32]; exact a2
  have a6 : IntKind.u32.wrap ((U : Int) - 48) = (v : Int) := by rw [IntKind.wrap_u32]; exact a3
  have k1 : decide (48 ≤ (c : Int)) = true := decide_eq_true (by omega)
  have k2 : decide ((c : Int) ≤ 57) = true := decide_eq_true (by omega)
  have fin : RQ w0 base B s (exec c s) (.returned (.bool true)) (w.drew.setCell ⟨g, r.length, none⟩ (.int .u32 (v : Int))) := RQ.go (s' := { s with ds := v :: r }) (by unfold exec; rw [if_pos hc, hdg, hs]; simp only [if_true, hv]) (RA.on ((hset v hvl).drew))
  obtain ⟨n, hn⟩ : ∃ n, r.length = n := ⟨_, rfl⟩
  obtain ⟨m, hm⟩ : ∃ m, r.length + 1 = m := ⟨_, rfl⟩
  rw [hm] at c2 h1
  rw [hn] at hx fx
  have e1 : (m : Int) - 1 = (n : Int) := by omega
  have n0 : (0 : Int) ≤ (n : Int) := by omega
  have n1 : (n : Int) < (m : Int) := by omega
  have n2 : n < m := by omega
  have n3 : n ≤ cap := by omega
  have n4 : (n : Int) ≤ (cap : Int) := by omega
  have n5 : decide ((m : Int) < 1) = false := decide_eq_false (by omega)
  have n6 : (m : Int) ≤ 256 := by have := h.ok.dl; rw [hs] at this; simp only [List.length_cons] at this; omega
  have n7 : IntKind.i64.wrap (n : Int) = (n : Int) := by rw [IntKind.wrap_i64]; omega
  rw [hn] at fin
  obtain ⟨Q, hQ⟩ : ∃ Q, RQ w0 base B s (exec c s) = Q := ⟨_, rfl⟩
  rw [hQ] at fin ⊢
  replace fin := Lib.hid fin
  clear hQ hset hp hs hn hm hv hvl ht hT hU hdg h2 hc h
  go_enter Try.func21, Try.ntmps21
  go_wp2_with fail
  refine wp_region_still_tail 19 (by kernel_rfl) (by kernel_rfl) ?_
  simp only [List.take_succ_cons, List.take_zero, List.drop_succ_cons, List.drop_zero]
  repeat still_step
  refine wpStill_nil ?_
  change wpList _ _ _ _ _ w.drew
  go_wp2
  first | go_ret | skip
  exact fin.out
set_option maxHeartbeats 4000000 in
theorem rstep_off (h : RA w0 base w B s M D C O IA ic (rowR M D C O IA ic s)) (hdg : s.dig = false) {c : Nat} (hc : 48 ≤ c ∧ c ≤ 57) : Calls Try.prog 21 #[.pointer (some ⟨B, 0, none⟩), .int .u32 (c : Int)] w (RQ w0 base B s (exec c s)) := by
  obtain ⟨pA, cap, hD, _⟩ := own_slice h.ds
  obtain ⟨c2, f2⟩ := h.f (i := 2) (v := D) rfl
  rw [hD] at c2
  obtain ⟨m, hm⟩ : ∃ m, s.ds.length = m := ⟨_, rfl⟩
  rw [hm] at c2
  obtain ⟨c6, _⟩ := h.f (i := 6) (v := .bool s.dig) rfl
  rw [hdg] at c6
  obtain ⟨d, hd⟩ : ∃ d, c - 48 = d := ⟨_, rfl⟩
  have cP := rpush_any h (x := d) (by omega)
  have a1 : ((c : Int) - 48) % 4294967296 = (d : Int) := by omega
  have a2 : (c : Int) - 48 = (d : Int) := by omega
  have k1 : decide (48 ≤ (c : Int)) = true := decide_eq_true (by omega)
  have k2 : decide ((c : Int) ≤ 57) = true := decide_eq_true (by omega)
  have fin1 : ∀ w', ¬ 256 ≤ s.ds.length → ROn w0 base w' B { s with ds := d :: s.ds } → RQ w0 base B s (exec c s) (.returned (.bool true)) w' := fun w' hl h' => RQ.go (s' := { s with ds := d :: s.ds, dig := true }) (by unfold exec; rw [if_pos hc, hdg, hd]; simp only [Bool.false_eq_true, if_false]; rw [if_neg hl]) h'
  have fin2 : 256 ≤ s.ds.length → RQ w0 base B s (exec c s) (.returned (.bool false)) w := fun hl => RQ.trap (by unfold exec; rw [if_pos hc, hdg]; simp only [Bool.false_eq_true, if_false]; rw [if_pos hl]) h.on
  obtain ⟨Q, hQ⟩ : ∃ Q, RQ w0 base B s (exec c s) = Q := ⟨_, rfl⟩
  rw [hQ] at fin1 fin2 ⊢
  replace fin1 := Lib.hid fin1
  replace fin2 := Lib.hid fin2
  replace cP := Lib.hid cP
  clear hQ hm hD hd hdg hc h
  go_enter Try.func21, Try.ntmps21
  go_wp2_with fail
  refine (cP.out).mono ?_
  rintro e w1 (⟨hl, rfl, h'⟩ | ⟨hl, rfl, rfl⟩)
  · have z := Lib.hid (fin1.out _ hl h')
    clear hl h' fin1 fin2 cP
    go_wp2
    first | go_ret | skip
    exact z.out
  · have z := Lib.hid (fin2.out hl)
    clear hl fin1 fin2 cP
    go_wp2
    first | go_ret | skip
    exact z.out
set_option maxHeartbeats 4000000 in
theorem rstep_space (h : RA w0 base w B s M D C O IA ic (rowR M D C O IA ic s)) : Calls Try.prog 21 #[.pointer (some ⟨B, 0, none⟩), .int .u32 32] w (RQ w0 base B s (exec 32 s)) := by
  obtain ⟨pA, cap, hD, _⟩ := own_slice h.ds
  obtain ⟨c2, f2⟩ := h.f (i := 2) (v := D) rfl
  rw [hD] at c2
  obtain ⟨m, hm⟩ : ∃ m, s.ds.length = m := ⟨_, rfl⟩
  rw [hm] at c2
  have fin : RQ w0 base B s (exec 32 s) (.returned (.bool true)) w := RQ.go (s' := { s with dig := false }) rfl h.on
  obtain ⟨Q, hQ⟩ : ∃ Q, RQ w0 base B s (exec 32 s) = Q := ⟨_, rfl⟩
  rw [hQ] at fin ⊢
  replace fin := Lib.hid fin
  clear hQ hm hD h
  go_enter Try.func21, Try.ntmps21
  go_wp2
  first | go_ret | skip
  exact fin.out
set_option maxHeartbeats 4000000 in
theorem rstep_feed (h : RA w0 base w B s M D C O IA ic (rowR M D C O IA ic s)) : Calls Try.prog 21 #[.pointer (some ⟨B, 0, none⟩), .int .u32 10] w (RQ w0 base B s (exec 10 s)) := by
  obtain ⟨pA, cap, hD, _⟩ := own_slice h.ds
  obtain ⟨c2, f2⟩ := h.f (i := 2) (v := D) rfl
  rw [hD] at c2
  obtain ⟨m, hm⟩ : ∃ m, s.ds.length = m := ⟨_, rfl⟩
  rw [hm] at c2
  have fin : RQ w0 base B s (exec 10 s) (.returned (.bool true)) w := RQ.go (s' := { s with dig := false }) rfl h.on
  obtain ⟨Q, hQ⟩ : ∃ Q, RQ w0 base B s (exec 10 s) = Q := ⟨_, rfl⟩
  rw [hQ] at fin ⊢
  replace fin := Lib.hid fin
  clear hQ hm hD h
  go_enter Try.func21, Try.ntmps21
  go_wp2
  first | go_ret | skip
  exact fin.out
theorem rexec_two_short {c : Nat} (h : c = 43 ∨ c = 45 ∨ c = 42 ∨ c = 47 ∨ c = 37 ∨ c = 94 ∨ c = 60 ∨ c = 33 ∨ c = 63) (s : St) (hl : s.ds.length < 2) : exec c s = .trap := by
  obtain ⟨mem, pc, ds, cs, dig, inp, out⟩ := s
  match ds, hl with
  | [], _ => rcases h with rfl | rfl | rfl | rfl | rfl | rfl | rfl | rfl | rfl <;> rfl
  | [_], _ => rcases h with rfl | rfl | rfl | rfl | rfl | rfl | rfl | rfl | rfl <;> rfl
theorem rexec_two {c : Nat} (h : c = 43 ∨ c = 45 ∨ c = 42 ∨ c = 47 ∨ c = 37 ∨ c = 94 ∨ c = 60) (s : St) {a b : Nat} {r : List Nat} (hs : s.ds = b :: a :: r) : exec c s = match op2 c a b with | none => .trap | some v => .go { s with ds := v :: r, dig := false } := by
  obtain ⟨mem, pc, ds, cs, dig, inp, out⟩ := s
  dsimp only at hs
  subst hs
  rcases h with rfl | rfl | rfl | rfl | rfl | rfl | rfl <;> rfl
set_option maxHeartbeats 16000000 in
theorem rstep_short (h : RA w0 base w B s M D C O IA ic (rowR M D C O IA ic s)) (hl : s.ds.length < 2) {c : Nat} (hc : c = 43 ∨ c = 45 ∨ c = 42 ∨ c = 47 ∨ c = 37 ∨ c = 94 ∨ c = 60 ∨ c = 33 ∨ c = 63) : Calls Try.prog 21 #[.pointer (some ⟨B, 0, none⟩), .int .u32 (c : Int)] w (RQ w0 base B s (exec c s)) := by
  obtain ⟨pA, cap, hD, _⟩ := own_slice h.ds
  obtain ⟨c2, f2⟩ := h.f (i := 2) (v := D) rfl
  rw [hD] at c2
  obtain ⟨m, hm⟩ : ∃ m, s.ds.length = m := ⟨_, rfl⟩
  rw [hm] at c2
  have n1 : decide ((m : Int) < 2) = true := decide_eq_true (by omega)
  have fin : RQ w0 base B s (exec c s) (.returned (.bool false)) w := RQ.trap (rexec_two_short hc s hl) h.on
  obtain ⟨Q, hQ⟩ : ∃ Q, RQ w0 base B s (exec c s) = Q := ⟨_, rfl⟩
  rw [hQ] at fin ⊢
  replace fin := Lib.hid fin
  clear hQ hm hD h hl
  rcases hc with rfl | rfl | rfl | rfl | rfl | rfl | rfl | rfl | rfl
  · rw [show ((43 : Nat) : Int) = 43 from rfl]
    go_enter Try.func21, Try.ntmps21
    go_wp2
    first | go_ret | skip
    exact fin.out
  · rw [show ((45 : Nat) : Int) = 45 from rfl]
    go_enter Try.func21, Try.ntmps21
    go_wp2
    first | go_ret | skip
    exact fin.out
  · rw [show ((42 : Nat) : Int) = 42 from rfl]
    go_enter Try.func21, Try.ntmps21
    go_wp2
    first | go_ret | skip
    exact fin.out
  · rw [show ((47 : Nat) : Int) = 47 from rfl]
    go_enter Try.func21, Try.ntmps21
    go_wp2
    first | go_ret | skip
    exact fin.out
  · rw [show ((37 : Nat) : Int) = 37 from rfl]
    go_enter Try.func21, Try.ntmps21
    go_wp2
    first | go_ret | skip
    exact fin.out
  · rw [show ((94 : Nat) : Int) = 94 from rfl]
    go_enter Try.func21, Try.ntmps21
    go_wp2
    first | go_ret | skip
    exact fin.out
  · rw [show ((60 : Nat) : Int) = 60 from rfl]
    go_enter Try.func21, Try.ntmps21
    go_wp2
    first | go_ret | skip
    exact fin.out
  · rw [show ((33 : Nat) : Int) = 33 from rfl]
    go_enter Try.func21, Try.ntmps21
    go_wp2
    first | go_ret | skip
    exact fin.out
  · rw [show ((63 : Nat) : Int) = 63 from rfl]
    go_enter Try.func21, Try.ntmps21
    go_wp2
    first | go_ret | skip
    exact fin.out
theorem info_u32r : (Try.prog.info? 36).map (fun i => (i.zero, i.size, i.bytes)) = some (some (.int .u32 0), 1, 4) := by kernel_rfl
set_option maxHeartbeats 16000000 in
theorem rstep_two (h : RA w0 base w B s M D C O IA ic (rowR M D C O IA ic s)) {a b : Nat} {r : List Nat} (hs : s.ds = b :: a :: r) {c : Nat} (hc : c = 43 ∨ c = 45 ∨ c = 42 ∨ c = 47 ∨ c = 37 ∨ c = 94 ∨ c = 60) : Calls Try.prog 21 #[.pointer (some ⟨B, 0, none⟩), .int .u32 (c : Int)] w (RQ w0 base B s (exec c s)) := by
  obtain ⟨g, cap, rfl, h1, h2, hx, fx, hp1, hset1⟩ := h.top hs
  obtain ⟨g', cap', e', h1', h2', hy, fy, hp, hset⟩ := hp1.top rfl
  cases e'
  obtain ⟨c2, f2⟩ := h.f (i := 2) (v := .slice (some ⟨g, 0, none⟩) (r.length + 1 + 1) cap) rfl
  have hb : b < 4294967296 := h.ok.ds b (by rw [hs]; simp)
  have ha : a < 4294967296 := h.ok.ds a (by rw [hs]; simp)
  have cO := fun W => roperate_any c a b hc ha hb W
  have hex := rexec_two hc s hs
  obtain ⟨p, hp0⟩ : ∃ p, r.length = p := ⟨_, rfl⟩
  obtain ⟨n, hn⟩ : ∃ n, r.length + 1 = n := ⟨_, rfl⟩
  obtain ⟨m, hm⟩ : ∃ m, r.length + 1 + 1 = m := ⟨_, rfl⟩
  simp only [List.length_cons] at hx fx h1
  rw [hm] at c2 h1
  rw [hn] at hx fx
  rw [hp0] at hy fy
  have e1 : (m : Int) - 1 = (n : Int) := by omega
  have e2 : (m : Int) - 2 = (p : Int) := by omega
  have n0 : (0 : Int) ≤ (n : Int) := by omega
  have n1 : (n : Int) < (m : Int) := by omega
  have n2 : n < m := by omega
  have p0 : (0 : Int) ≤ (p : Int) := by omega
  have p1 : (p : Int) < (m : Int) := by omega
  have p2 : p < m := by omega
  have p3 : p ≤ cap := by omega
  have p4 : (p : Int) ≤ (cap : Int) := by omega
  have n5 : decide ((m : Int) < 2) = false := decide_eq_false (by omega)
  have n6 : (m : Int) ≤ 256 := by have := h.ok.dl; rw [hs] at this; simp only [List.length_cons] at this; omega
  have n7 : IntKind.i64.wrap (n : Int) = (n : Int) := by rw [IntKind.wrap_i64]; omega
  have n8 : IntKind.i64.wrap (p : Int) = (p : Int) := by rw [IntKind.wrap_i64]; omega
  cases ho : op2 c a b with
  | none =>
    rw [opV_none ho] at cO
    have fin : ∀ n, RQ w0 base B s (exec c s) (.returned (.bool false)) (w.drewN n) := fun n => RQ.trap (by rw [hex, ho]) (h.drewN n).on
    obtain ⟨Q, hQ⟩ : ∃ Q, RQ w0 base B s (exec c s) = Q := ⟨_, rfl⟩
    rw [hQ] at fin ⊢
    replace fin := Lib.hid fin
    replace cO := Lib.hid cO
    clear hQ hset hset1 hp hp1 hs hn hm hp0 ho hex ha hb h2 h2' h1' h
    rcases hc with rfl | rfl | rfl | rfl | rfl | rfl | rfl
    · rw [show ((43 : Nat) : Int) = 43 from rfl] at cO ⊢
      go_enter Try.func21, Try.ntmps21
      go_wp2_with fail
      go_quiet ((go_at_call 32; exact Calls.quiet_of_same (cO.out _)))
      go_wp2
      first | go_ret | skip
      exact fin.out nq
    · rw [show ((45 : Nat) : Int) = 45 from rfl] at cO ⊢
      go_enter Try.func21, Try.ntmps21
      go_wp2_with fail
      go_quiet ((go_at_call 32; exact Calls.quiet_of_same (cO.out _)))
      go_wp2
      first | go_ret | skip
      exact fin.out nq
    · rw [show ((42 : Nat) : Int) = 42 from rfl] at cO ⊢
      go_enter Try.func21, Try.ntmps21
      go_wp2_with fail
      go_quiet ((go_at_call 32; exact Calls.quiet_of_same (cO.out _)))
      go_wp2
      first | go_ret | skip
      exact fin.out nq
    · rw [show ((47 : Nat) : Int) = 47 from rfl] at cO ⊢
      go_enter Try.func21, Try.ntmps21
      go_wp2_with fail
      go_quiet ((go_at_call 32; exact Calls.quiet_of_same (cO.out _)))
      go_wp2
      first | go_ret | skip
      exact fin.out nq
    · rw [show ((37 : Nat) : Int) = 37 from rfl] at cO ⊢
      go_enter Try.func21, Try.ntmps21
      go_wp2_with fail
      go_quiet ((go_at_call 32; exact Calls.quiet_of_same (cO.out _)))
      go_wp2
      first | go_ret | skip
      exact fin.out nq
    · rw [show ((94 : Nat) : Int) = 94 from rfl] at cO ⊢
      go_enter Try.func21, Try.ntmps21
      go_wp2_with fail
      go_quiet ((go_at_call 32; exact Calls.quiet_of_same (cO.out _)))
      go_wp2
      first | go_ret | skip
      exact fin.out nq
    · rw [show ((60 : Nat) : Int) = 60 from rfl] at cO ⊢
      go_enter Try.func21, Try.ntmps21
      go_wp2_with fail
      go_quiet ((go_at_call 32; exact Calls.quiet_of_same (cO.out _)))
      go_wp2
      first | go_ret | skip
      exact fin.out nq
  | some v =>
    rw [opV_some ho] at cO
    have hv : v < 4294967296 := op2_lt ha hb ho
    obtain ⟨D2, hD2⟩ : ∃ D2, Value.slice (some ⟨g, 0, none⟩) r.length cap = D2 := ⟨_, rfl⟩
    have hat := fun (nq : Nat) => (hp.drewN nq).alloc (.cells #[.int .u32 (v : Int)] 36)
    have hl : r.length ≤ 254 := by omega
    have fin : ∀ (nq : Nat) (D' : Value) (w' : World), w'.ownsRow base 36 1 D' (p + 1) (us r.reverse ++ [.int .u32 (v : Int)]) → ((w.drewN nq).alloc (.cells #[.int .u32 (v : Int)] 36)).grownBy w' (Value.slice (some ⟨g, 0, none⟩) p cap).ownBlock →
        (D'.ownBlock = (Value.slice (some ⟨g, 0, none⟩) p cap).ownBlock ∨ D'.ownBlock = some (w.heap.size + 1)) → RQ w0 base B s (exec c s) (.returned (.bool true)) (w'.setCell ⟨B, 2, none⟩ D') := fun nq D' w' q1 q2 q3 => by
      rw [← hp0] at q1 q2 q3
      refine RQ.go (s' := { s with ds := v :: r, dig := false }) (by rw [hex, ho]) (RA.on (RA.field (i := 2) (v := D') ((hat nq).swapD (l := v :: r) q2 ?_ (by rw [World.size_alloc]; exact q3) (fun y hy => ?_) (by simp only [List.length_cons]; omega))))
      · rw [List.reverse_cons, us_snoc]; exact q1
      · rcases List.mem_cons.1 hy with rfl | hy
        · exact hv
        · exact h.ok.ds y (by rw [hs]; simp [hy])
    have hfr : ∀ (nq : Nat) (w' : World), ((w.drewN nq).alloc (.cells #[.int .u32 (v : Int)] 36)).grownBy w' (Value.slice (some ⟨g, 0, none⟩) p cap).ownBlock → w'.frozen? ⟨B, 2, none⟩ = false ∧ ∃ u, w'.cell? ⟨B, 2, none⟩ = some u := fun nq w' q2 => by
      rw [← hp0] at q2
      have g := q2.block B (hat nq).blk.lt (fun e => (hat nq).parted.db e.symm)
      have hb : Blk 63 w' B _ := g.trans (hat nq).blk
      exact ⟨hb.frz 2, _, hb.cell 2⟩
    have hown := fun nq => (hat nq).ds
    dsimp only at hown
    rw [hp0] at hown
    have hbw := fun nq => (hat nq).bw
    obtain ⟨i0, hi, hi0, hi1, hi2⟩ := info_parts info_u32r
    obtain ⟨Q, hQ⟩ : ∃ Q, RQ w0 base B s (exec c s) = Q := ⟨_, rfl⟩
    obtain ⟨xs, hxs⟩ : ∃ xs, us r.reverse = xs := ⟨_, rfl⟩
    rw [hxs] at fin hown
    rw [hQ] at fin ⊢
    have p5 : p ≤ 254 := by omega
    replace fin := Lib.hid fin
    replace hfr := Lib.hid hfr
    replace hown := Lib.hid hown
    replace hbw := Lib.hid hbw
    replace cO := Lib.hid cO
    clear hQ hat hset hset1 hp hp1 hs hn hm hp0 ho hex ha hb h2 h2' h1' hv hl hxs hD2 h
    rcases hc with rfl | rfl | rfl | rfl | rfl | rfl | rfl
    · rw [show ((43 : Nat) : Int) = 43 from rfl] at cO ⊢
      go_enter Try.func21, Try.ntmps21
      go_wp2_with fail
      go_quiet ((go_at_call 32; exact Calls.quiet_of_same (cO.out _)))
      go_wp2_with (at_builtin; refine wpList_append_own_at _ rfl _ _ 23 rfl base 36 i0 (.int .u32 0) 1 4 Try.underlying23 hi hi0 hi1 hi2 rfl (by decide) _ _ _ rfl (hown.out nq) ⟨w.heap.size, 0, none⟩ 1 1 [.int .u32 (v : Int)] rfl rfl (one_new _ _ _) (one_cell _ _) (by unfold maxLen; omega) (by omega) (hbw.out nq) ?_)
      intro D' w' q1 q2 _ q3
      obtain ⟨hz, u, hu⟩ := hfr.out nq w' q2
      have z := Lib.hid (fin.out nq D' w' q1 q2 q3)
      obtain ⟨pA', cap', rfl, _⟩ := own_slice q1
      clear q1 q2 q3 fin hown hbw hfr cO
      go_wp2
      first | go_ret | skip
      exact z.out
    · rw [show ((45 : Nat) : Int) = 45 from rfl] at cO ⊢
      go_enter Try.func21, Try.ntmps21
      go_wp2_with fail
      go_quiet ((go_at_call 32; exact Calls.quiet_of_same (cO.out _)))
      go_wp2_with (at_builtin; refine wpList_append_own_at _ rfl _ _ 23 rfl base 36 i0 (.int .u32 0) 1 4 Try.underlying23 hi hi0 hi1 hi2 rfl (by decide) _ _ _ rfl (hown.out nq) ⟨w.heap.size, 0, none⟩ 1 1 [.int .u32 (v : Int)] rfl rfl (one_new _ _ _) (one_cell _ _) (by unfold maxLen; omega) (by omega) (hbw.out nq) ?_)
      intro D' w' q1 q2 _ q3
      obtain ⟨hz, u, hu⟩ := hfr.out nq w' q2
      have z := Lib.hid (fin.out nq D' w' q1 q2 q3)
      obtain ⟨pA', cap', rfl, _⟩ := own_slice q1
      clear q1 q2 q3 fin hown hbw hfr cO
      go_wp2
      first | go_ret | skip
      exact z.out
    · rw [show ((42 : Nat) : Int) = 42 from rfl] at cO ⊢
      go_enter Try.func21, Try.ntmps21
      go_wp2_with fail
      go_quiet ((go_at_call 32; exact Calls.quiet_of_same (cO.out _)))
      go_wp2_with (at_builtin; refine wpList_append_own_at _ rfl _ _ 23 rfl base 36 i0 (.int .u32 0) 1 4 Try.underlying23 hi hi0 hi1 hi2 rfl (by decide) _ _ _ rfl (hown.out nq) ⟨w.heap.size, 0, none⟩ 1 1 [.int .u32 (v : Int)] rfl rfl (one_new _ _ _) (one_cell _ _) (by unfold maxLen; omega) (by omega) (hbw.out nq) ?_)
      intro D' w' q1 q2 _ q3
      obtain ⟨hz, u, hu⟩ := hfr.out nq w' q2
      have z := Lib.hid (fin.out nq D' w' q1 q2 q3)
      obtain ⟨pA', cap', rfl, _⟩ := own_slice q1
      clear q1 q2 q3 fin hown hbw hfr cO
      go_wp2
      first | go_ret | skip
      exact z.out
    · rw [show ((47 : Nat) : Int) = 47 from rfl] at cO ⊢
      go_enter Try.func21, Try.ntmps21
      go_wp2_with fail
      go_quiet ((go_at_call 32; exact Calls.quiet_of_same (cO.out _)))
      go_wp2_with (at_builtin; refine wpList_append_own_at _ rfl _ _ 23 rfl base 36 i0 (.int .u32 0) 1 4 Try.underlying23 hi hi0 hi1 hi2 rfl (by decide) _ _ _ rfl (hown.out nq) ⟨w.heap.size, 0, none⟩ 1 1 [.int .u32 (v : Int)] rfl rfl (one_new _ _ _) (one_cell _ _) (by unfold maxLen; omega) (by omega) (hbw.out nq) ?_)
      intro D' w' q1 q2 _ q3
      obtain ⟨hz, u, hu⟩ := hfr.out nq w' q2
      have z := Lib.hid (fin.out nq D' w' q1 q2 q3)
      obtain ⟨pA', cap', rfl, _⟩ := own_slice q1
      clear q1 q2 q3 fin hown hbw hfr cO
      go_wp2
      first | go_ret | skip
      exact z.out
    · rw [show ((37 : Nat) : Int) = 37 from rfl] at cO ⊢
      go_enter Try.func21, Try.ntmps21
      go_wp2_with fail
      go_quiet ((go_at_call 32; exact Calls.quiet_of_same (cO.out _)))
      go_wp2_with (at_builtin; refine wpList_append_own_at _ rfl _ _ 23 rfl base 36 i0 (.int .u32 0) 1 4 Try.underlying23 hi hi0 hi1 hi2 rfl (by decide) _ _ _ rfl (hown.out nq) ⟨w.heap.size, 0, none⟩ 1 1 [.int .u32 (v : Int)] rfl rfl (one_new _ _ _) (one_cell _ _) (by unfold maxLen; omega) (by omega) (hbw.out nq) ?_)
      intro D' w' q1 q2 _ q3
      obtain ⟨hz, u, hu⟩ := hfr.out nq w' q2
      have z := Lib.hid (fin.out nq D' w' q1 q2 q3)
      obtain ⟨pA', cap', rfl, _⟩ := own_slice q1
      clear q1 q2 q3 fin hown hbw hfr cO
      go_wp2
      first | go_ret | skip
      exact z.out
    · rw [show ((94 : Nat) : Int) = 94 from rfl] at cO ⊢
      go_enter Try.func21, Try.ntmps21
      go_wp2_with fail
      go_quiet ((go_at_call 32; exact Calls.quiet_of_same (cO.out _)))
      go_wp2_with (at_builtin; refine wpList_append_own_at _ rfl _ _ 23 rfl base 36 i0 (.int .u32 0) 1 4 Try.underlying23 hi hi0 hi1 hi2 rfl (by decide) _ _ _ rfl (hown.out nq) ⟨w.heap.size, 0, none⟩ 1 1 [.int .u32 (v : Int)] rfl rfl (one_new _ _ _) (one_cell _ _) (by unfold maxLen; omega) (by omega) (hbw.out nq) ?_)
      intro D' w' q1 q2 _ q3
      obtain ⟨hz, u, hu⟩ := hfr.out nq w' q2
      have z := Lib.hid (fin.out nq D' w' q1 q2 q3)
      obtain ⟨pA', cap', rfl, _⟩ := own_slice q1
      clear q1 q2 q3 fin hown hbw hfr cO
      go_wp2
      first | go_ret | skip
      exact z.out
    · rw [show ((60 : Nat) : Int) = 60 from rfl] at cO ⊢
      go_enter Try.func21, Try.ntmps21
      go_wp2_with fail
      go_quiet ((go_at_call 32; exact Calls.quiet_of_same (cO.out _)))
      go_wp2_with (at_builtin; refine wpList_append_own_at _ rfl _ _ 23 rfl base 36 i0 (.int .u32 0) 1 4 Try.underlying23 hi hi0 hi1 hi2 rfl (by decide) _ _ _ rfl (hown.out nq) ⟨w.heap.size, 0, none⟩ 1 1 [.int .u32 (v : Int)] rfl rfl (one_new _ _ _) (one_cell _ _) (by unfold maxLen; omega) (by omega) (hbw.out nq) ?_)
      intro D' w' q1 q2 _ q3
      obtain ⟨hz, u, hu⟩ := hfr.out nq w' q2
      have z := Lib.hid (fin.out nq D' w' q1 q2 q3)
      obtain ⟨pA', cap', rfl, _⟩ := own_slice q1
      clear q1 q2 q3 fin hown hbw hfr cO
      go_wp2
      first | go_ret | skip
      exact z.out
end
end Go.Proofs.Ytfdlgdgjbfoogaa.M17
