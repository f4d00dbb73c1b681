/- The contract of the reference's Run of layer 17. -/
import Derived.Test.YtfdlgdgjbfoogaaM17RefT
import Derived.Test.YtfdlgdgjbfoogaaM17OwnC
import Derived.Test.YtfdlgdgjbfoogaaM17New
import Derived.Test.YtfdlgdgjbfoogaaM17OwnG
import Derived.Deep.RegionWith
namespace Go.Proofs.Ytfdlgdgjbfoogaa.M17
set_option maxRecDepth 100000
open Go.RowKit Mem
set_option linter.unusedVariables false
set_option linter.unusedSimpArgs false

/-- The reference's state while the texts are placed. -/
structure Nw2 (w : World) (B M : Nat) (l0 : List Value) (m : Nat → Nat) (W : World) : Prop where
  bel : Below w.heap.size w W
  blk : Blk 63 W B l0
  mem : MemAt W M m
  wM : w.heap.size ≤ M
  wB : w.heap.size ≤ B
  ne : M ≠ B
theorem Nw2.more {w W W' : World} {B M : Nat} {l0 : List Value} {m : Nat → Nat} (h : Nw2 w B M l0 m W) (g : W.grownBy W' none) : Nw2 w B M l0 m W' :=
  ⟨h.bel.grown g h.bel.size (fun j e => by cases e), (g.block B h.blk.lt (by simp)).trans h.blk, h.mem.kept (g.block M h.mem.lt (by simp)), h.wM, h.wB, h.ne⟩
theorem Nw2.put {w W : World} {B M : Nat} {l0 : List Value} {m : Nat → Nat} (h : Nw2 w B M l0 m W) (a v : Nat) : Nw2 w B M l0 (upd m a v) (W.setCell ⟨M, a, none⟩ (.int .u32 (v : Int))) :=
  ⟨h.bel.setCell (p := ⟨M, a, none⟩) h.wM _, (Below.heap_setCell _ _ _ _ (fun e => h.ne e.symm)).trans h.blk, h.mem.set a v, h.wM, h.wB, h.ne⟩
theorem ans_run {ts : List Txt} {start : Int} {inp : List Nat} {steps : Int} (h0 : ¬ (start < 0 ∨ 262144 ≤ start)) (ht : ∀ t ∈ ts, fits t) (hs : ¬ 100000000 < steps) : ans ts start inp steps = run steps.toNat (init ts start.toNat inp) := by
  unfold ans
  rw [if_neg h0, if_neg (fun h => h ht), if_neg hs]
  split
  · rw [show steps.toNat = 0 by omega]; rfl
  · rfl
set_option maxHeartbeats 4000000 in
theorem exec_dig {s s' : St} {c : Nat} (he : exec c s = .go s') : s'.dig = decide (48 ≤ c ∧ c ≤ 57) := by
  obtain ⟨mem, pc, ds, cs, dig, inp, out⟩ := s
  unfold M17.exec at he
  dsimp only at he
  split at he
  · rename_i hc
    rw [decide_eq_true hc]
    split at he
    · rename_i hd
      split at he
      · cases he
      · injection he with he; subst he; exact hd
    · split at he
      · cases he
      · injection he with he; subst he; rfl
  rename_i hc
  rw [decide_eq_false hc]
  split at he
  · injection he with he; subst he; rfl
  split at he
  · cases he
  split at he
  · split at he
    · cases he
    · split at he
      · cases he
      · injection he with he; subst he; rfl
  split at he
  · split at he
    · cases he
    · split at he
      · cases he
      · injection he with he; subst he; rfl
  split at he
  · split at he
    · cases he
    · injection he with he; subst he; rfl
  split at he
  · split at he
    · cases he
    · injection he with he; subst he; rfl
  split at he
  · split at he
    · cases he
    · injection he with he; subst he; rfl
  split at he
  · split at he
    · split at he
      · cases he
      · injection he with he; subst he; rfl
    split at he
    · injection he with he; subst he; rfl
    split at he
    · cases he
    · injection he with he; subst he; rfl
  · cases he
theorem exec_36 (s : St) : exec 36 s = .halt := by
  obtain ⟨mem, pc, ds, cs, dig, inp, out⟩ := s
  rfl
set_option maxHeartbeats 4000000 in
theorem halt_36 {c : Nat} {s : St} (h : exec c s = .halt) : c = 36 := by
  obtain ⟨mem, pc, ds, cs, dig, inp, out⟩ := s
  unfold exec at h
  dsimp only at h
  split at h
  · split at h
    · split at h <;> cases h
    · split at h <;> cases h
  split at h
  · cases h
  split at h
  · assumption
  split at h
  · split at h
    · cases h
    · split at h <;> cases h
  split at h
  · split at h
    · cases h
    · split at h <;> cases h
  split at h
  · split at h <;> cases h
  split at h
  · split at h <;> cases h
  split at h
  · split at h <;> cases h
  split at h
  · split at h
    · split at h <;> cases h
    split at h
    · cases h
    split at h <;> cases h
  · cases h
/-- What a step of the reference leaves behind, by cases. -/
theorem RQ.cases {w0 w' : World} {base B c : Nat} {s : St} {e : Ending} (h36 : ¬ c = 36) (h : RQ w0 base B s (exec c s) e w') :
    (∃ s', exec c s = .go s' ∧ e = .returned (.bool true) ∧ ROn w0 base w' B { s' with dig := s.dig }) ∨ (exec c s = .trap ∧ e = .returned (.bool false) ∧ ROn w0 base w' B s) := by
  unfold RQ at h
  cases hs : exec c s with
  | go s' => rw [hs] at h; exact .inl ⟨s', rfl, h.1, h.2⟩
  | halt => exact absurd (halt_36 hs) h36
  | trap => rw [hs] at h; exact .inr ⟨rfl, h.1, h.2⟩
theorem ROn.setDig {w0 w : World} {base B : Nat} {s : St} {b : Bool} (h : ROn w0 base w B { s with dig := b }) : (w.frozen? ⟨B, 6, none⟩ = false ∧ ∃ u, w.cell? ⟨B, 6, none⟩ = some u) ∧ ROn w0 base (w.setCell ⟨B, 6, none⟩ (.bool s.dig)) B s := by
  obtain ⟨M, D, C, O, IA, ic, h⟩ := h
  obtain ⟨e1, e2⟩ := h.f (i := 6) (v := .bool b) rfl
  exact ⟨⟨e2, _, e1⟩, RA.on ((h.field 6 (.bool s.dig)).st (s' := s) rfl rfl rfl rfl rfl ⟨h.ok.mem, h.ok.pc, h.ok.ds, h.ok.cs, h.ok.inp, h.ok.dl, h.ok.cl⟩)⟩
/-- The six facts on the cells of the result. -/
structure OutC (W : World) (G : Nat) : Prop where
  k0 : W.frozen? ⟨G, 0, none⟩ = false
  k1 : W.frozen? ⟨G, 1, none⟩ = false
  k2 : W.frozen? ⟨G, 2, none⟩ = false
  j0 : W.cell? ⟨G, 0, none⟩ = some (.string ⟨#[]⟩)
  j1 : W.cell? ⟨G, 1, none⟩ = some (.int .i64 0)
  j2 : W.cell? ⟨G, 2, none⟩ = some (.int .i64 0)
theorem rfits {z : Int} {S : ByteArray} (h0 : 0 ≤ z) (h1 : z ≤ 262144) (h2 : (S.size : Int) ≤ 262144 - z) : fits (z, S) := ⟨h0, by show z + (S.size : Int) ≤ 262144; omega⟩
theorem not_rfits {z : Int} {S : ByteArray} (h : z < 0 ∨ 262144 < z ∨ 262144 - z < (S.size : Int)) : ¬ fits (z, S) := fun ⟨h0, h1⟩ => by
  have h0 : 0 ≤ z := h0
  have h1 : z + (S.size : Int) ≤ 262144 := h1
  omega
theorem ans_bad_text {ts : List Txt} {start steps : Int} {inp : List Nat} (h0 : ¬ (start < 0 ∨ 262144 ≤ start)) {t : Txt} (ht : t ∈ ts) (h : ¬ fits t) : ans ts start inp steps = ⟨[], 2, 0⟩ := by
  unfold ans
  rw [if_neg h0, if_pos (fun h' => h (h' t ht))]
set_option maxHeartbeats 16000000 in
theorem RRun_any {A IA : Option Addr} {n c m ic : Nat} {ts : List Txt} {inp : List Nat} {w : World} (h : IsTxts w A n c ts) (hI : IsInp w IA m ic inp) (start steps : Int) :
    Calls Try.prog 11 #[.slice A n c, .int .i64 start, .slice IA m ic, .int .i64 steps] w fun e w' => e = .returned (outV (ans ts start inp steps)) ∧ Below w.heap.size w w' := by
  obtain ⟨W0, hW0⟩ : ∃ W, w.alloc (.cells #[.string ⟨#[]⟩, .int .i64 0, .int .i64 0] 29) = W := ⟨_, rfl⟩
  obtain ⟨G, hG⟩ : ∃ G, w.heap.size = G := ⟨_, rfl⟩
  have hs0 : W0.heap.size = G + 1 := by rw [← hW0, ← hG]; simp
  have hb0 : Below G w W0 := by rw [← hW0, ← hG]; exact (Below.refl _ _).alloc (Nat.le_refl _) _
  have hk0 : Blk 29 W0 G [.string ⟨#[]⟩, .int .i64 0, .int .i64 0] := by rw [← hW0, ← hG]; exact Blk.new w _ _
  have h0 := h.below (by rw [hG]; exact hb0)
  have hI0 : IsInp W0 IA m ic inp := hI.below (by rw [hG]; exact hb0)
  rw [hG]
  obtain ⟨Q, hQ⟩ : ∃ Q, (fun (e : Ending) (w' : World) => e = .returned (outV (ans ts start inp steps)) ∧ Below G w w') = Q := ⟨_, rfl⟩
  rw [hQ]
  have hend : ∀ (W : World) (l : List UInt8) (x y : Int), Below W0.heap.size W0 W → outV (ans ts start inp steps) = (.agg #[.string ⟨l.toArray⟩, .int .i64 x, .int .i64 y]) → OutC W G ∧ ∀ (tmps : Array Value), tmps.getD 8 undef = .pointer (some ⟨G, 0, none⟩) →
      bodyPost Try.prog Try.f11 Q .ret { tmps := tmps, defers := [] } (((W.setCell ⟨G, 0, none⟩ (.string ⟨l.toArray⟩)).setCell ⟨G, 1, none⟩ (.int .i64 x)).setCell ⟨G, 2, none⟩ (.int .i64 y)) := fun W l x y h1 h2 => by
    have hkW : Blk 29 W G [.string ⟨#[]⟩, .int .i64 0, .int .i64 0] := (h1.block G hk0.lt).trans hk0
    refine ⟨⟨hkW.frz 0, hkW.frz 1, hkW.frz 2, hkW.cell 0, hkW.cell 1, hkW.cell 2⟩, fun tmps h3 => ?_⟩
    have hbk : Blk 29 (((W.setCell ⟨G, 0, none⟩ (.string ⟨l.toArray⟩)).setCell ⟨G, 1, none⟩ (.int .i64 x)).setCell ⟨G, 2, none⟩ (.int .i64 y)) G [.string ⟨l.toArray⟩, .int .i64 x, .int .i64 y] := ((hkW.set 0 _).set 1 _).set 2 _
    refine bodyPost_ret (results_cell_row (by rfl) tmps _ G 29 #[.string ⟨l.toArray⟩, .int .i64 x, .int .i64 y] (0, 0) _ h3 hbk Try.underlying29 rfl (by kernel_rfl)) rfl ?_
    rw [← hQ]
    have hbW : Below G w W := hb0.trans (h1.mono (by omega))
    exact ⟨by rw [h2], ((hbW.setCell (p := ⟨G, 0, none⟩) (Nat.le_refl _) _).setCell (p := ⟨G, 1, none⟩) (Nat.le_refl _) _).setCell (p := ⟨G, 2, none⟩) (Nat.le_refl _) _⟩
  have hlen := Lib.hid h0.len
  have hle := h0.le
  have hcm := h0.capm
  have hn63 : (n : Int) ≤ 9223372036854775807 := by unfold maxLen at hcm; omega
  have hget := Lib.hid (fun (k : Nat) (hk : k < ts.length) => h0.get hk)
  have hfit := Lib.hid h0.fit
  have h0 := Lib.hid h0
  have hI0 := Lib.hid hI0
  replace hs0 := Lib.hid hs0
  replace hend := Lib.hid hend
  clear hb0 hk0 hQ h hI
  go_enter Try.func11, Try.ntmps11
  by_cases q0 : start < 0 ∨ 262144 ≤ start
  · obtain ⟨⟨k0, k1, k2, j0, j1, j2⟩, z⟩ := hend.out W0 [] 2 0 (Below.refl _ _) (by unfold ans; rw [if_pos q0]; rfl)
    replace z := Lib.hid z
    by_cases q1 : start < 0
    · have u0 : decide (start < 0) = true := decide_eq_true q1
      clear q0 q1
      go_wp2
      exact z.out _ rfl
    · have u0 : decide (start < 0) = false := decide_eq_false q1
      have u1 : decide (262144 ≤ start) = true := decide_eq_true (by omega)
      clear q0 q1
      go_wp2
      exact z.out _ rfl
  have u0 : decide (start < 0) = false := decide_eq_false (by omega)
  have u1 : decide (262144 ≤ start) = false := decide_eq_false (by omega)
  replace q0 := Lib.hid q0
  go_wp2
  clear hW0
  go_loopw [26] (fun iv wr => ∃ (k : Nat), iv = .int .i64 (k : Int) ∧ k ≤ n ∧ Hid (Below W0.heap.size W0 wr) ∧ Hid (∀ t ∈ ts.take k, fits t)) (fun iv _ => n - (intOf iv).toNat)
  case atStart => exact ⟨0, rfl, Nat.zero_le _, Lib.hid (Below.refl _ _), Lib.hid (by simp)⟩
  case round =>
    obtain ⟨k, rfl, hk, hb, hf⟩ := hrel
    by_cases hlt : k < n
    · have dk : decide ((k : Int) < (n : Int)) = true := decide_eq_true (by omega)
      have k0 : (0 : Int) ≤ (k : Int) := by omega
      have k1 : (k : Int) < (n : Int) := by omega
      have k2 : (k : Int) + 1 ≤ 9223372036854775807 := by omega
      have hkl : k < ts.length := by have := hlen.out; omega
      obtain ⟨b, o, rfl, hbl, g0, g1⟩ := hget.out k hkl
      have hfz := hfit.out _ (List.getElem_mem hkl)
      have hmem := List.getElem_mem hkl
      have htk := List.take_succ_eq_append_getElem hkl
      obtain ⟨⟨z, S⟩, hr⟩ : ∃ r, ts[k] = r := ⟨_, rfl⟩
      rw [hr] at g0 g1 hfz hmem htk
      obtain ⟨⟨z1, z2⟩, z3⟩ := hfz
      dsimp only at z1 z2 z3
      unfold maxLen at z3
      have g0 : wr.cell? ⟨b, o + k * 2, none⟩ = some (.int .i64 z) := (hb.out.cell (p := ⟨b, o + k * 2, none⟩) hbl).trans g0
      have g1 : wr.cell? ⟨b, o + k * 2 + 1, none⟩ = some (.string S) := (hb.out.cell (p := ⟨b, o + k * 2 + 1, none⟩) hbl).trans g1
      obtain ⟨wX, hwX⟩ : ∃ W, wr.alloc (.cells #[.int .i64 z, .string S] 38) = W := ⟨_, rfl⟩
      obtain ⟨X, hX⟩ : ∃ X, wr.heap.size = X := ⟨_, rfl⟩
      have hxx : Blk 38 wX X [.int .i64 z, .string S] := by rw [← hwX, ← hX]; exact Blk.new wr _ _
      have x0 : wX.cell? ⟨X, 0, none⟩ = some (.int .i64 z) := hxx.cell 0
      have x1 : wX.cell? ⟨X, 1, none⟩ = some (.string S) := hxx.cell 1
      have hbX : Below W0.heap.size W0 wX := by rw [← hwX]; exact hb.out.alloc hb.out.size _
      by_cases hz : z < 0 ∨ 262144 < z ∨ 262144 - z < (S.size : Int)
      · obtain ⟨⟨k0', k1', k2', j0, j1, j2⟩, zz⟩ := hend.out wX [] 2 0 hbX (by rw [ans_bad_text q0.out hmem (not_rfits hz)]; rfl)
        replace zz := Lib.hid zz
        by_cases y0 : z < 0
        · have v0 : decide (z < 0) = true := decide_eq_true y0
          clear hb hf hr hbl hkl hmem htk hxx hbX hz y0
          go_wp2
          exact zz.out _ rfl
        · have v0 : decide (z < 0) = false := decide_eq_false y0
          by_cases y1 : 262144 < z
          · have v1 : decide (262144 < z) = true := decide_eq_true y1
            clear hb hf hr hbl hkl hmem htk hxx hbX hz y0 y1
            go_wp2
            exact zz.out _ rfl
          · have v1 : decide (262144 < z) = false := decide_eq_false y1
            obtain ⟨d, hd⟩ : ∃ d : Nat, 262144 - z = (d : Int) := ⟨(262144 - z).toNat, by omega⟩
            have v2 : decide ((d : Int) < (S.size : Int)) = true := decide_eq_true (by omega)
            have v3 : wrap64 (262144 - z) = (d : Int) := by unfold wrap64; omega
            have v5 : decide (d < S.size) = true := decide_eq_true (by omega)
            clear hb hf hr hbl hkl hmem htk hxx hbX hz
            go_wp2
            exact zz.out _ rfl
      · have v0 : decide (z < 0) = false := decide_eq_false (by omega)
        have v1 : decide (262144 < z) = false := decide_eq_false (by omega)
        obtain ⟨d, hd⟩ : ∃ d : Nat, 262144 - z = (d : Int) := ⟨(262144 - z).toNat, by omega⟩
        have v2 : decide ((d : Int) < (S.size : Int)) = false := decide_eq_false (by omega)
        have v3 : wrap64 (262144 - z) = (d : Int) := by unfold wrap64; omega
        have v5 : decide (d < S.size) = false := decide_eq_false (by omega)
        have hf2 : Hid (∀ t ∈ ts.take (k + 1), fits t) := Lib.hid (by
          rw [htk]
          intro t ht
          rcases List.mem_append.1 ht with ht | ht
          · exact hf.out t ht
          · rw [List.mem_singleton.1 ht]; exact rfits (by omega) (by omega) (by omega))
        replace hbX := Lib.hid hbX
        clear hb hf hr hbl hkl hmem htk hxx
        go_wp2
        go_roundw
        case rel => exact ⟨k + 1, by go_num, by omega, hbX, hf2⟩
        case measure => simp [intOf]; omega
    · obtain rfl : n = k := by omega
      have dk : decide ((n : Int) < (n : Int)) = false := decide_eq_false (by omega)
      have hts : ∀ t ∈ ts, fits t := by
        have := hf.out
        rwa [List.take_of_length_le (by have := hlen.out; omega)] at this
      by_cases q5 : 100000000 < steps
      · have u5 : decide (100000000 < steps) = true := decide_eq_true q5
        obtain ⟨⟨k0', k1', k2', j0, j1, j2⟩, zz⟩ := hend.out wr [] 6 0 hb.out (by unfold ans; rw [if_neg q0.out, if_neg (fun h => h hts), if_pos q5]; rfl)
        replace zz := Lib.hid zz
        clear hf hts hb
        go_wp2
        exact zz.out _ rfl
      · have u5 : decide (100000000 < steps) = false := decide_eq_false q5
        obtain ⟨q, hq⟩ : ∃ q, start.toNat = q := ⟨_, rfl⟩
        obtain ⟨lim, hlim⟩ : ∃ lim, steps.toNat = lim := ⟨_, rfl⟩
        have hans : ans ts start inp steps = run lim (init ts q inp) := by rw [ans_run q0.out hts q5, hq, hlim]
        have hqr : q < 262144 := by have := q0.out; omega
        obtain rfl : start = (q : Int) := by have := q0.out; omega
        have e1 : (q : Int) % 4294967296 = (q : Int) := by omega
        have e2 : IntKind.u32.wrap (q : Int) = (q : Int) := by rw [IntKind.wrap_u32]; omega
        have qq0 : (0 : Int) ≤ (q : Int) := by omega
        have qq1 : (q : Int) < 262144 := by omega
        obtain ⟨Wm, hmk, hm0, hgm⟩ := make_mem wr
        obtain ⟨M, hM⟩ : ∃ M, wr.heap.size = M := ⟨_, rfl⟩
        rw [hM] at hmk hm0
        unfold memV at hmk
        have hWr : W0.heap.size ≤ M := by rw [← hM]; exact hb.out.size
        have hbm : Below W0.heap.size W0 Wm := hb.out.grown hgm hb.out.size (fun j e => by cases e)
        replace hans := Lib.hid hans
        replace hbm := Lib.hid hbm
        replace hts := Lib.hid hts
        clear hf hb hq
        go_wp2
        obtain ⟨B, hB⟩ : ∃ B, Wm.heap.size = B := ⟨_, rfl⟩
        obtain ⟨l0, hl0⟩ : ∃ l0 : List Value, [.slice (some ⟨M, 0, none⟩) 262144 262144, .int .u32 (q : Int), .slice none 0 0, .slice none 0 0, .slice IA m ic, .slice none 0 0, .bool false] = l0 := ⟨_, rfl⟩
        obtain ⟨WB, hWB⟩ : ∃ W, Wm.alloc (.cells #[.slice (some ⟨M, 0, none⟩) 262144 262144, .int .u32 (q : Int), .slice none 0 0, .slice none 0 0, .slice IA m ic, .slice none 0 0, .bool false] 63) = W := ⟨_, rfl⟩
        have n0 : Nw2 W0 B M l0 (fun _ => 0) WB := by
          rw [← hWB, ← hB, ← hl0]
          have g := World.grownBy_alloc Wm (.cells #[.slice (some ⟨M, 0, none⟩) 262144 262144, .int .u32 (q : Int), .slice none 0 0, .slice none 0 0, .slice IA m ic, .slice none 0 0, .bool false] 63) none
          have hlt := hm0.lt
          refine ⟨hbm.out.grown g hbm.out.size (fun j e => by cases e), Blk.new Wm _ _, hm0.kept (g.block M hm0.lt (by simp)), hWr, by omega, by omega⟩
        rw [hB, hWB]
        have n0 := Lib.hid (show Nw2 W0 B M l0 (placed (ts.take 0)) WB from n0)
        have hc0 : ∀ (W : World) (f : Nat → Nat), Nw2 W0 B M l0 f W → W.cell? ⟨B, 0, none⟩ = some (.slice (some ⟨M, 0, none⟩) 262144 262144) := fun W f h => by
          have := h.blk.cell 0
          rw [← hl0] at this
          exact this
        replace hc0 := Lib.hid hc0
        replace hl0 := Lib.hid hl0
        clear hWB hB hgm hm0 hmk hM e1 e2 hbm hWr u0 u1 u5
        go_loopw [59] (fun iv wr => ∃ (k : Nat), iv = .int .i64 (k : Int) ∧ k ≤ n ∧ Hid (Nw2 W0 B M l0 (placed (ts.take k)) wr)) (fun iv _ => n - (intOf iv).toNat)
        case atStart => exact ⟨0, rfl, Nat.zero_le _, n0⟩
        case round =>
          obtain ⟨k, rfl, hk, hN⟩ := hrel
          by_cases hlt : k < n
          · have dk : decide ((k : Int) < (n : Int)) = true := decide_eq_true (by omega)
            have k0 : (0 : Int) ≤ (k : Int) := by omega
            have k1 : (k : Int) < (n : Int) := by omega
            have k2 : (k : Int) + 1 ≤ 9223372036854775807 := by omega
            have hkl : k < ts.length := by have := hlen.out; omega
            obtain ⟨b, o, rfl, hbl, g0, g1⟩ := hget.out k hkl
            have hf := hts.out _ (List.getElem_mem hkl)
            have hpl := placed_take ts k hkl
            obtain ⟨⟨z, S⟩, hr⟩ : ∃ r, ts[k] = r := ⟨_, rfl⟩
            rw [hr] at g0 g1 hf hpl
            obtain ⟨f1, f2⟩ := hf
            dsimp only at f1 f2
            have g0 : wr.cell? ⟨b, o + k * 2, none⟩ = some (.int .i64 z) := (hN.out.bel.cell (p := ⟨b, o + k * 2, none⟩) hbl).trans g0
            have g1 : wr.cell? ⟨b, o + k * 2 + 1, none⟩ = some (.string S) := (hN.out.bel.cell (p := ⟨b, o + k * 2 + 1, none⟩) hbl).trans g1
            obtain ⟨X, hX⟩ : ∃ X, wr.heap.size = X := ⟨_, rfl⟩
            obtain ⟨wX, hwX⟩ : ∃ W, wr.alloc (.cells #[.int .i64 z, .string S] 38) = W := ⟨_, rfl⟩
            have hxx : wX.heap[X]? = some (.cells #[.int .i64 z, .string S] 38 (0, 0)) := by rw [← hwX, ← hX]; exact World.alloc_heap_new wr _
            have hNX : Nw2 W0 B M l0 (placeTo (placed (ts.take k)) (z, S) 0) wX := by
              rw [placeTo_zero, ← hwX]
              exact hN.out.more (World.grownBy_alloc wr _ none)
            have hMX : M ≠ X := by
              have := hN.out.mem.lt
              omega
            obtain ⟨zn, hzn⟩ : ∃ zn : Nat, z.toNat = zn := ⟨_, rfl⟩
            have ezn : z = (zn : Int) := by omega
            have hS : (S.size : Int) ≤ 262144 := by omega
            have hxc : wX.cell? ⟨X, 1, none⟩ = some (.string S) := by simp [World.cell?, hxx]
            replace hNX := Lib.hid hNX
            replace hxx := Lib.hid hxx
            replace hpl := Lib.hid hpl
            replace hMX := Lib.hid hMX
            replace f2 : (zn : Int) + (S.size : Int) ≤ 262144 := by omega
            subst ezn
            clear hr hN hbl hkl f1 hget hzn
            go_wp2
            go_loopw [14] (fun jv wi => ∃ (j : Nat), jv = .int .i64 (j : Int) ∧ j ≤ S.size ∧ Hid (Nw2 W0 B M l0 (placeTo (placed (ts.take k)) ((zn : Int), S) j) wi) ∧ Hid (wi.heap[X]? = some (.cells #[.int .i64 (zn : Int), .string S] 38 (0, 0)))) (fun jv _ => S.size - (intOf jv).toNat)
            case atStart => exact ⟨0, rfl, Nat.zero_le _, hNX, hxx⟩
            case round =>
              obtain ⟨j, rfl, hj, hN, hx⟩ := hrel
              have cX0 : wr.cell? ⟨X, 0, none⟩ = some (.int .i64 (zn : Int)) := by simp [World.cell?, hx.out]
              have cX1 : wr.cell? ⟨X, 1, none⟩ = some (.string S) := by simp [World.cell?, hx.out]
              by_cases hjlt : j < S.size
              · have dj : decide ((j : Int) < (S.size : Int)) = true := decide_eq_true (by omega)
                have dj2 : decide (j < S.size) = true := decide_eq_true hjlt
                have j0 : (0 : Int) ≤ (j : Int) := by omega
                have j1 : (j : Int) < (S.size : Int) := by omega
                have cB := hc0.out _ _ hN.out
                obtain ⟨a, ha⟩ : ∃ a, zn + j = a := ⟨_, rfl⟩
                have a1 : (zn : Int) + (j : Int) = (a : Int) := by omega
                have a0 : (0 : Int) ≤ (a : Int) := by omega
                have a2 : (a : Int) < 262144 := by omega
                have aw : IntKind.i64.wrap (a : Int) = (a : Int) := by rw [IntKind.wrap_i64]; omega
                have cM := hN.out.mem.cell a (by omega)
                have fM := hN.out.mem.frz a
                have hput : Nw2 W0 B M l0 (placeTo (placed (ts.take k)) ((zn : Int), S) (j + 1)) (wr.setCell ⟨M, a, none⟩ (.int .u32 (S[j].toNat : Int))).drew := by
                  rw [← placeTo_succ, show ((zn : Int), S).1.toNat + j = a by dsimp only; omega, codeAt_get S j hjlt]
                  exact (hN.out.put a _).more (grown_drewN _ 1)
                have hxk : (wr.setCell ⟨M, a, none⟩ (.int .u32 (S[j].toNat : Int))).drew.heap[X]? = some (.cells #[.int .i64 (zn : Int), .string S] 38 (0, 0)) := (Below.heap_setCell _ _ _ _ (fun e => hMX.out e.symm)).trans hx.out
                have u8 : (S[j].toNat : Int) < 256 := by have := UInt8.toNat_lt S[j]; omega
                have u8n : S[j].toNat < 256 := UInt8.toNat_lt S[j]
                replace hput := Lib.hid hput
                replace hxk := Lib.hid hxk
                clear hN hx ha
                go_wp2_with fail
                go_region
                go_wp2
                go_roundw
                case rel => exact ⟨j + 1, by go_num, by omega, hput, hxk⟩
                case measure => simp [intOf]; omega
              · obtain rfl : j = S.size := by omega
                have dj : decide ((S.size : Int) < (S.size : Int)) = false := decide_eq_false (by omega)
                have dj2 : decide (S.size < S.size) = false := decide_eq_false (by omega)
                have hN2 : Hid (Nw2 W0 B M l0 (placed (ts.take (k + 1))) wr) := by
                  rw [hpl.out, ← placeTo_all]
                  exact hN
                clear hN hx
                go_wp2
                go_roundw
                case rel => exact ⟨k + 1, by go_num, by omega, hN2⟩
                case measure => simp [intOf]; omega
          · obtain rfl : n = k := by omega
            have dk : decide ((n : Int) < (n : Int)) = false := decide_eq_false (by omega)
            have hN2 : Nw2 W0 B M l0 (placed ts) wr := by
              have := hN.out
              rwa [List.take_of_length_le (by have := hlen.out; omega)] at this
            have hOn0 : ROn W0 W0.heap.size wr B (init ts q inp) := by
              have hlow : ∀ a, IA = some a → us inp ≠ [] → a.block < W0.heap.size := fun a e1 e2 => by
                have hpos : 0 < (us inp).length := List.length_pos_iff.2 e2
                obtain ⟨b, o, e3, h4, _⟩ := hI0.out.rd 0 hpos
                rw [e1] at e3
                cases e3
                exact h4
              refine RA.on (M := M) (D := .slice none 0 0) (C := .slice none 0 0) (O := .slice none 0 0) (IA := IA) (ic := ic) ?_
              have hil : (init ts q inp).inp.length = m := hI0.out.len
              have hblk := hN2.blk
              rw [← hl0.out] at hblk
              refine ⟨hN2.bel, ?_, hN2.mem, World.ownsRow_nil _ _ _ _, World.ownsRow_nil _ _ _ _, World.ownsRow_nil _ _ _ _, hI0.out.rd.below hN2.bel, hlow, ?_, hI0.out.capm, hI0.out.nil, hN2.wB, hN2.wM, hN2.bel.size, (by simp [Value.ownBlock]), (by simp [Value.ownBlock]), .inl rfl, init_ok ts hqr hI0.out.fit⟩
              · unfold rowR memV
                rw [hil]
                exact hblk
              · rw [hil]
                exact hI0.out.le
            have hlim2 : lim ≤ 100000000 := by omega
            have hlim3 : 0 ≤ steps → (lim : Int) = steps := fun h => by omega
            have hlim4 : steps < 0 → lim = 0 := fun h => by omega
            obtain ⟨s0, hs0'⟩ : ∃ s0, init ts q inp = s0 := ⟨_, rfl⟩
            have hd0 : Dg s0 := by rw [← hs0']; exact fun e => by cases e
            have ho0 : s0.out = [] := by rw [← hs0']; rfl
            rw [hs0'] at hOn0 hans
            replace hOn0 := Lib.hid hOn0
            replace hd0 := Lib.hid hd0
            replace ho0 := Lib.hid ho0
            replace hlim3 := Lib.hid hlim3
            replace hlim4 := Lib.hid hlim4
            clear hN hN2 hget hts hs0' hc0 hl0 n0
            go_wp2
            go_loopw [15] (fun jv wr => ∃ (j j1 : Nat) (sj : St), jv = .int .i64 (j1 : Int) ∧ Hid (j1 = j + 1) ∧ j ≤ lim ∧ Hid (ROn W0 W0.heap.size wr B sj) ∧ Hid (Dg sj) ∧ Hid (run lim s0 = (run (lim - j) sj).more j) ∧ Hid (sj.out.length ≤ j)) (fun jv _ => lim + 1 - (intOf jv).toNat)
            case atStart => exact ⟨0, 1, s0, rfl, Lib.hid rfl, Nat.zero_le _, hOn0, hd0, Lib.hid (by rw [Nat.sub_zero]; rfl), Lib.hid (by rw [ho0.out]; exact Nat.le_refl _)⟩
            case round =>
              obtain ⟨j, j1, sj, rfl, hj1, hj, hOn, hDg, hRun, hLen⟩ := hrel
              by_cases hcond : (j1 : Int) ≤ steps
              · have dj : decide ((j1 : Int) ≤ steps) = true := decide_eq_true hcond
                have hjl : j < lim := by have := hlim3.out (by have := hj1.out; omega); have := hj1.out; omega
                obtain ⟨M', D, C, O, IA', ic', hA⟩ := hOn.out
                obtain ⟨c1, f1⟩ := hA.f (i := 1) (v := .int .u32 (sj.pc : Int)) rfl
                have c5 := (hA.f (i := 5) (v := O) rfl).1
                have hcv : (convert 35 9 O).run Try.prog wr = .ok (.string ⟨sj.out.toArray⟩) wr := conv_own Try.underlying35 Try.underlying5 Try.underlying9 hA.out
                by_cases hp : sj.pc < 262144
                · obtain ⟨ch, hch⟩ : ∃ ch, sj.mem sj.pc = ch := ⟨_, rfl⟩
                  have hst := step_is hp hch
                  have cm := hA.mem.cell sj.pc hp
                  rw [hch] at cm
                  obtain ⟨c0, _⟩ := hA.f (i := 0) (v := memV M') rfl
                  unfold memV at c0
                  have dp : decide (262144 ≤ (sj.pc : Int)) = false := decide_eq_false (by omega)
                  have p0 : (0 : Int) ≤ (sj.pc : Int) := by omega
                  have p1 : (sj.pc : Int) < 262144 := by omega
                  by_cases h36 : ch = 36
                  · have d36 : ((ch : Int) == 36) = true := by rw [h36]; rfl
                    obtain ⟨⟨k0', k1', k2', j0', j1', j2'⟩, zz⟩ := hend.out wr sj.out 0 j1 hA.bel (by
                      rw [hans.out, hRun.out, show lim - j = (lim - j1) + 1 by have := hj1.out; omega, run_halt (by rw [hst, h36]; exact exec_36 _)]
                      show outV ⟨sj.out, 0, 1 + j⟩ = _
                      rw [show 1 + j = j1 by have := hj1.out; omega]
                      rfl)
                    replace zz := Lib.hid zz
                    obtain ⟨l, hl⟩ : ∃ l, sj.out = l := ⟨_, rfl⟩
                    obtain ⟨pc, hpc⟩ : ∃ pc, sj.pc = pc := ⟨_, rfl⟩
                    rw [hl] at hcv zz
                    rw [hpc] at c1 cm dp p0 p1
                    clear hA hst hch hp hOn hDg hRun hLen hl hpc h36
                    go_wp2
                    exact zz.out _ rfl
                  · have d36 : ((ch : Int) == 36) = false := by
                      have : ¬ (ch : Int) = 36 := by omega
                      simpa using this
                    have h2 : RA W0 W0.heap.size (wr.setCell ⟨B, 1, none⟩ (.int .u32 ((sj.pc + 1 : Nat) : Int))) B (nxt sj) M' D C O IA' ic' (rowR M' D C O IA' ic' (nxt sj)) :=
                      (hA.field 1 _).st (s' := nxt sj) rfl rfl rfl rfl rfl ⟨hA.ok.mem, by show sj.pc + 1 < _; omega, hA.ok.ds, hA.ok.cs, hA.ok.inp, hA.ok.dl, hA.ok.cl⟩
                    have cS := rstep_any h2 hDg.out (by have := hLen.out; show sj.out.length ≤ _; omega) ch h36
                    obtain ⟨pc, hpc⟩ : ∃ pc, sj.pc = pc := ⟨_, rfl⟩
                    obtain ⟨pc1, hpc1⟩ : ∃ pc1, pc + 1 = pc1 := ⟨_, rfl⟩
                    rw [hpc, hpc1] at cS
                    rw [hpc] at c1 cm dp p0 p1
                    have w1 : ((pc : Int) + 1) % 4294967296 = (pc1 : Int) := by omega
                    have w2 : IntKind.u32.wrap ((pc : Int) + 1) = (pc1 : Int) := by rw [IntKind.wrap_u32]; exact w1
                    have w3 : (pc : Int) + 1 = (pc1 : Int) := by omega
                    replace cS := Lib.hid cS
                    replace hst := Lib.hid hst
                    clear hA h2 hch hp hOn hcv c5
                    go_wp2_with fail
                    refine (cS.out).mono ?_
                    intro e w1' hq
                    rcases hq.cases h36 with ⟨s', hgo, rfl, hR⟩ | ⟨htr, rfl, hR⟩
                    · have hsg : step sj = .go s' := hst.out.trans hgo
                      obtain ⟨⟨f6, u6, c6⟩, hfin⟩ := ROn.setDig hR
                      have hdig := exec_dig hgo
                      have hd' : Dg s' := Dg.step hsg
                      have hrun : run lim s0 = (run (lim - j1) s').more j1 := by
                        rw [hRun.out, show lim - j = (lim - j1) + 1 by have := hj1.out; omega, run_go hsg, more_more]
                        congr 1
                        have := hj1.out
                        omega
                      have hlen : s'.out.length ≤ j1 := by
                        have := hLen.out
                        have := hj1.out
                        rcases step_out hsg with e | ⟨b, e⟩
                        · rw [e]; omega
                        · rw [e, List.length_append]; simp; omega
                      have jj : (j1 : Int) + 1 = ((j1 + 1 : Nat) : Int) := by omega
                      have jl : (j1 : Int) ≤ 100000000 := by have := hj1.out; omega
                      obtain ⟨j2, hj2⟩ : ∃ j2, j1 + 1 = j2 := ⟨_, rfl⟩
                      rw [hj2] at jj
                      rw [hdig] at hfin
                      replace hd' := Lib.hid hd'
                      replace hrun := Lib.hid hrun
                      replace hlen := Lib.hid hlen
                      by_cases y1 : 48 ≤ ch
                      · have v1 : decide (48 ≤ (ch : Int)) = true := decide_eq_true (by omega)
                        by_cases y2 : ch ≤ 57
                        · have v2 : decide ((ch : Int) ≤ 57) = true := decide_eq_true (by omega)
                          rw [decide_eq_true (show 48 ≤ ch ∧ ch ≤ 57 from ⟨y1, y2⟩)] at hfin
                          replace hfin := Lib.hid hfin
                          clear hq hR hgo hsg hdig hst cS c1 cm c0 hDg hRun hLen y1 y2 h36 hpc
                          go_wp2
                          go_roundw
                          case rel => exact ⟨j1, j2, s', by go_num, Lib.hid (by omega), by have := hj1.out; omega, hfin, hd', hrun, hlen⟩
                          case measure => have := hj1.out; simp [intOf]; omega
                        · have v2 : decide ((ch : Int) ≤ 57) = false := decide_eq_false (by omega)
                          rw [decide_eq_false (show ¬ (48 ≤ ch ∧ ch ≤ 57) from fun h => y2 h.2)] at hfin
                          replace hfin := Lib.hid hfin
                          clear hq hR hgo hsg hdig hst cS c1 cm c0 hDg hRun hLen y1 y2 h36 hpc
                          go_wp2
                          go_roundw
                          case rel => exact ⟨j1, j2, s', by go_num, Lib.hid (by omega), by have := hj1.out; omega, hfin, hd', hrun, hlen⟩
                          case measure => have := hj1.out; simp [intOf]; omega
                      · have v1 : decide (48 ≤ (ch : Int)) = false := decide_eq_false (by omega)
                        rw [decide_eq_false (show ¬ (48 ≤ ch ∧ ch ≤ 57) from fun h => y1 h.1)] at hfin
                        replace hfin := Lib.hid hfin
                        clear hq hR hgo hsg hdig hst cS c1 cm c0 hDg hRun hLen y1 h36 hpc
                        go_wp2
                        go_roundw
                        case rel => exact ⟨j1, j2, s', by go_num, Lib.hid (by omega), by have := hj1.out; omega, hfin, hd', hrun, hlen⟩
                        case measure => have := hj1.out; simp [intOf]; omega
                    · have hsg : step sj = .trap := hst.out.trans htr
                      obtain ⟨M2, D2, C2, O2, IA2, ic2, hA⟩ := hR
                      have c5 := (hA.f (i := 5) (v := O2) rfl).1
                      have hcv : (convert 35 9 O2).run Try.prog w1' = .ok (.string ⟨sj.out.toArray⟩) w1' := conv_own Try.underlying35 Try.underlying5 Try.underlying9 hA.out
                      obtain ⟨⟨k0', k1', k2', j0', j1', j2'⟩, zz⟩ := hend.out w1' sj.out 12 j1 hA.bel (by
                        rw [hans.out, hRun.out, show lim - j = (lim - j1) + 1 by have := hj1.out; omega, run_trap hsg]
                        show outV ⟨sj.out, 12, 1 + j⟩ = _
                        rw [show 1 + j = j1 by have := hj1.out; omega]
                        rfl)
                      replace zz := Lib.hid zz
                      obtain ⟨l, hl⟩ : ∃ l, sj.out = l := ⟨_, rfl⟩
                      rw [hl] at hcv zz
                      clear hq htr hsg hst cS c1 cm c0 hDg hRun hLen h36 hpc hA hl
                      go_wp2
                      exact zz.out _ rfl
                · have dp : decide (262144 ≤ (sj.pc : Int)) = true := decide_eq_true (by omega)
                  obtain ⟨⟨k0', k1', k2', j0', j1', j2'⟩, zz⟩ := hend.out wr sj.out 12 j1 hA.bel (by
                    rw [hans.out, hRun.out, show lim - j = (lim - j1) + 1 by have := hj1.out; omega, run_trap (by unfold step; rw [if_pos (by omega)])]
                    show outV ⟨sj.out, 12, 1 + j⟩ = _
                    rw [show 1 + j = j1 by have := hj1.out; omega]
                    rfl)
                  replace zz := Lib.hid zz
                  obtain ⟨l, hl⟩ : ∃ l, sj.out = l := ⟨_, rfl⟩
                  obtain ⟨pc, hpc⟩ : ∃ pc, sj.pc = pc := ⟨_, rfl⟩
                  rw [hl] at hcv zz
                  rw [hpc] at c1 dp
                  clear hA hp hOn hDg hRun hLen hl hpc
                  go_wp2
                  exact zz.out _ rfl
              · have dj : decide ((j1 : Int) ≤ steps) = false := decide_eq_false hcond
                have hjl : j = lim := by
                  by_cases hs : 0 ≤ steps
                  · have := hlim3.out hs; have := hj1.out; omega
                  · have := hlim4.out (by omega); omega
                obtain ⟨M', D, C, O, IA', ic', hA⟩ := hOn.out
                have c5 := (hA.f (i := 5) (v := O) rfl).1
                have hcv : (convert 35 9 O).run Try.prog wr = .ok (.string ⟨sj.out.toArray⟩) wr := conv_own Try.underlying35 Try.underlying5 Try.underlying9 hA.out
                have hout : outV (ans ts (q : Int) inp steps) = .agg #[.string ⟨sj.out.toArray⟩, .int .i64 13, .int .i64 (lim : Int)] := by
                  rw [hans.out, hRun.out, hjl, Nat.sub_self]
                  show outV ⟨sj.out, 13, 0 + lim⟩ = _
                  rw [Nat.zero_add]
                  rfl
                obtain ⟨⟨k0', k1', k2', j0', j1', j2'⟩, zz⟩ := hend.out wr sj.out 13 lim hA.bel hout
                obtain ⟨l, hl⟩ : ∃ l, sj.out = l := ⟨_, rfl⟩
                rw [hl] at hcv zz
                by_cases hs : steps < 0
                · have ds : decide (steps < 0) = true := decide_eq_true hs
                  rw [show (lim : Int) = 0 by have := hlim4.out hs; omega] at zz
                  replace zz := Lib.hid zz
                  clear hA hOn hDg hRun hLen hl hout hjl
                  go_wp2
                  exact zz.out _ rfl
                · have ds : decide (steps < 0) = false := decide_eq_false hs
                  rw [hlim3.out (by omega)] at zz
                  replace zz := Lib.hid zz
                  clear hA hOn hDg hRun hLen hl hout hjl
                  go_wp2
                  exact zz.out _ rfl
end Go.Proofs.Ytfdlgdgjbfoogaa.M17
