/- The contract of the landed newState of layer 17. -/
import Derived.Test.YthmgocjmfhpafaaDoorM17OwnE
import Derived.Test.YthmgocjmfhpafaaDoorM17OwnF
namespace Go.Proofs.YthmgocjmfhpafaaDoor.M17
set_option maxRecDepth 100000
open Go.RowKit Mem
set_option linter.unusedVariables false
set_option linter.unusedSimpArgs false

/-- A slice of words that came in. -/
structure IsInp (w : World) (A : Option Addr) (n cap : Nat) (l : List Nat) : Prop where
  len : l.length = n
  le : n ≤ cap
  capm : cap ≤ maxLen
  nil : A = none → cap = 0
  rd : Rd w A (us l)
  fit : ∀ x ∈ l, x < 4294967296
/-- make([]uint32, MemoryWords). -/
theorem make_mem (w : World) : ∃ W, (Instr.makeSlice 83 (.int .i64 262144) (.int .i64 262144)).run Tryd.prog w = .ok (memV w.heap.size) W ∧ MemAt W w.heap.size (fun _ => 0) ∧ w.grownBy W none := by
  have info_u32 : (Tryd.prog.info? 47).map (fun i => (i.zero, i.size, i.bytes)) = some (some (.int .u32 0), 1, 4) := by kernel_rfl
  obtain ⟨i0, hi, hz0, hz1, hz2⟩ := info_parts info_u32
  obtain ⟨n, hn⟩ : ∃ n : Nat, n = 262144 := ⟨_, rfl⟩
  obtain ⟨W, h1, h2, h3⟩ := run_make_full (P := Tryd.prog) w w.heap.size 83 47 i0 _ 1 Tryd.underlying83 hi hz0 hz1 .i64 .i64 n (by rw [hz2]; omega) (by unfold maxLen; omega) (Nat.le_refl _)
  have e : ((n : Nat) : Int) = 262144 := by omega
  rw [e, hn] at h1
  refine ⟨W, h1, ?_, h3⟩
  rw [Nat.mul_one, show (Value.int .u32 0).cells = #[.int .u32 0] from rfl, toList_madeCells_one] at h2
  rcases h2.2 with ⟨h0, _⟩ | ⟨g, cap, cur, hv, _, hh, hle, _, hsz, ht⟩
  · cases h0
  · injection hv with hv1 hv2 hv3
    injection hv1 with hv1
    injection hv1 with hv1 _ _
    subst hv1
    refine ⟨cur, hh, by omega, fun i hi => ?_⟩
    have := congrArg (fun l => l[i]?) ht
    rw [List.getElem?_take_of_lt (by omega), List.getElem?_replicate, if_pos (by omega)] at this
    rw [← Array.getElem?_toList]
    exact this
/-- The state while the texts are placed. -/
structure Nw (w : World) (B M : Nat) (l0 : List Value) (m : Nat → Nat) (W : World) : Prop where
  bel : Below w.heap.size w W
  blk : Blk 92 W B l0
  mem : MemAt W M m
  wM : w.heap.size ≤ M
  wB : w.heap.size ≤ B
  ne : M ≠ B
theorem Nw.more {w W W' : World} {B M : Nat} {l0 : List Value} {m : Nat → Nat} (h : Nw w B M l0 m W) (g : W.grownBy W' none) : Nw w B M l0 m W' :=
  ⟨h.bel.grown g h.bel.size (fun j e => by cases e), (g.block B h.blk.lt (by simp)).trans h.blk, h.mem.kept (g.block M h.mem.lt (by simp)), h.wM, h.wB, h.ne⟩
theorem Nw.put {w W : World} {B M : Nat} {l0 : List Value} {m : Nat → Nat} (h : Nw w B M l0 m W) (a v : Nat) : Nw w B M l0 (upd m a v) (W.setCell ⟨M, a, none⟩ (.int .u32 (v : Int))) :=
  ⟨h.bel.setCell (p := ⟨M, a, none⟩) h.wM _, (Below.heap_setCell _ _ _ _ (fun e => h.ne e.symm)).trans h.blk, h.mem.set a v, h.wM, h.wB, h.ne⟩
set_option maxHeartbeats 8000000 in
theorem newState_own {A IA : Option Addr} {n c m ic : Nat} {ts : List Txt} {inp : List Nat} {w : World} (h : IsTxts w A n c ts) (hI : IsInp w IA m ic inp) (q : Nat) (hq : q < 262144) (hts : ∀ t ∈ ts, fits t) :
    Calls Tryd.prog 54 #[.slice A n c, .int .i64 (q : Int), .slice IA m ic] w fun e w' => ∃ B, e = .returned (.pointer (some ⟨B, 0, none⟩)) ∧ On w w.heap.size w' B (init ts q inp) 0 := by
  have mk := make_mem w
  obtain ⟨Wm, hmk, hm0, hgm⟩ := mk
  obtain ⟨M, hM⟩ : ∃ M, w.heap.size = M := ⟨_, rfl⟩
  rw [hM] at hmk hm0
  unfold memV at hmk
  have e1 : (q : Int) % 4294967296 = (q : Int) := by omega
  have e2 : IntKind.u32.wrap (q : Int) = (q : Int) := by rw [IntKind.wrap_u32]; omega
  have q0 : (0 : Int) ≤ (q : Int) := by omega
  have q1 : (q : Int) < 262144 := by omega
  go_enter Tryd.func54, Tryd.ntmps54
  go_wp2
  obtain ⟨B, hB⟩ : ∃ B, Wm.heap.size = B := ⟨_, rfl⟩
  obtain ⟨l0, hl0⟩ : ∃ l0 : List Value, [.slice (some ⟨M, 0, none⟩) 262144 262144, .slice none 0 0, .int .i64 256, .slice none 0 0, .int .i64 64, .int .u32 (q : Int), .bool false, .map none, .slice IA m ic, .slice none 0 0, .int .i64 0] = l0 := ⟨_, rfl⟩
  obtain ⟨WB, hWB⟩ : ∃ W, Wm.alloc (.cells #[.slice (some ⟨M, 0, none⟩) 262144 262144, .slice none 0 0, .int .i64 256, .slice none 0 0, .int .i64 64, .int .u32 (q : Int), .bool false, .map none, .slice IA m ic, .slice none 0 0, .int .i64 0] 92) = W := ⟨_, rfl⟩
  have n0 : Nw w B M l0 (fun _ => 0) WB := by
    rw [← hWB, ← hB, ← hl0, ← hM]
    have g := World.grownBy_alloc Wm (.cells #[.slice (some ⟨M, 0, none⟩) 262144 262144, .slice none 0 0, .int .i64 256, .slice none 0 0, .int .i64 64, .int .u32 (q : Int), .bool false, .map none, .slice IA m ic, .slice none 0 0, .int .i64 0] 92) none
    rw [← hM] at g
    refine ⟨((Below.refl _ _).grown hgm (Nat.le_refl _) (fun j e => by cases e)).grown g hgm.size (fun j e => by cases e), Blk.new Wm _ _, ?_, Nat.le_refl _, hgm.size, ?_⟩
    · rw [hM] at g ⊢
      exact hm0.kept (g.block M hm0.lt (by simp))
    · have := hm0.lt
      omega
  rw [hB, hWB]
  have n0 := Lib.hid (show Nw w B M l0 (placed (ts.take 0)) WB from n0)
  have hc0 : ∀ (W : World) (f : Nat → Nat), Nw w B M l0 f W → W.cell? ⟨B, 0, none⟩ = some (.slice (some ⟨M, 0, none⟩) 262144 262144) := fun W f h => by
    have := h.blk.cell 0
    rw [← hl0] at this
    exact this
  replace hc0 := Lib.hid hc0
  have hlen := Lib.hid h.len
  have hle := h.le
  have hcm := h.capm
  have hn63 : (n : Int) ≤ 9223372036854775807 := by unfold maxLen at hcm; omega
  have hget := Lib.hid (fun (k : Nat) (hk : k < ts.length) => h.get hk)
  replace hts := Lib.hid hts
  replace hI := Lib.hid hI
  replace hl0 := Lib.hid hl0
  clear hWB hB hgm hm0 hmk hM e1 e2 h
  go_loopw [21] (fun iv wr => ∃ (k : Nat), iv = .int .i64 (k : Int) ∧ k ≤ n ∧ Hid (Nw w B M l0 (placed (ts.take k)) wr)) (fun iv _ => n - (intOf iv).toNat)
  case atStart => exact ⟨0, rfl, Nat.zero_le _, n0⟩
  case round =>
    obtain ⟨k, rfl, hk, hN⟩ := hrel
    by_cases hlt : k < n
    · have dk : decide ((k : Int) < (n : Int)) = true := decide_eq_true (by omega)
      have k0 : (0 : Int) ≤ (k : Int) := by omega
      have k1 : (k : Int) < (n : Int) := by omega
      have k2 : (k : Int) + 1 ≤ 9223372036854775807 := by omega
      have hkl : k < ts.length := by have := hlen.out; omega
      obtain ⟨b, o, rfl, hbl, g0, g1⟩ := hget.out k hkl
      have hf := hts.out _ (List.getElem_mem hkl)
      have hpl := placed_take ts k hkl
      obtain ⟨⟨z, S⟩, hr⟩ : ∃ r, ts[k] = r := ⟨_, rfl⟩
      rw [hr] at g0 g1 hf hpl
      obtain ⟨f1, f2⟩ := hf
      dsimp only at f1 f2
      have g0 : wr.cell? ⟨b, o + k * 2, none⟩ = some (.int .i64 z) := (hN.out.bel.cell (p := ⟨b, o + k * 2, none⟩) hbl).trans g0
      have g1 : wr.cell? ⟨b, o + k * 2 + 1, none⟩ = some (.string S) := (hN.out.bel.cell (p := ⟨b, o + k * 2 + 1, none⟩) hbl).trans g1
      obtain ⟨X, hX⟩ : ∃ X, wr.heap.size = X := ⟨_, rfl⟩
      obtain ⟨wX, hwX⟩ : ∃ W, wr.alloc (.cells #[.int .i64 z, .string S] 52) = W := ⟨_, rfl⟩
      have hxx : wX.heap[X]? = some (.cells #[.int .i64 z, .string S] 52 (0, 0)) := by rw [← hwX, ← hX]; exact World.alloc_heap_new wr _
      have hNX : Nw w B M l0 (placeTo (placed (ts.take k)) (z, S) 0) wX := by
        rw [placeTo_zero, ← hwX]
        exact hN.out.more (World.grownBy_alloc wr _ none)
      have hMX : M ≠ X := by
        have := hN.out.mem.lt
        omega
      obtain ⟨zn, hzn⟩ : ∃ zn : Nat, z.toNat = zn := ⟨_, rfl⟩
      have ezn : z = (zn : Int) := by omega
      have hS : (S.size : Int) ≤ 262144 := by omega
      have hxc : wX.cell? ⟨X, 1, none⟩ = some (.string S) := by simp [World.cell?, hxx]
      replace hNX := Lib.hid hNX
      replace hxx := Lib.hid hxx
      replace hpl := Lib.hid hpl
      replace hMX := Lib.hid hMX
      replace f2 : (zn : Int) + (S.size : Int) ≤ 262144 := by omega
      subst ezn
      clear hr hN hbl hkl f1 hget hzn
      go_wp2
      go_loopw [28] (fun jv wi => ∃ (j : Nat), jv = .int .i64 (j : Int) ∧ j ≤ S.size ∧ Hid (Nw w B M l0 (placeTo (placed (ts.take k)) ((zn : Int), S) j) wi) ∧ Hid (wi.heap[X]? = some (.cells #[.int .i64 (zn : Int), .string S] 52 (0, 0)))) (fun jv _ => S.size - (intOf jv).toNat)
      case atStart => exact ⟨0, rfl, Nat.zero_le _, hNX, hxx⟩
      case round =>
        obtain ⟨j, rfl, hj, hN, hx⟩ := hrel
        by_cases hjlt : j < S.size
        · have dj : decide ((j : Int) < (S.size : Int)) = true := decide_eq_true (by omega)
          have j0 : (0 : Int) ≤ (j : Int) := by omega
          have j1 : (j : Int) < (S.size : Int) := by omega
          have cB := hc0.out _ _ hN.out
          have cX0 : wr.cell? ⟨X, 0, none⟩ = some (.int .i64 (zn : Int)) := by simp [World.cell?, hx.out]
          have cX1 : wr.cell? ⟨X, 1, none⟩ = some (.string S) := by simp [World.cell?, hx.out]
          obtain ⟨a, ha⟩ : ∃ a, zn + j = a := ⟨_, rfl⟩
          have a1 : (zn : Int) + (j : Int) = (a : Int) := by omega
          have a0 : (0 : Int) ≤ (a : Int) := by omega
          have a2 : (a : Int) < 262144 := by omega
          have aw : IntKind.i64.wrap (a : Int) = (a : Int) := by rw [IntKind.wrap_i64]; omega
          have cM := hN.out.mem.cell a (by omega)
          have fM := hN.out.mem.frz a
          have hput : Nw w B M l0 (placeTo (placed (ts.take k)) ((zn : Int), S) (j + 1)) (wr.setCell ⟨M, a, none⟩ (.int .u32 (S[j].toNat : Int))).drew := by
            rw [← placeTo_succ, show ((zn : Int), S).1.toNat + j = a by dsimp only; omega, codeAt_get S j hjlt]
            exact (hN.out.put a _).more (grown_drewN _ 1)
          have hxk : (wr.setCell ⟨M, a, none⟩ (.int .u32 (S[j].toNat : Int))).drew.heap[X]? = some (.cells #[.int .i64 (zn : Int), .string S] 52 (0, 0)) := (Below.heap_setCell _ _ _ _ (fun e => hMX.out e.symm)).trans hx.out
          have u8 : (S[j].toNat : Int) < 256 := by have := UInt8.toNat_lt S[j]; omega
          have u8n : S[j].toNat < 256 := UInt8.toNat_lt S[j]
          replace hput := Lib.hid hput
          replace hxk := Lib.hid hxk
          clear hN hx ha
          go_wp2_with fail
          go_region
          go_wp2
          go_roundw
          case rel => exact ⟨j + 1, by go_num, by omega, hput, hxk⟩
          case measure => simp [intOf]; omega
        · obtain rfl : j = S.size := by omega
          have dj : decide ((S.size : Int) < (S.size : Int)) = false := decide_eq_false (by omega)
          have hN2 : Hid (Nw w B M l0 (placed (ts.take (k + 1))) wr) := by
            rw [hpl.out, ← placeTo_all]
            exact hN
          clear hN hx
          go_wp2
          go_roundw
          case rel => exact ⟨k + 1, by go_num, by omega, hN2⟩
          case measure => simp [intOf]; omega
    · obtain rfl : k = n := by omega
      have dk : decide ((k : Int) < (k : Int)) = false := decide_eq_false (by omega)
      have cF := Lib.hid (effects_own B wr)
      have hN2 : Nw w B M l0 (placed ts) wr := by
        have := hN.out
        rwa [List.take_of_length_le (by have := hlen.out; omega)] at this
      have fin : ∀ (w' : World) (E P : Nat), w'.heap[E]? = some (.map (eff P) 9) → Blk 85 w' P [.pointer (some ⟨B, 0, none⟩)] → Below wr.heap.size wr w' → w'.frozen? ⟨B, 7, none⟩ = false ∧ (∃ u, w'.cell? ⟨B, 7, none⟩ = some u) ∧ On w w.heap.size (w'.setCell ⟨B, 7, none⟩ (.map (some E))) B (init ts q inp) 0 := fun w' E P h1 h2 h3 => by
        have hbk : Blk 92 w' B l0 := (h3.block B hN2.blk.lt).trans hN2.blk
        have hmm : MemAt w' M (placed ts) := hN2.mem.kept (h3.block M hN2.mem.lt)
        have hBel : Below w.heap.size w w' := chain hN2.bel h3
        have hlow : ∀ a, IA = some a → us inp ≠ [] → a.block < w.heap.size := fun a e1 e2 => by
          have hpos : 0 < (us inp).length := List.length_pos_iff.2 e2
          obtain ⟨b, o, e3, h4, _⟩ := hI.out.rd 0 hpos
          rw [e1] at e3
          cases e3
          exact h4
        have hA : At w w.heap.size w' B (init ts q inp) M E P (.slice none 0 0) (.slice none 0 0) (.slice none 0 0) IA ic l0 := by
          refine ⟨⟨hBel, fun i cs fz e => hBel.block i (Array.getElem?_eq_some_iff.1 e).1⟩, hbk, hmm, World.ownsRow_nil _ _ _ _, World.ownsRow_nil _ _ _ _, World.ownsRow_nil _ _ _ _, h1, h2, hI.out.rd.below hBel, hlow, ?_, hI.out.capm, hI.out.nil, hN2.wB, hN2.wM, hBel.size, (by simp [Value.ownBlock]), (by simp [Value.ownBlock]), .inl rfl, init_ok ts hq hI.out.fit⟩
          show inp.length ≤ ic
          rw [hI.out.len]
          exact hI.out.le
        obtain ⟨e1, e2⟩ := hA.f (i := 7) (v := .map none) (by rw [← hl0.out]; rfl)
        refine ⟨e2, ⟨_, e1⟩, At.on (M := M) (E := E) (P := P) (D := .slice none 0 0) (C := .slice none 0 0) (O := .slice none 0 0) (IA := IA) (ic := ic) ?_⟩
        have h5 := hA.field 7 (.map (some E))
        rw [← hl0.out] at h5
        have hil : (init ts q inp).inp.length = m := hI.out.len
        unfold rowV memV
        rw [hil]
        exact h5
      replace fin := Lib.hid fin
      clear hN hN2 hget hts
      go_wp2_with fail
      refine (cF.out).mono ?_
      rintro e w' ⟨E, P, rfl, h1, h2, h3⟩
      obtain ⟨z1, ⟨u, z2⟩, z3⟩ := fin.out w' E P h1 h2 h3
      replace z3 := Lib.hid z3
      clear fin cF h1 h2 h3
      go_wp2
      first | go_ret | skip
      exact ⟨B, rfl, z3.out⟩
end Go.Proofs.YthmgocjmfhpafaaDoor.M17
