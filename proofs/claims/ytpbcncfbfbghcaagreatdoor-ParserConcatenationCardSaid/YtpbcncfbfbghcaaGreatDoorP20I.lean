/- Expressions of the landed reader: operations (layer 20). Expressions of the landed reader: the closures, expression (layer 20). -/
import Derived.Test.YtpbcncfbfbghcaaGreatDoorP20H
import Derived.Laws.EntriesVeiled
namespace Go.Proofs.YtpbcncfbfbghcaaGreatDoor.L20
set_option maxRecDepth 100000
open Go.RowKit Mem L19
set_option linter.unusedVariables false
set_option linter.unusedSimpArgs false

theorem bop_lev {v : Nat} (hv : 1 ≤ v) {ts : List Tk} (hg : Good ts) : bop v ts = (lev (tx ts) == v) := by
  unfold bop
  by_cases h : lev (tx ts) = v
  · have ht := lev_tk (op := tx ts) (by omega)
    cases ts with
    | nil => exfalso; revert h; show lev [] = v → False; rw [show lev [] = 0 from rfl]; omega
    | cons t q =>
      obtain ⟨a, T⟩ := t
      have := tk1_fun (hg _ List.mem_cons_self) ht
      have : a = 4 := this
      subst this
      rfl
  · rw [beq_eq_false_iff_ne.2 h, Bool.and_false]
/-- A function value that can be called. -/
def EntV (N : Nat) (f c : Array Value) : Prop := ∀ W : World, (callFunc N (f ++ c)).run Tryz.prog W = .ok (.enter N (f ++ c)) W
/-- Which functions the levels are; what their captured variables hold. -/
def fnOf : Nat → Nat
  | 0 => 184
  | 1 => 185
  | 2 => 186
  | _ => 187
def Cap (base B up : Nat) : Nat → Nat → Array Value → Array Value → World → Prop
  | 0, N, f, c, _ => N = 183 ∧ f = #[.pointer (some ⟨B, 0, none⟩)] ∧ c = #[]
  | 1, N, f, c, w => N = 181 ∧ f = #[] ∧ ∃ rb, (base ≤ rb ∧ rb < up) ∧ c = #[.pointer (some ⟨rb, 0, none⟩)] ∧ Blk 105 w rb [.pointer (some ⟨B, 0, none⟩)]
  | e + 2, N, f, c, w => N = fnOf e ∧ f = #[] ∧ ∃ rb pb N' f' c', (base ≤ rb ∧ rb < up) ∧ (base ≤ pb ∧ pb < up) ∧ c = #[.pointer (some ⟨rb, 0, none⟩), .pointer (some ⟨pb, 0, none⟩)] ∧ Blk 105 w rb [.pointer (some ⟨B, 0, none⟩)] ∧ Blk 161 w pb [.func (.func N') f' c'] ∧ Cap base B up (e + 1) N' f' c' w
theorem Blk.keep {T : TypeId} {F : Nat → Prop} {w w' : World} {g : Nat} {cs : List Value} (h : Blk T w g cs) (k : Kept F w w') (hF : F g) : Blk T w' g cs := (k.2 g hF h.lt).trans h
theorem Cap.keep {base B up : Nat} {w w' : World} (g : Kept (fun b => base ≤ b ∧ b < up) w w') : ∀ {d N : Nat} {f c : Array Value}, Cap base B up d N f c w → Cap base B up d N f c w'
  | 0, _, _, _, h => h
  | 1, _, _, _, ⟨h1, h2, rb, h3, h4, h5⟩ => ⟨h1, h2, rb, h3, h4, Blk.keep h5 g h3⟩
  | e + 2, _, _, _, ⟨h1, h2, rb, pb, N', f', c', h3, h4, h5, h6, h7, h8⟩ => ⟨h1, h2, rb, pb, N', f', c', h3, h4, h5, Blk.keep h6 g h3, Blk.keep h7 g h4, Cap.keep g h8⟩
theorem Cap.gr {base B up : Nat} (hB : B < base) {w w' : World} (g : Gr B w w') {d N : Nat} {f c : Array Value} (h : Cap base B up d N f c w) : Cap base B up d N f c w' := h.keep (g.kept fun b hb e => by have := hb.1; omega)
theorem Cap.set {base B up : Nat} {w : World} {d N : Nat} {f c : Array Value} (h : Cap base B up d N f c w) {g : Nat} (hg : up ≤ g) (i : Nat) (v : Value) : Cap base B up d N f c (w.setCell ⟨g, i, none⟩ v) := h.keep (Kept.set w (fun hb => by have := hb.2; omega) v)
/-- The captured boxes lie there already. -/
theorem Cap.lift {base B up : Nat} {w : World} : ∀ {d N : Nat} {f c : Array Value}, Cap base B up d N f c w → Cap base B w.heap.size d N f c w
  | 0, _, _, _, h => h
  | 1, _, _, _, ⟨h1, h2, rb, h3, h4, h5⟩ => ⟨h1, h2, rb, ⟨h3.1, h5.lt⟩, h4, h5⟩
  | e + 2, _, _, _, ⟨h1, h2, rb, pb, N', f', c', h3, h4, h5, h6, h7, h8⟩ => ⟨h1, h2, rb, pb, N', f', c', ⟨h3.1, h6.lt⟩, ⟨h4.1, h7.lt⟩, h5, h6, h7, Cap.lift h8⟩
theorem Cap.ent {base B up : Nat} {w : World} : ∀ {d N : Nat} {f c : Array Value}, d ≤ 5 → Cap base B up d N f c w → EntV N f c
  | 0, _, _, _, _, ⟨h1, h2, h3⟩ => by subst h1 h2 h3; exact fun _ => rfl
  | 1, _, _, _, _, ⟨h1, h2, rb, h3, h4, h5⟩ => by subst h1 h2 h4; exact fun _ => rfl
  | e + 2, _, _, _, hd, ⟨h1, h2, rb, pb, N', f', c', h3, h4, h5, h6, h7, h8⟩ => by
    subst h1 h2 h5
    match e, hd with
    | 0, _ => exact fun _ => rfl
    | 1, _ => exact fun _ => rfl
    | 2, _ => exact fun _ => rfl
    | 3, _ => exact fun _ => rfl
/-- The contract of the functions that read the levels 2 to 7, up to a fuel. -/
def LvC (base B : Nat) (l : List L19.Tok) (n v : Nat) : Prop := ∀ (m : Nat), m ≤ n → ∀ (o k up N : Nat) (f c : Array Value) (w : World) (r : Rs Exp), Cap base B up (7 - v) N f c w → RdS base B l k o w → expr m v o (at_ l k) = some r → Calls Tryz.prog N (f ++ c) w (Ae base B l o w (ExR w.heap.size) r)
theorem loop_stop {n v o : Nat} {x : Exp} {ts : List Tk} {r : Rs Exp} (hs : bop v ts = false) (h : loop n v o x ts = some r) : r = .ok x ts := by
  cases n with
  | zero => rw [loop] at h; cases h
  | succ n => rw [loop, hs] at h; injection h with h; exact h.symm
theorem loop_step {n v o : Nat} {x : Exp} {ts : List Tk} {r : Rs Exp} (hs : bop v ts = true) (h : loop n v o x ts = some r) : ∃ m q, n = m + 1 ∧ expr m (v + 1) o ts.tail = some q ∧ (match q with | .bad c us => r = .bad c us | .ok y us => if v = 3 then r = .ok (.bin (tx ts) x y) us else loop m v o (.bin (tx ts) x y) us = some r) := by
  cases n with
  | zero => rw [loop] at h; cases h
  | succ n =>
    rw [loop, hs, if_pos rfl] at h
    obtain ⟨q, hq, h2⟩ := opt_of h
    refine ⟨n, q, rfl, hq, ?_⟩
    cases q with
    | bad c us => injection h2 with h2; exact h2.symm
    | ok y us =>
      have h3 : (if v = 3 then some (Rs.ok (.bin (tx ts) x y) us) else loop n v o (.bin (tx ts) x y) us) = some r := h2
      dsimp only
      split
      · rename_i hv
        rw [if_pos hv] at h3
        injection h3 with h3
        exact h3.symm
      · rename_i hv
        rw [if_neg hv] at h3
        exact h3
theorem lv_adv {l : List L19.Tok} {k j : Nat} {n o v : Nat} {x : Exp} (hok : Lok l) (ho : o ≤ 100) (h1 : 1 ≤ v) (h7 : v ≤ 7) (hk : k ≤ l.length) (hj : j ≤ l.length) (h : expr n v o (at_ l k) = some (.ok x (at_ l j))) : k ≤ j := by
  have := ((sx1 n).1 v o (at_ l k)).1 _ _ h
  have := this.length_le
  rw [at_len l hk, at_len l hj] at this
  omega
section
variable {base B k o : Nat} {l : List L19.Tok} {w : World}
set_option maxHeartbeats 4000000 in
theorem operations_any {n v N up0 : Nat} {f c : Array Value} (h1 : 1 ≤ v) (h6 : v ≤ 6) (hL : LvC base B l n (v + 1)) (hC : Cap base B up0 (6 - v) N f c w) (h : RdS base B l k o w) {vi : Int} (hvi : vi = (v : Int) - 1) {r : Rs Exp} (hr : expr (n + 1) v o (at_ l k) = some r) :
    Calls Tryz.prog 182 #[.pointer (some ⟨B, 0, none⟩), .int .i64 vi, .func (.func N) f c] w (Ae base B l o w (ExR w.heap.size) r) := by
  rw [expr, if_neg (by omega)] at hr
  obtain ⟨q1, hq1, hr1⟩ := opt_of hr
  obtain ⟨W0, g, hW0, hg0, hb0, hst0, hgr0, hbg, hgl, hgB⟩ := start_box h ezero 51
  have hent := hC.ent (by omega)
  have hC0 := hC.lift.gr h.low hgr0
  have hlow := h.low
  have c1 := Lib.hid (hL n (Nat.le_refl _) o k _ N f c W0 q1 (by rw [show 7 - (v + 1) = 6 - v by omega]; exact hC0) hst0 hq1)
  unfold ezero at hW0 hb0
  have hok := h.ok
  have hkl := h.kn
  have ho := h.o1
  replace hent := Lib.hid hent
  replace hr1 := Lib.hid hr1
  replace hb0 := Lib.hid hb0
  replace hgr0 := Lib.hid hgr0
  replace hC0 := Lib.hid hC0
  replace hL := Lib.hid hL
  replace hok := Lib.hid hok
  clear h hr hC hst0
  go_enter Tryz.func182, Tryz.ntmps182
  go_wp2_with fail
  rw [hent.out, Oper.upon_enter]
  refine (c1.out).mono ?_
  rintro e w1 (⟨x, k1, v1, hx1, rfl, ⟨S, T, Nn, A, L, cap, rfl, hE1⟩, hst1, hg1⟩ | ⟨c, ts, hx1, rfl, hg1⟩)
  case inr => exact ⟨rfl, Ae.bad (bad_of hr1.out hx1) (hgr0.out.trans hg1)⟩
  have hl1 : loop n v o x (at_ l k1) = some r := ok_of hr1.out hx1
  have hs1 := hg1.size
  obtain ⟨W2, g2, hW2, hg2, hb2, hst2, hgr2, hbg2, hgl2, hgB2⟩ := start_box hst1 [.string S, .int .u32 Nn, .string T, .slice A L cap] 51
  have hbl2 : Below w1.heap.size w1 W2 := by rw [← hW2]; exact boxed w1 _
  have hb02 := (hg1.blk hb0.out hgB).below hbl2
  have hgg : g < g2 := by omega
  have hgrw := Gr.below (hgr0.out.trans hg1) hbl2
  have hC2 := (hC0.out.gr hlow hg1).gr hlow hgr2
  have hE2 : ExC W2 (fun b => g < b ∧ b ≠ g2) x [.string S, .int .u32 Nn, .string T, .slice A L cap] := ((hE1.mono (G := fun b => g < b ∧ b ≠ g2) fun b hb h => ⟨by omega, by omega⟩).keep (Kept.of_below hbl2))
  have hk1 := hst1.kn
  have hwg : w.heap.size ≤ g2 := by omega
  replace hb02 := Lib.hid hb02
  replace hb2 := Lib.hid hb2
  replace hgrw := Lib.hid hgrw
  replace hC2 := Lib.hid hC2
  replace hE2 := Lib.hid hE2
  replace hst2 := Lib.hid hst2
  replace hl1 := Lib.hid hl1
  replace hvi := Lib.hid hvi
  clear hr1 hb0 hgr0 hC0 c1 hq1 hx1 hE1 hst1 hg1 hgr2 hbl2 hkl
  go_wp2
  clear hW0 hW2
  go_loopw [8] (fun _ wr => ∃ (m k' : Nat) (x : Exp) (S T : ByteArray) (Nn : Int) (A : Option Addr) (L cap : Nat), m ≤ n ∧ k' ≤ l.length ∧ Hid (loop m v o x (at_ l k') = some r) ∧ Hid (Blk 51 wr g2 [.string S, .int .u32 Nn, .string T, .slice A L cap]) ∧ Hid (Blk 51 wr g [.string ⟨#[]⟩, .int .u32 0, .string ⟨#[]⟩, .slice none 0 0]) ∧ Hid (ExC wr (fun b => g < b ∧ b ≠ g2) x [.string S, .int .u32 Nn, .string T, .slice A L cap]) ∧ Hid (RdS base B l k' o wr) ∧ Hid (Gr B w wr) ∧ Hid (Cap base B w.heap.size (6 - v) N f c wr) ∧ g2 < wr.heap.size) (fun _ wr => l.length - placeOf wr B)
  case atStart => exact ⟨n, k1, x, S, T, Nn, A, L, cap, Nat.le_refl _, hk1, hl1, hb2, hb02, hE2, hst2, hgrw, hC2, hgl2⟩
  case round =>
    clear hb02 hb2 hgrw hC2 hE2 hst2 hl1 hgl2 hk1
    obtain ⟨m, k', x', S', T', N', A', L', cap', hm, hk', hl, hbX, hb0, hEx, hst, hgr, hCp, hgx⟩ := hrel
    have hgood := hok.out.goodAt k'
    have hbl := bop_lev h1 hgood
    have cP := Lib.hid (peek_any hst.out)
    have htx := tokAt_tx l k'
    obtain ⟨op, hop⟩ : ∃ op, (tokAt l k').2.1 = op := ⟨_, rfl⟩
    rw [hop] at htx
    rw [htx] at hbl
    rw [hop] at cP
    have hsl := strI_lev (T := op) h1 h6
    have cS := Lib.hid (fun (Y : ByteArray) (hY : strV op = .string Y) W => strength_any hY W)
    obtain ⟨si, hsi⟩ : ∃ si : Int, (strI op : Int) = si := ⟨_, rfl⟩
    rw [hsi] at cS
    have hf1 := fld1
    rcases hb : bop v (at_ l k') with _ | _
    · rw [hb] at hbl
      have hne := beq_eq_false_iff_ne.1 hbl.symm
      have t1 : (si == vi) = false := beq_eq_false_iff_ne.2 (fun e => hne (hsl.1 (by have := hvi.out; omega)))
      have hr1 := loop_stop hb hl.out
      subst hr1
      clear hne hbl hsl hop htx hb hsi hgood hl hm
      go_wp2_with fail
      refine (cP.out).mono ?_
      rintro e w3 ⟨K, Z, Y, rfl, hK, hZ, hY, hb3⟩
      clear hK hZ
      have cs := Lib.hid (cS.out Y hY)
      replace hb3 := Lib.hid hb3
      clear hY cS cP
      go_wp2_with fail
      refine (cs.out _).mono ?_
      rintro e w4 ⟨rfl, rfl⟩
      obtain ⟨z0, z1, z2, z3, _, _, _, _⟩ := ex_box (hbX.out.below hb3.out)
      have hbk := hb0.out.below hb3.out
      obtain ⟨y0, y1, y2, y3, f0, f1, f2, f3⟩ := ex_box hbk
      have hE4 : ExC w3 (fun b => g + 1 ≤ b) x' [.string S', .int .u32 N', .string T', .slice A' L' cap'] := (hEx.out.keep (Kept.of_below hb3.out)).mono fun b _ h => by have := h.1; omega
      have hst4 := Lib.hid (hst.out.below hb3.out)
      have hgr4 := Lib.hid (Gr.below hgr.out hb3.out)
      replace hE4 := Lib.hid hE4
      replace hbk := Lib.hid hbk
      clear hbX hb0 hEx hst hgr hCp hgx hb3 cs
      go_wp2
      exact ex_fin rfl (by simp) hbk.out hst4.out hbg hg0 hgr4.out (by omega) (Nat.lt_succ_self g) hE4.out rfl
    · rw [hb] at hbl
      have hev := beq_iff_eq.1 hbl.symm
      have t1 : (si == vi) = true := beq_iff_eq.2 (by have := hsl.2 hev; have := hvi.out; omega)
      obtain ⟨m1, q, rfl, hq, hq2⟩ := loop_step hb hl.out
      have hkd : tkind 4 (at_ l k') = .ok op (at_ l (k' + 1)) := by
        unfold tkind
        have : kd 4 (at_ l k') = true := by unfold bop at hb; exact (Bool.and_eq_true_iff.1 hb).1
        rw [this, if_pos rfl, htx, at_tail]
      have hkl2 : k' < l.length := at_ne (by rintro e; rw [e] at hb; cases hb)
      have hplace := hst.out.place
      have cK := Lib.hid (fun W (hW : Below wr.heap.size wr W) => expectKind_any (hst.out.below hW) (j := 4) (by decide) (ji := 4) rfl)
      rw [hkd] at cK
      rw [at_tail] at hq
      rw [htx] at hq2
      replace hq2 := Lib.hid hq2
      replace hq := Lib.hid hq
      clear hbl hsl htx hb hgood hl hop hkd
      go_wp2_with fail
      refine (cP.out).mono ?_
      rintro e w3 ⟨K, Z, Y, rfl, hK, hZ, hY, hb3⟩
      clear hK hZ
      have cs := Lib.hid (cS.out Y hY)
      have ck := Lib.hid (cK.out w3 hb3)
      replace hb3 := Lib.hid hb3
      clear cS cP cK
      go_wp2_with fail
      refine (cs.out _).mono ?_
      rintro e w3' ⟨rfl, rfl⟩
      clear cs
      go_wp2_with fail
      refine (ck.out).mono ?_
      rintro e w4 (⟨a4, k4, v4, hx4, rfl, hv4, hst4, hg4⟩ | ⟨c, ts, hx4, _⟩)
      case inr => cases hx4
      injection hx4 with hx4 hx5
      unfold StrR at hv4
      rw [← hx4, hY] at hv4
      subst hv4
      have hk4 : k4 = k' + 1 := by
        have := congrArg List.length hx5
        rw [at_len l (by omega), at_len l hst4.kn] at this
        have := hst4.kn
        omega
      subst hk4
      have hgr4 := (Gr.below hgr.out hb3.out).trans hg4
      have hCp4 := (hCp.out.gr hlow (Gr.of_below (B := B) hb3.out)).gr hlow hg4
      have c5 := Lib.hid (hL.out m1 (by omega) o (k' + 1) _ N f c w4 q (by rw [show 7 - (v + 1) = 6 - v by omega]; exact hCp4) hst4 hq.out)
      have hbX4 := hg4.blk (hbX.out.below hb3.out) hgB2
      have hb04 := hg4.blk (hb0.out.below hb3.out) hgB
      have hEx4 := (hEx.out.keep (Kept.of_below hb3.out)).keep (hg4.kept (F := fun b => g < b ∧ b ≠ g2) fun b h => by have := h.1; omega)
      have hs4 : g2 < w4.heap.size := by have := hg4.size; have := hb3.out.size; omega
      have hk4 := hst4.kn
      replace hgr4 := Lib.hid hgr4
      replace hCp4 := Lib.hid hCp4
      replace hbX4 := Lib.hid hbX4
      replace hb04 := Lib.hid hb04
      replace hEx4 := Lib.hid hEx4
      clear hst hgr hCp hbX hb0 hEx hb3 ck hst4 hg4 hx5 hgx
      go_wp2_with fail
      rw [hent.out, Oper.upon_enter]
      refine (c5.out).mono ?_
      rintro e w5 (⟨y, k5, v5, hx5, rfl, ⟨S5, T5, N5, A5, L5, cap5, rfl, hE5⟩, hst5, hg5⟩ | ⟨c, ts, hx5, rfl, hg5⟩)
      case inr =>
        have := hq2.out
        subst hx5
        exact ⟨rfl, Ae.bad this (hgr4.out.trans hg5)⟩
      subst hx5
      have hadv := lv_adv hok.out ho (by omega) (by omega) hk4 hst5.kn hq.out
      have hk5 := hst5.kn
      have hs5 := hg5.size
      obtain ⟨W6, g6, hW6, hg6, hb6, hst6, hgr6, hbg6, hgl6, hgB6⟩ := start_box hst5 [.string S5, .int .u32 N5, .string T5, .slice A5 L5 cap5] 51
      have hbl6 : Below w5.heap.size w5 W6 := by rw [← hW6]; exact boxed w5 _
      have hE6 : ExC W6 (fun b => g < b ∧ b ≠ g2) y [.string S5, .int .u32 N5, .string T5, .slice A5 L5 cap5] := (hE5.mono (G := fun b => g < b ∧ b ≠ g2) fun b _ h => ⟨by omega, by omega⟩).keep (Kept.of_below hbl6)
      have hbX6 := (hg5.blk hbX4.out hgB2).below hbl6
      have hb06 := (hg5.blk hb04.out hgB).below hbl6
      have hEx6 := (hEx4.out.keep (hg5.kept (F := fun b => g < b ∧ b ≠ g2) fun b h => by have := h.1; omega)).keep (Kept.of_below hbl6)
      have hgr6' := Gr.below (hgr4.out.trans hg5) hbl6
      have hCp6 := (hCp4.out.gr hlow hg5).gr hlow hgr6
      have hgx6 : g2 < W6.heap.size := by omega
      obtain ⟨z0, z1, z2, z3, _, _, _, _⟩ := ex_box hbX6
      obtain ⟨x0, x1, x2, x3, _, _, _, _⟩ := ex_box hb6
      obtain ⟨W7, hW7⟩ : ∃ W, W6.alloc (.cells #[.string S', .int .u32 N', .string T', .slice A' L' cap', .string S5, .int .u32 N5, .string T5, .slice A5 L5 cap5] 51) = W := ⟨_, rfl⟩
      have hbl7 : Below W6.heap.size W6 W7 := by rw [← hW7]; exact boxed W6 _
      have hXs : Exs W7 (fun b => g < b ∧ b ≠ g2) [x', y] (some ⟨W6.heap.size, 0, none⟩) 2 := by rw [← hW7]; exact exs_twoF hEx6 hE6 ⟨by omega, by omega⟩
      have hCx : ExC W7 (fun b => g < b ∧ b ≠ g2) (.bin op x' y) [.string Y, .int .u32 0, .string ⟨#[]⟩, .slice (some ⟨W6.heap.size, 0, none⟩) 2 2] := by
        have := ExC.of (x := .bin op x' y) hXs
        unfold eCells at this
        rw [show strV (Exp.bin op x' y).opS = _ from hY] at this
        exact this
      have hbX7 := hbX6.below hbl7
      have hb07 := hb06.below hbl7
      obtain ⟨y0, y1, y2, y3, f0, f1, f2, f3⟩ := ex_box hbX7
      obtain ⟨W8, hW8⟩ : ∃ W, (((W7.setCell ⟨g2, 0, none⟩ (.string Y)).setCell ⟨g2, 1, none⟩ (.int .u32 0)).setCell ⟨g2, 2, none⟩ (.string ⟨#[]⟩)).setCell ⟨g2, 3, none⟩ (.slice (some ⟨W6.heap.size, 0, none⟩) 2 2) = W := ⟨_, rfl⟩
      have hbX8 : Blk 51 W8 g2 [.string Y, .int .u32 0, .string ⟨#[]⟩, .slice (some ⟨W6.heap.size, 0, none⟩) 2 2] := by rw [← hW8]; exact (((hbX7.set 0 _).set 1 _).set 2 _).set 3 _
      have hne2 : g ≠ g2 := by omega
      have hb08 := Blk.other (Blk.other (Blk.other (Blk.other hb07 hne2 (i := 0) (.string Y)) hne2 (i := 1) (.int .u32 0)) hne2 (i := 2) (.string ⟨#[]⟩)) hne2 (i := 3) (.slice (some ⟨W6.heap.size, 0, none⟩) 2 2)
      rw [hW8] at hb08
      have kx : ∀ (W : World) (i : Nat) (v : Value), Kept (fun b => g < b ∧ b ≠ g2) W (W.setCell ⟨g2, i, none⟩ v) := fun W i v => Kept.set W (fun h => h.2 rfl) v
      have hC8 := (((hCx.keep (kx _ 0 (.string Y))).keep (kx _ 1 (.int .u32 0))).keep (kx _ 2 (.string ⟨#[]⟩))).keep (kx _ 3 (.slice (some ⟨W6.heap.size, 0, none⟩) 2 2))
      rw [hW8] at hC8
      have hbg2' : base ≤ g2 := hbg2
      have hst8 := ((((hst6.below hbl7).set hbg2 0 (.string Y)).set hbg2 1 (.int .u32 0)).set hbg2 2 (.string ⟨#[]⟩)).set hbg2 3 (.slice (some ⟨W6.heap.size, 0, none⟩) 2 2)
      rw [hW8] at hst8
      have hgr8 := Gr.set (i := 3) (Gr.set (i := 2) (Gr.set (i := 1) (Gr.set (i := 0) (Gr.below hgr6' hbl7) hwg (.string Y)) hwg (.int .u32 0)) hwg (.string ⟨#[]⟩)) hwg (.slice (some ⟨W6.heap.size, 0, none⟩) 2 2)
      rw [hW8] at hgr8
      have hCp7 := hCp6.gr hlow (Gr.of_below (B := B) hbl7)
      have hCp8 := (((hCp7.set hwg 0 (.string Y)).set hwg 1 (.int .u32 0)).set hwg 2 (.string ⟨#[]⟩)).set hwg 3 (.slice (some ⟨W6.heap.size, 0, none⟩) 2 2)
      rw [hW8] at hCp8
      have hgx8 : g2 < W8.heap.size := hbX8.lt
      have hpl8 := hst8.place
      replace hbX8 := Lib.hid hbX8
      replace hb08 := Lib.hid hb08
      replace hC8 := Lib.hid hC8
      replace hst8 := Lib.hid hst8
      replace hgr8 := Lib.hid hgr8
      replace hCp8 := Lib.hid hCp8
      replace hadv := Lib.hid hadv
      clear hCp7 kx hb07 hbX7 hCx hXs hbl7 hgr6' hCp6 hEx6 hE6 hbX6 hb06 hbl6 hst6 hgr6 hb6 hst5 hg5 hE5 hgr4 hCp4 hbX4 hb04 hEx4 hY hq c5
      by_cases h3 : v = 3
      · have t2 : (vi == 2) = true := beq_iff_eq.2 (by have := hvi.out; omega)
        have hrx : r = .ok (.bin op x' y) (at_ l k5) := by
          have := hq2.out
          dsimp only at this
          rw [if_pos h3] at this
          exact this
        subst hrx
        obtain ⟨u0, u1, u2, u3, e0, e1, e2, e3⟩ := ex_box hb08.out
        obtain ⟨p0, p1, p2, p3, _, _, _, _⟩ := ex_box hbX8.out
        have hC9 := hC8.out.mono (G := fun b => g + 1 ≤ b) fun b _ h => by have := h.1; omega
        replace hC9 := Lib.hid hC9
        clear hq2 hbX8 hC8 hCp8
        go_wp2
        exact ex_fin rfl (by simp) hb08.out hst8.out hbg hg0 hgr8.out (by omega) (Nat.lt_succ_self g) hC9.out rfl
      · have t2 : (vi == 2) = false := beq_eq_false_iff_ne.2 (by have := hvi.out; omega)
        have hrx : loop m1 v o (.bin op x' y) (at_ l k5) = some r := by
          have := hq2.out
          dsimp only at this
          rw [if_neg h3] at this
          exact this
        replace hrx := Lib.hid hrx
        clear hq2
        go_wp2
        go_roundw
        case rel => exact ⟨m1, k5, .bin op x' y, Y, _, _, _, _, _, by omega, hk5, hrx, hbX8, hb08, hC8, hst8, hgr8, hCp8, hgx8⟩
        case measure => rw [hpl8, hplace]; have := hadv.out; omega
end
end Go.Proofs.YtpbcncfbfbghcaaGreatDoor.L20
namespace Go.Proofs.YtpbcncfbfbghcaaGreatDoor.L20
set_option maxRecDepth 100000
open Go.RowKit Mem L19
set_option linter.unusedVariables false
set_option linter.unusedSimpArgs false

section
variable {base B k o : Nat} {l : List L19.Tok} {w : World}
/-- A box with a function value. -/
theorem fn_box (h : RdS base B l k o w) (v : Value) (T : TypeId) : ∃ Wz g W, w.alloc (.cells #[.nilFunc] T) = Wz ∧ w.heap.size = g ∧ Wz.cell? ⟨g, 0, none⟩ = some .nilFunc ∧ Wz.frozen? ⟨g, 0, none⟩ = false ∧ Wz.setCell ⟨g, 0, none⟩ v = W ∧ Blk T W g [v] ∧ RdS base B l k o W ∧ Gr B w W ∧ base ≤ g ∧ g < W.heap.size ∧ g ≠ B := by
  obtain ⟨Wz, g, h1, h2, h3, h4, h5, h6, h7, h8⟩ := start_box h [.nilFunc] T
  exact ⟨Wz, g, _, h1, h2, h3.cell 0, h3.frz 0, rfl, h3.set 0 v, h4.set h6 0 v, Gr.set h5 (by omega) v, h6, by simpa using h7, h8⟩
set_option maxHeartbeats 4000000 in
theorem lv6_any {n up N : Nat} {f c : Array Value} (hL : LvC base B l n 7) (hC : Cap base B up 1 N f c w) (h : RdS base B l k o w) {r : Rs Exp} (hr : expr (n + 1) 6 o (at_ l k) = some r) :
    Calls Tryz.prog N (f ++ c) w (Ae base B l o w (ExR w.heap.size) r) := by
  obtain ⟨rfl, rfl, rb, hrb, rfl, hbr⟩ := hC
  have hmf : ∀ (fn : Go.Fn) (first cap : Array Value) (w : World), (Instr.makeFunc fn first cap).run Tryz.prog w = .ok (.func fn first cap) w := fun _ _ _ _ => rfl
  obtain ⟨W0, g, hW0, hg0, hb0, hst0, hgr0, hbg, hgl, hgB⟩ := start_box h ezero 51
  have c1 := Lib.hid (operations_any (v := 6) (by decide) (by decide) hL (up0 := W0.heap.size) (N := 183) (f := #[.pointer (some ⟨B, 0, none⟩)]) (c := #[]) ⟨rfl, rfl, rfl⟩ hst0 (vi := 5) rfl hr)
  have hlow := h.low
  have r0 := (hgr0.blk hbr (by omega)).cell 0
  simp only [List.getElem?_cons_zero] at r0
  unfold ezero at hW0 hb0
  replace hb0 := Lib.hid hb0
  replace hgr0 := Lib.hid hgr0
  show Calls Tryz.prog 181 #[.pointer (some ⟨rb, 0, none⟩)] w _
  clear h hr hL hst0 hbr
  go_enter Tryz.func181, Tryz.ntmps181
  go_wp2_with fail
  refine (c1.out).mono ?_
  rintro e w1 (⟨x, k1, v1, hx1, rfl, ⟨S, T, Nn, A, L, cap, rfl, hE1⟩, hst1, hg1⟩ | ⟨c, ts, hx1, rfl, hg1⟩)
  case inr => exact ⟨rfl, Ae.bad hx1 (hgr0.out.trans hg1)⟩
  have hb1 := hg1.blk hb0.out hgB
  obtain ⟨u0, u1, u2, u3, e0, e1, e2, e3⟩ := ex_box hb1
  have hgr1 := Lib.hid (hgr0.out.trans hg1)
  replace hb1 := Lib.hid hb1
  replace hst1 := Lib.hid hst1
  replace hE1 := Lib.hid hE1
  replace hx1 := Lib.hid hx1
  clear hb0 hgr0 hg1 c1 hW0
  go_wp2
  exact ex_fin rfl (by simp) hb1.out hst1.out hbg hg0 hgr1.out (by omega) hgl hE1.out hx1.out
set_option maxHeartbeats 4000000 in
theorem lv5_any {n up N : Nat} {f c : Array Value} (hL : LvC base B l n 6) (hC : Cap base B up 2 N f c w) (h : RdS base B l k o w) {r : Rs Exp} (hr : expr (n + 1) 5 o (at_ l k) = some r) :
    Calls Tryz.prog N (f ++ c) w (Ae base B l o w (ExR w.heap.size) r) := by
  obtain ⟨rfl, rfl, rb, pb, N', f', c', hrb, hpb, rfl, hbr, hbp, hC'⟩ := hC
  obtain ⟨W0, g, hW0, hg0, hb0, hst0, hgr0, hbg, hgl, hgB⟩ := start_box h ezero 51
  have hlow := h.low
  have c1 := Lib.hid (operations_any (v := 5) (by decide) (by decide) hL (hC'.gr hlow hgr0) hst0 (vi := 4) rfl hr)
  have r0 := (hgr0.blk hbr (by omega)).cell 0
  have p0 := (hgr0.blk hbp (by omega)).cell 0
  simp only [List.getElem?_cons_zero] at r0 p0
  unfold ezero at hW0 hb0
  replace hb0 := Lib.hid hb0
  replace hgr0 := Lib.hid hgr0
  show Calls Tryz.prog 184 #[.pointer (some ⟨rb, 0, none⟩), .pointer (some ⟨pb, 0, none⟩)] w _
  clear h hr hL hst0 hbr hbp hC'
  go_enter Tryz.func184, Tryz.ntmps184
  go_wp2_with fail
  refine (c1.out).mono ?_
  rintro e w1 (⟨x, k1, v1, hx1, rfl, ⟨S, T, Nn, A, L, cap, rfl, hE1⟩, hst1, hg1⟩ | ⟨c, ts, hx1, rfl, hg1⟩)
  case inr => exact ⟨rfl, Ae.bad hx1 (hgr0.out.trans hg1)⟩
  have hb1 := hg1.blk hb0.out hgB
  obtain ⟨u0, u1, u2, u3, e0, e1, e2, e3⟩ := ex_box hb1
  have hgr1 := Lib.hid (hgr0.out.trans hg1)
  replace hb1 := Lib.hid hb1
  replace hst1 := Lib.hid hst1
  replace hE1 := Lib.hid hE1
  replace hx1 := Lib.hid hx1
  clear hb0 hgr0 hg1 c1 hW0
  go_wp2
  exact ex_fin rfl (by simp) hb1.out hst1.out hbg hg0 hgr1.out (by omega) hgl hE1.out hx1.out
set_option maxHeartbeats 4000000 in
theorem lv4_any {n up N : Nat} {f c : Array Value} (hL : LvC base B l n 5) (hC : Cap base B up 3 N f c w) (h : RdS base B l k o w) {r : Rs Exp} (hr : expr (n + 1) 4 o (at_ l k) = some r) :
    Calls Tryz.prog N (f ++ c) w (Ae base B l o w (ExR w.heap.size) r) := by
  obtain ⟨rfl, rfl, rb, pb, N', f', c', hrb, hpb, rfl, hbr, hbp, hC'⟩ := hC
  obtain ⟨W0, g, hW0, hg0, hb0, hst0, hgr0, hbg, hgl, hgB⟩ := start_box h ezero 51
  have hlow := h.low
  have c1 := Lib.hid (operations_any (v := 4) (by decide) (by decide) hL (hC'.gr hlow hgr0) hst0 (vi := 3) rfl hr)
  have r0 := (hgr0.blk hbr (by omega)).cell 0
  have p0 := (hgr0.blk hbp (by omega)).cell 0
  simp only [List.getElem?_cons_zero] at r0 p0
  unfold ezero at hW0 hb0
  replace hb0 := Lib.hid hb0
  replace hgr0 := Lib.hid hgr0
  show Calls Tryz.prog 185 #[.pointer (some ⟨rb, 0, none⟩), .pointer (some ⟨pb, 0, none⟩)] w _
  clear h hr hL hst0 hbr hbp hC'
  go_enter Tryz.func185, Tryz.ntmps185
  go_wp2_with fail
  refine (c1.out).mono ?_
  rintro e w1 (⟨x, k1, v1, hx1, rfl, ⟨S, T, Nn, A, L, cap, rfl, hE1⟩, hst1, hg1⟩ | ⟨c, ts, hx1, rfl, hg1⟩)
  case inr => exact ⟨rfl, Ae.bad hx1 (hgr0.out.trans hg1)⟩
  have hb1 := hg1.blk hb0.out hgB
  obtain ⟨u0, u1, u2, u3, e0, e1, e2, e3⟩ := ex_box hb1
  have hgr1 := Lib.hid (hgr0.out.trans hg1)
  replace hb1 := Lib.hid hb1
  replace hst1 := Lib.hid hst1
  replace hE1 := Lib.hid hE1
  replace hx1 := Lib.hid hx1
  clear hb0 hgr0 hg1 c1 hW0
  go_wp2
  exact ex_fin rfl (by simp) hb1.out hst1.out hbg hg0 hgr1.out (by omega) hgl hE1.out hx1.out
set_option maxHeartbeats 4000000 in
theorem lv3_any {n up N : Nat} {f c : Array Value} (hL : LvC base B l n 4) (hC : Cap base B up 4 N f c w) (h : RdS base B l k o w) {r : Rs Exp} (hr : expr (n + 1) 3 o (at_ l k) = some r) :
    Calls Tryz.prog N (f ++ c) w (Ae base B l o w (ExR w.heap.size) r) := by
  obtain ⟨rfl, rfl, rb, pb, N', f', c', hrb, hpb, rfl, hbr, hbp, hC'⟩ := hC
  obtain ⟨W0, g, hW0, hg0, hb0, hst0, hgr0, hbg, hgl, hgB⟩ := start_box h ezero 51
  have hlow := h.low
  have c1 := Lib.hid (operations_any (v := 3) (by decide) (by decide) hL (hC'.gr hlow hgr0) hst0 (vi := 2) rfl hr)
  have r0 := (hgr0.blk hbr (by omega)).cell 0
  have p0 := (hgr0.blk hbp (by omega)).cell 0
  simp only [List.getElem?_cons_zero] at r0 p0
  unfold ezero at hW0 hb0
  replace hb0 := Lib.hid hb0
  replace hgr0 := Lib.hid hgr0
  show Calls Tryz.prog 186 #[.pointer (some ⟨rb, 0, none⟩), .pointer (some ⟨pb, 0, none⟩)] w _
  clear h hr hL hst0 hbr hbp hC'
  go_enter Tryz.func186, Tryz.ntmps186
  go_wp2_with fail
  refine (c1.out).mono ?_
  rintro e w1 (⟨x, k1, v1, hx1, rfl, ⟨S, T, Nn, A, L, cap, rfl, hE1⟩, hst1, hg1⟩ | ⟨c, ts, hx1, rfl, hg1⟩)
  case inr => exact ⟨rfl, Ae.bad hx1 (hgr0.out.trans hg1)⟩
  have hb1 := hg1.blk hb0.out hgB
  obtain ⟨u0, u1, u2, u3, e0, e1, e2, e3⟩ := ex_box hb1
  have hgr1 := Lib.hid (hgr0.out.trans hg1)
  replace hb1 := Lib.hid hb1
  replace hst1 := Lib.hid hst1
  replace hE1 := Lib.hid hE1
  replace hx1 := Lib.hid hx1
  clear hb0 hgr0 hg1 c1 hW0
  go_wp2
  exact ex_fin rfl (by simp) hb1.out hst1.out hbg hg0 hgr1.out (by omega) hgl hE1.out hx1.out
set_option maxHeartbeats 4000000 in
theorem lv2_any {n up N : Nat} {f c : Array Value} (hL : LvC base B l n 3) (hC : Cap base B up 5 N f c w) (h : RdS base B l k o w) {r : Rs Exp} (hr : expr (n + 1) 2 o (at_ l k) = some r) :
    Calls Tryz.prog N (f ++ c) w (Ae base B l o w (ExR w.heap.size) r) := by
  obtain ⟨rfl, rfl, rb, pb, N', f', c', hrb, hpb, rfl, hbr, hbp, hC'⟩ := hC
  obtain ⟨W0, g, hW0, hg0, hb0, hst0, hgr0, hbg, hgl, hgB⟩ := start_box h ezero 51
  have hlow := h.low
  have c1 := Lib.hid (operations_any (v := 2) (by decide) (by decide) hL (hC'.gr hlow hgr0) hst0 (vi := 1) rfl hr)
  have r0 := (hgr0.blk hbr (by omega)).cell 0
  have p0 := (hgr0.blk hbp (by omega)).cell 0
  simp only [List.getElem?_cons_zero] at r0 p0
  unfold ezero at hW0 hb0
  replace hb0 := Lib.hid hb0
  replace hgr0 := Lib.hid hgr0
  show Calls Tryz.prog 187 #[.pointer (some ⟨rb, 0, none⟩), .pointer (some ⟨pb, 0, none⟩)] w _
  clear h hr hL hst0 hbr hbp hC'
  go_enter Tryz.func187, Tryz.ntmps187
  go_wp2_with fail
  refine (c1.out).mono ?_
  rintro e w1 (⟨x, k1, v1, hx1, rfl, ⟨S, T, Nn, A, L, cap, rfl, hE1⟩, hst1, hg1⟩ | ⟨c, ts, hx1, rfl, hg1⟩)
  case inr => exact ⟨rfl, Ae.bad hx1 (hgr0.out.trans hg1)⟩
  have hb1 := hg1.blk hb0.out hgB
  obtain ⟨u0, u1, u2, u3, e0, e1, e2, e3⟩ := ex_box hb1
  have hgr1 := Lib.hid (hgr0.out.trans hg1)
  replace hb1 := Lib.hid hb1
  replace hst1 := Lib.hid hst1
  replace hE1 := Lib.hid hE1
  replace hx1 := Lib.hid hx1
  clear hb0 hgr0 hg1 c1 hW0
  go_wp2
  exact ex_fin rfl (by simp) hb1.out hst1.out hbg hg0 hgr1.out (by omega) hgl hE1.out hx1.out
set_option maxHeartbeats 4000000 in
theorem expression_any {n : Nat} (hL : LvC base B l n 2) (h : RdS base B l k o w) {r : Rs Exp} (hr : expr (n + 1) 1 o (at_ l k) = some r) :
    Calls Tryz.prog 155 #[.pointer (some ⟨B, 0, none⟩)] w (Ae base B l o w (ExR w.heap.size) r) := by
  have hmf : ∀ (fn : Go.Fn) (first cap : Array Value) (w : World), (Instr.makeFunc fn first cap).run Tryz.prog w = .ok (.func fn first cap) w := fun _ _ _ _ => rfl
  have hlow := h.low
  have hbig := h.big
  obtain ⟨Wr, rb, hWr, hrb, hbr, hstr, hgrr, hbgr, hglr, hgBr⟩ := start_box h [.pointer (some ⟨B, 0, none⟩)] 105
  obtain ⟨W0, g, hW0, hg0, hb0, hst0, hgr0, hbg, hgl, hgB⟩ := start_box hstr ezero 51
  unfold ezero at hW0 hb0
  obtain ⟨Z3, g3, W3, hZ3, hg3, hc3, hf3, hW3, hb3, hst3, hgr3, hbg3, hgl3, hgB3⟩ := fn_box hst0 (.func (.func 181) #[] #[.pointer (some ⟨rb, 0, none⟩)]) 161
  obtain ⟨Z4, g4, W4, hZ4, hg4, hc4, hf4, hW4, hb4, hst4, hgr4, hbg4, hgl4, hgB4⟩ := fn_box hst3 (.func (.func 184) #[] #[.pointer (some ⟨rb, 0, none⟩), .pointer (some ⟨g3, 0, none⟩)]) 161
  obtain ⟨Z5, g5, W5, hZ5, hg5, hc5, hf5, hW5, hb5, hst5, hgr5, hbg5, hgl5, hgB5⟩ := fn_box hst4 (.func (.func 185) #[] #[.pointer (some ⟨rb, 0, none⟩), .pointer (some ⟨g4, 0, none⟩)]) 161
  obtain ⟨Z6, g6, W6, hZ6, hg6, hc6, hf6, hW6, hb6, hst6, hgr6, hbg6, hgl6, hgB6⟩ := fn_box hst5 (.func (.func 186) #[] #[.pointer (some ⟨rb, 0, none⟩), .pointer (some ⟨g5, 0, none⟩)]) 161
  have hR6 : Blk 105 W6 rb [.pointer (some ⟨B, 0, none⟩)] := hgr6.blk (hgr5.blk (hgr4.blk (hgr3.blk (hgr0.blk hbr hgBr) hgBr) hgBr) hgBr) hgBr
  have hZx : Blk 51 W6 g [.string ⟨#[]⟩, .int .u32 0, .string ⟨#[]⟩, .slice none 0 0] := hgr6.blk (hgr5.blk (hgr4.blk (hgr3.blk hb0 hgB) hgB) hgB) hgB
  have h36 := hgr6.blk (hgr5.blk (hgr4.blk hb3 hgB3) hgB3) hgB3
  have h46 := hgr6.blk (hgr5.blk hb4 hgB4) hgB4
  have h56 := hgr6.blk hb5 hgB5
  have hG6 : Gr B w W6 := ((((hgrr.trans hgr0).trans hgr3).trans hgr4).trans hgr5).trans hgr6
  have k1 : Cap base B W6.heap.size 1 181 #[] #[.pointer (some ⟨rb, 0, none⟩)] W6 := ⟨rfl, rfl, rb, ⟨hbgr, hR6.lt⟩, rfl, hR6⟩
  have k2 : Cap base B W6.heap.size 2 184 #[] #[.pointer (some ⟨rb, 0, none⟩), .pointer (some ⟨g3, 0, none⟩)] W6 := ⟨rfl, rfl, rb, g3, _, _, _, ⟨hbgr, hR6.lt⟩, ⟨hbg3, h36.lt⟩, rfl, hR6, h36, k1⟩
  have k3 : Cap base B W6.heap.size 3 185 #[] #[.pointer (some ⟨rb, 0, none⟩), .pointer (some ⟨g4, 0, none⟩)] W6 := ⟨rfl, rfl, rb, g4, _, _, _, ⟨hbgr, hR6.lt⟩, ⟨hbg4, h46.lt⟩, rfl, hR6, h46, k2⟩
  have k4 : Cap base B W6.heap.size 4 186 #[] #[.pointer (some ⟨rb, 0, none⟩), .pointer (some ⟨g5, 0, none⟩)] W6 := ⟨rfl, rfl, rb, g5, _, _, _, ⟨hbgr, hR6.lt⟩, ⟨hbg5, h56.lt⟩, rfl, hR6, h56, k3⟩
  have k5 : Cap base B W6.heap.size 5 187 #[] #[.pointer (some ⟨rb, 0, none⟩), .pointer (some ⟨g6, 0, none⟩)] W6 := ⟨rfl, rfl, rb, g6, _, _, _, ⟨hbgr, hR6.lt⟩, ⟨hbg6, hb6.lt⟩, rfl, hR6, hb6, k4⟩
  have c1 := Lib.hid (operations_any (v := 1) (by decide) (by decide) hL k5 hst6 (vi := 0) rfl hr)
  have r0 := hR6.cell 0
  have r1 := hbr.cell 0
  simp only [List.getElem?_cons_zero] at r0 r1
  have hn : g < W6.heap.size := hZx.lt
  have hwg : w.heap.size ≤ g := by have := hgrr.size; omega
  replace hZx := Lib.hid hZx
  replace hG6 := Lib.hid hG6
  clear h hr hL hstr hst0 hst3 hst4 hst5 hst6 hbr hb0 hb3 hb4 hb5 hb6 hgrr hgr0 hgr3 hgr4 hgr5 hgr6 hR6 h36 h46 h56 k1 k2 k3 k4 k5
  go_enter Tryz.func155, Tryz.ntmps155
  go_wp2_with fail
  refine (c1.out).mono ?_
  rintro e w1 (⟨x, k1, v1, hx1, rfl, ⟨S, T, Nn, A, L, cap, rfl, hE1⟩, hst1, hg1⟩ | ⟨c, ts, hx1, rfl, hg1⟩)
  case inr => exact ⟨rfl, Ae.bad hx1 (hG6.out.trans hg1)⟩
  have hb1 := hg1.blk hZx.out hgB
  obtain ⟨u0, u1, u2, u3, e0, e1, e2, e3⟩ := ex_box hb1
  have hgr1 := Lib.hid (hG6.out.trans hg1)
  replace hb1 := Lib.hid hb1
  replace hst1 := Lib.hid hst1
  replace hE1 := Lib.hid hE1
  replace hx1 := Lib.hid hx1
  clear hZx hG6 hg1 c1 hWr hW0 hW3 hW4 hW5 hW6
  go_wp2
  exact ex_fin2 rfl (by simp) hb1.out hst1.out hbg hwg hgr1.out (by omega) hn hE1.out hx1.out
/-- Each fuel: all levels, expression, unary, primary. -/
theorem all_exp (base B : Nat) (l : List L19.Tok) : ∀ n, ExprC base B l n ∧ UnaryC base B l n ∧ PrimC base B l n ∧ LvC base B l n 2 ∧ LvC base B l n 3 ∧ LvC base B l n 4 ∧ LvC base B l n 5 ∧ LvC base B l n 6 ∧ LvC base B l n 7
  | 0 => by
    refine ⟨?_, ?_, ?_, ?_, ?_, ?_, ?_, ?_, ?_⟩
    · intro m hm o k w r h hr
      obtain rfl : m = 0 := by omega
      rw [expr] at hr; cases hr
    · intro m hm o k w r h hr
      obtain rfl : m = 0 := by omega
      rw [unary.eq_1] at hr; cases hr
    · intro m hm o k w r h hr
      obtain rfl : m = 0 := by omega
      rw [primary] at hr; cases hr
    all_goals
      intro m hm o k up N f c w r hC h hr
      obtain rfl : m = 0 := by omega
      rw [expr] at hr; cases hr
  | n + 1 => by
    obtain ⟨i1, i2, i3, j2, j3, j4, j5, j6, j7⟩ := all_exp base B l n
    refine ⟨?_, ?_, ?_, ?_, ?_, ?_, ?_, ?_, ?_⟩
    · intro m hm o k w r h hr
      rcases Nat.lt_or_ge m (n + 1) with hl | hl
      · exact i1 m (by omega) o k w r h hr
      · obtain rfl : m = n + 1 := by omega
        exact expression_any j2 h hr
    · intro m hm o k w r h hr
      rcases Nat.lt_or_ge m (n + 1) with hl | hl
      · exact i2 m (by omega) o k w r h hr
      · obtain rfl : m = n + 1 := by omega
        exact unary_any i2 i3 h hr
    · intro m hm o k w r h hr
      rcases Nat.lt_or_ge m (n + 1) with hl | hl
      · exact i3 m (by omega) o k w r h hr
      · obtain rfl : m = n + 1 := by omega
        exact primary_any i1 h hr
    · intro m hm o k up N f c w r hC h hr
      rcases Nat.lt_or_ge m (n + 1) with hl | hl
      · exact j2 m (by omega) o k up N f c w r hC h hr
      · obtain rfl : m = n + 1 := by omega
        exact lv2_any j3 hC h hr
    · intro m hm o k up N f c w r hC h hr
      rcases Nat.lt_or_ge m (n + 1) with hl | hl
      · exact j3 m (by omega) o k up N f c w r hC h hr
      · obtain rfl : m = n + 1 := by omega
        exact lv3_any j4 hC h hr
    · intro m hm o k up N f c w r hC h hr
      rcases Nat.lt_or_ge m (n + 1) with hl | hl
      · exact j4 m (by omega) o k up N f c w r hC h hr
      · obtain rfl : m = n + 1 := by omega
        exact lv4_any j5 hC h hr
    · intro m hm o k up N f c w r hC h hr
      rcases Nat.lt_or_ge m (n + 1) with hl | hl
      · exact j5 m (by omega) o k up N f c w r hC h hr
      · obtain rfl : m = n + 1 := by omega
        exact lv5_any j6 hC h hr
    · intro m hm o k up N f c w r hC h hr
      rcases Nat.lt_or_ge m (n + 1) with hl | hl
      · exact j6 m (by omega) o k up N f c w r hC h hr
      · obtain rfl : m = n + 1 := by omega
        exact lv6_any j7 hC h hr
    · intro m hm o k up N f c w r hC h hr
      rcases Nat.lt_or_ge m (n + 1) with hl | hl
      · exact j7 m (by omega) o k up N f c w r hC h hr
      · obtain rfl : m = n + 1 := by omega
        obtain ⟨rfl, rfl, rfl⟩ := hC
        rw [expr, if_pos rfl] at hr
        exact i2 n (Nat.le_refl _) o k w r h hr
theorem exprC (base B : Nat) (l : List L19.Tok) (n : Nat) : ExprC base B l n := (all_exp base B l n).1
end
end Go.Proofs.YtpbcncfbfbghcaaGreatDoor.L20
