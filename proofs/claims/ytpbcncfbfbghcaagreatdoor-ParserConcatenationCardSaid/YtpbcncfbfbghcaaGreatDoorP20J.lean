/- Statements of the landed reader: what the walks share; simple, assigned (layer 20). The contract of the landed statements, over statement (layer 20). Statements of the landed reader: action (layer 20). -/
import Derived.Test.YtpbcncfbfbghcaaGreatDoorP20I
import Derived.Deep.RegionWith
import Derived.Deep.RegionHeld
namespace Go.Proofs.YtpbcncfbfbghcaaGreatDoor.L20
set_option maxRecDepth 100000
open Go.RowKit Mem L19
set_option linter.unusedVariables false
set_option linter.unusedSimpArgs false

def szero : List Value := [.int .i64 0, .string ⟨#[]⟩, .slice none 0 0, .slice none 0 0, .slice none 0 0, .slice none 0 0]
/-- A statement's value; its trees lie in the blocks of F. -/
def StR (F : Nat → Prop) : Sta → Value → World → Prop := fun x v w' => ∃ (K : Int) (S : ByteArray) (I V T E : Option Addr) (li ci lv cv lt ct le ce : Nat),
  v = .agg #[.int .i64 K, .string S, .slice I li ci, .slice V lv cv, .slice T lt ct, .slice E le ce] ∧ StC w' F x [.int .i64 K, .string S, .slice I li ci, .slice V lv cv, .slice T lt ct, .slice E le ce]
def StsR (n0 : Nat) : List Sta → Value → World → Prop := fun x v w' => ∃ (A : Option Addr) (L cap : Nat), v = .slice A L cap ∧ x.length = L ∧ Sts w' (fun b => n0 ≤ b) x A cap
section
variable {base B k o : Nat} {l : List L19.Tok} {w : World}
theorem st_box {W : World} {g : Nat} {c0 c1 c2 c3 c4 c5 : Value} (h : Blk 104 W g [c0, c1, c2, c3, c4, c5]) : W.cell? ⟨g, 0, none⟩ = some c0 ∧ W.cell? ⟨g, 1, none⟩ = some c1 ∧ W.cell? ⟨g, 2, none⟩ = some c2 ∧ W.cell? ⟨g, 3, none⟩ = some c3 ∧ W.cell? ⟨g, 4, none⟩ = some c4 ∧ W.cell? ⟨g, 5, none⟩ = some c5 ∧
    W.frozen? ⟨g, 0, none⟩ = false ∧ W.frozen? ⟨g, 1, none⟩ = false ∧ W.frozen? ⟨g, 2, none⟩ = false ∧ W.frozen? ⟨g, 3, none⟩ = false ∧ W.frozen? ⟨g, 4, none⟩ = false ∧ W.frozen? ⟨g, 5, none⟩ = false := ⟨h.cell 0, h.cell 1, h.cell 2, h.cell 3, h.cell 4, h.cell 5, h.frz 0, h.frz 1, h.frz 2, h.frz 3, h.frz 4, h.frz 5⟩
/-- How a call that hands back a statement ends. -/
theorem st_fin {fn : Func} {i g : Nat} {F0 F : Nat → Prop} {r : Rs Sta} {x : Sta} {W : World} {tmps : Array Value} {c0 c1 c2 c3 c4 c5 : Value} {K : Int} {S : ByteArray} {I V T E : Option Addr} {li ci lv cv lt ct le ce : Nat} (hfn : fn.results = #[.cell i 104]) (ht : tmps.getD i undef = .pointer (some ⟨g, 0, none⟩))
    (hb : Blk 104 W g [c0, c1, c2, c3, c4, c5]) (hst : RdS base B l k o W) (hbg : base ≤ g) (hw : w.heap.size ≤ g) (hg : Gr B w W) (hF : ¬ F0 g) (hm : ∀ b, F0 b → F b) (hC : StC W F0 x [.int .i64 K, .string S, .slice I li ci, .slice V lv cv, .slice T lt ct, .slice E le ce]) (hr : r = .ok x (at_ l k)) :
    bodyPost Tryz.prog fn (Ae base B l o w (StR F) r) .ret { tmps := tmps, defers := [] } ((((((W.setCell ⟨g, 0, none⟩ (.int .i64 K)).setCell ⟨g, 1, none⟩ (.string S)).setCell ⟨g, 2, none⟩ (.slice I li ci)).setCell ⟨g, 3, none⟩ (.slice V lv cv)).setCell ⟨g, 4, none⟩ (.slice T lt ct)).setCell ⟨g, 5, none⟩ (.slice E le ce)) := by
  refine ret_cell (cs := [.int .i64 K, .string S, .slice I li ci, .slice V lv cv, .slice T lt ct, .slice E le ce]) hfn Tryz.underlying104 (by kernel_rfl) ht ((((((hb.set 0 _).set 1 _).set 2 _).set 3 _).set 4 _).set 5 _) (Ae.ok hr ⟨K, S, I, V, T, E, li, ci, lv, cv, lt, ct, le, ce, rfl, ?_⟩ ((((((hst.set hbg 0 _).set hbg 1 _).set hbg 2 _).set hbg 3 _).set hbg 4 _).set hbg 5 _) (Gr.set (Gr.set (Gr.set (Gr.set (Gr.set (Gr.set hg hw _) hw _) hw _) hw _) hw _) hw _))
  have k1 : ∀ (W : World) (i : Nat) (v : Value), Kept F0 W (W.setCell ⟨g, i, none⟩ v) := fun W i v => Kept.set W hF v
  exact ((((((hC.keep (k1 _ _ _)).keep (k1 _ _ _)).keep (k1 _ _ _)).keep (k1 _ _ _)).keep (k1 _ _ _)).keep (k1 _ _ _)).mono fun b _ h => hm b h
def simpP (x : Sta) (ts : List Tk) : Option (Rs Sta) := bnd (some (want [59] ts)) fun _ ts => some (.ok x ts)
set_option maxHeartbeats 4000000 in
theorem simple_any (h : RdS base B l k o w) {F : Nat → Prop} {x : Sta} {K : Int} {S : ByteArray} {I V T E : Option Addr} {li ci lv cv lt ct le ce : Nat} (hF : ∀ b, F b → b ≠ B) (hC : StC w F x [.int .i64 K, .string S, .slice I li ci, .slice V lv cv, .slice T lt ct, .slice E le ce]) {r : Rs Sta} (hr : simpP x (at_ l k) = some r) :
    Calls Tryz.prog 157 #[.pointer (some ⟨B, 0, none⟩), .agg #[.int .i64 K, .string S, .slice I li ci, .slice V lv cv, .slice T lt ct, .slice E le ce]] w (Ae base B l o w (StR F) r) := by
  unfold simpP at hr
  obtain ⟨Wb, gb, hWb, hgb, hbb, hstb, hgrb, hbgb, hglb, hgBb⟩ := start_box h [.int .i64 K, .string S, .slice I li ci, .slice V lv cv, .slice T lt ct, .slice E le ce] 104
  obtain ⟨W0, g, hW0, hg0, hb0, hst0, hgr0, hbg, hgl, hgB⟩ := start_box hstb szero 104
  unfold szero at hW0 hb0
  have c1 := Lib.hid (expect_any hst0 (ks_one 59 (by decide)) (S := ⟨#[59]⟩) rfl)
  have hgr01 := hgrb.trans hgr0
  have hbb0 := hgr0.blk hbb hgBb
  have hwg : w.heap.size ≤ g := by have := hgrb.size; omega
  have hC0 : StC W0 (fun b => F b ∧ b < w.heap.size) x [.int .i64 K, .string S, .slice I li ci, .slice V lv cv, .slice T lt ct, .slice E le ce] := by
    refine (hC.mono (G := fun b => F b ∧ b < w.heap.size) fun b hb h => ⟨h, hb⟩).keep (Gr.kept hgr01 fun b h => hF b h.1)
  replace hr := Lib.hid hr
  replace hb0 := Lib.hid hb0
  replace hbb0 := Lib.hid hbb0
  replace hgr01 := Lib.hid hgr01
  replace hC0 := Lib.hid hC0
  replace hF := Lib.hid hF
  clear h hstb hgrb hbb hst0 hgr0 hC
  go_enter Tryz.func157, Tryz.ntmps157
  go_wp2_with fail
  refine (c1.out).mono ?_
  rintro e w1 (⟨a1, k1, v1, hx1, rfl, hv1, hst1, hg1⟩ | ⟨c, ts, hx1, rfl, hg1⟩)
  case inr => exact ⟨rfl, Ae.bad (bad_of hr.out hx1) (hgr01.out.trans hg1)⟩
  unfold UnitR at hv1
  subst hv1
  have hr1 : r = .ok x (at_ l k1) := by
    have := ok_of hr.out hx1
    injection this with this
    exact this.symm
  obtain ⟨z0, z1, z2, z3, z4, z5, _, _, _, _, _, _⟩ := st_box (hg1.blk hbb0.out hgBb)
  have hb1 := hg1.blk hb0.out hgB
  obtain ⟨y0, y1, y2, y3, y4, y5, f0, f1, f2, f3, f4, f5⟩ := st_box hb1
  have hC1 := hC0.out.keep (Gr.kept hg1 fun b h => hF.out b h.1)
  have hgr1 := Lib.hid (hgr01.out.trans hg1)
  replace hb1 := Lib.hid hb1
  replace hst1 := Lib.hid hst1
  replace hC1 := Lib.hid hC1
  replace hr1 := Lib.hid hr1
  clear hr hb0 hbb0 hgr01 hC0 hF hx1 hg1 c1
  go_wp2
  exact st_fin rfl (by simp) hb1.out hst1.out hbg (by omega) hgr1.out (fun h => by have := h.2; omega) (fun b h => h.1) hC1.out hr1.out
def assnP (n o : Nat) (ts : List Tk) : Option (Rs Exp) := bnd (some (want [61] ts)) fun _ ts => expr n 1 o ts
set_option maxHeartbeats 4000000 in
theorem assigned_any {n : Nat} (h : RdS base B l k o w) {r : Rs Exp} (hr : assnP n o (at_ l k) = some r) :
    Calls Tryz.prog 190 #[.pointer (some ⟨B, 0, none⟩)] w (Ae base B l o w (ExR w.heap.size) r) := by
  unfold assnP at hr
  obtain ⟨W0, g, hW0, hg0, hb0, hst0, hgr0, hbg, hgl, hgB⟩ := start_box h ezero 51
  have c1 := Lib.hid (expect_any hst0 (ks_one 61 (by decide)) (S := ⟨#[61]⟩) rfl)
  unfold ezero at hW0 hb0
  replace hr := Lib.hid hr
  replace hb0 := Lib.hid hb0
  replace hgr0 := Lib.hid hgr0
  clear h hst0
  go_enter Tryz.func190, Tryz.ntmps190
  go_wp2_with fail
  refine (c1.out).mono ?_
  rintro e w1 (⟨a1, k1, v1, hx1, rfl, hv1, hst1, hg1⟩ | ⟨c, ts, hx1, rfl, hg1⟩)
  case inr => exact ⟨rfl, Ae.bad (bad_of hr.out hx1) (hgr0.out.trans hg1)⟩
  unfold UnitR at hv1
  subst hv1
  have hr1 := ok_of hr.out hx1
  have c2 := Lib.hid (exprC base B l n n (Nat.le_refl _) o k1 w1 r hst1 hr1)
  have hgr1 := Lib.hid (hgr0.out.trans hg1)
  have hb1 := Lib.hid (hg1.blk hb0.out hgB)
  have hs1 := hg1.size
  clear hr c1 hx1 hst1 hg1 hgr0 hb0 hr1 hW0
  go_wp2_with fail
  refine (c2.out).mono ?_
  rintro e w2 (⟨x, k2, v2, hx2, rfl, ⟨S, T, N, A, L, cap, rfl, hC2⟩, hst2, hg2⟩ | ⟨c, ts, hx2, rfl, hg2⟩)
  case inr => exact ⟨rfl, Ae.bad hx2 (hgr1.out.trans hg2)⟩
  have hb2 := hg2.blk hb1.out hgB
  obtain ⟨y0, y1, y2, y3, f0, f1, f2, f3⟩ := ex_box hb2
  have hgr2 := Lib.hid (hgr1.out.trans hg2)
  have hn : g < w1.heap.size := by omega
  replace hb2 := Lib.hid hb2
  replace hst2 := Lib.hid hst2
  replace hC2 := Lib.hid hC2
  replace hx2 := Lib.hid hx2
  clear hgr1 hb1 hg2 c2
  go_wp2
  exact ex_fin rfl (by simp) hb2.out hst2.out hbg hg0 hgr2.out (by omega) hn hC2.out hx2.out
/-- The contract of statement, up to a fuel. -/
def StmC (base B : Nat) (l : List L19.Tok) (n : Nat) : Prop := ∀ (m : Nat), m ≤ n → ∀ (o k : Nat) (w : World) (r : Rs Sta), RdS base B l k o w → stm m o (at_ l k) = some r → Calls Tryz.prog 129 #[.pointer (some ⟨B, 0, none⟩)] w (Ae base B l o w (StR fun b => w.heap.size ≤ b) r)
def StmsC (base B : Nat) (l : List L19.Tok) (n : Nat) : Prop := ∀ (m : Nat), m ≤ n → ∀ (o k : Nat) (w : World) (r : Rs (List Sta)), RdS base B l k o w → stms m o (at_ l k) = some r → Calls Tryz.prog 100 #[.pointer (some ⟨B, 0, none⟩)] w (Ae base B l o w (StsR w.heap.size) r)
def BlkC (base B : Nat) (l : List L19.Tok) (n : Nat) : Prop := ∀ (m : Nat), m ≤ n → ∀ (o k : Nat) (w : World) (r : Rs (List Sta)), RdS base B l k o w → L20.block m o (at_ l k) = some r → Calls Tryz.prog 156 #[.pointer (some ⟨B, 0, none⟩)] w (Ae base B l o w (StsR w.heap.size) r)
set_option maxHeartbeats 4000000 in
theorem block_any {n : Nat} (hS : StmsC base B l n) (h : RdS base B l k o w) {r : Rs (List Sta)} (hr : L20.block (n + 1) o (at_ l k) = some r) :
    Calls Tryz.prog 156 #[.pointer (some ⟨B, 0, none⟩)] w (Ae base B l o w (StsR w.heap.size) r) := by
  rw [L20.block] at hr
  have c1 := Lib.hid (begin_any h (ks_one 123 (by decide)) (S := ⟨#[123]⟩) rfl)
  have hlow := h.low
  have hbig := h.big
  replace hr := Lib.hid hr
  replace hS := Lib.hid hS
  clear h
  go_enter Tryz.func156, Tryz.ntmps156
  go_wp2_with fail
  refine (c1.out).mono ?_
  rintro e w1 (⟨a1, k1, v1, hx1, rfl, hv1, hst1, hg1⟩ | ⟨c, ts, hx1, rfl, hg1⟩)
  case inr => exact ⟨rfl, Ae.bad (bad_of hr.out hx1) hg1⟩
  unfold UnitR at hv1
  subst hv1
  obtain ⟨q2, hq2, hr2⟩ := opt_of (ok_of hr.out hx1)
  have c2 := Lib.hid (hS.out n (Nat.le_refl _) (o + 1) k1 w1 q2 hst1 hq2)
  have hs1 := hg1.size
  replace hg1 := Lib.hid hg1
  replace hr2 := Lib.hid hr2
  clear hr c1 hx1 hst1 hq2 hS
  go_wp2_with fail
  refine (c2.out).mono ?_
  rintro e w2 (⟨x, k2, v2, hx2, rfl, ⟨A, L, cap, rfl, hL2, hC2⟩, hst2, hg2⟩ | ⟨c, ts, hx2, rfl, hg2⟩)
  case inr => exact ⟨rfl, Ae.bad (bad_of hr2.out hx2) (hg1.out.trans hg2)⟩
  have hr3 := Lib.hid (ok_of hr2.out hx2)
  have c3 := Lib.hid (end_any hst2 (ks_one 125 (by decide)) (S := ⟨#[125]⟩) rfl)
  have hgr2 := Lib.hid (hg1.out.trans hg2)
  replace hC2 := Lib.hid hC2
  replace hL2 := Lib.hid hL2
  clear hr2 c2 hx2 hst2 hg2 hg1
  go_wp2_with fail
  refine (c3.out).mono ?_
  rintro e w4 (⟨a4, k4, v4, hx4, rfl, hv4, hst4, hg4⟩ | ⟨c, ts, hx4, rfl, hg4⟩)
  case inr => exact ⟨rfl, Ae.bad (bad_of hr3.out hx4) (hgr2.out.trans hg4)⟩
  unfold UnitR at hv4
  subst hv4
  have hr4 : r = .ok x (at_ l k4) := by
    have := ok_of hr3.out hx4
    injection this with this
    exact this.symm
  have hC4 : Sts w4 (fun b => w.heap.size ≤ b) x A cap := (hC2.out.keep (hg4.keptN (by omega))).mono fun b _ h => by omega
  have fin := Lib.hid (Ae.ok (R := StsR w.heap.size) (w0 := w) hr4 ⟨A, L, cap, rfl, hL2.out, hC4⟩ hst4 (hgr2.out.trans hg4))
  clear hr3 c3 hx4 hg4 hgr2 hC2 hL2 hC4 hst4 hr4
  go_wp2
  first | go_ret | skip
  exact fin.out
end
end Go.Proofs.YtpbcncfbfbghcaaGreatDoor.L20
namespace Go.Proofs.YtpbcncfbfbghcaaGreatDoor.L20
set_option maxRecDepth 100000
open Go.RowKit Mem L19
set_option linter.unusedVariables false
set_option linter.unusedSimpArgs false

theorem info_stmt : (Tryz.prog.info? 104).map (fun i => (i.zero, i.size, i.bytes)) = some (some (.agg #[.int .i64 0, .string ⟨#[]⟩, .slice none 0 0, .slice none 0 0, .slice none 0 0, .slice none 0 0]), 6, 120) := by kernel_rfl
theorem six_st (K : Int) (S : ByteArray) (I V T E : Option Addr) (li ci lv cv lt ct le ce : Nat) : ∀ u ∈ ([.int .i64 K, .string S, .slice I li ci, .slice V lv cv, .slice T lt ct, .slice E le ce] : List Value), u.oneCell' = true := fun u hu => by
  simp only [List.mem_cons, List.not_mem_nil, or_false] at hu
  rcases hu with rfl | rfl | rfl | rfl | rfl | rfl <;> rfl
theorem ts1_pos (s : Sta) : 1 ≤ (ts1 s).length := by
  cases s <;> simp [ts1, fs, tks, tks_app, tks_ind, fe]
theorem stm_adv {l : List L19.Tok} {k j : Nat} {n o : Nat} {x : Sta} (hok : Lok l) (ho : o ≤ 100) (hk : k ≤ l.length) (hj : j ≤ l.length) (h : stm n o (at_ l k) = some (.ok x (at_ l j))) : k < j := by
  obtain ⟨h1, _, h2, _⟩ := (read2 n).1 o _ _ _ ho (hok.goodAt k) h
  have := ts1_pos x
  rw [at_len l hk, at_len l hj] at h2
  omega
theorem stms_stop {n o : Nat} {ts : List Tk} {r : Rs (List Sta)} (hs : sg [125] ts = true) (h : stms n o ts = some r) : r = .ok [] ts := by
  cases n with
  | zero => rw [stms] at h; cases h
  | succ n => rw [stms, hs] at h; injection h with h; exact h.symm
theorem stms_step {n o : Nat} {ts : List Tk} {r : Rs (List Sta)} (hs : sg [125] ts = false) (h : stms n o ts = some r) : ∃ m q, n = m + 1 ∧ stm m o ts = some q ∧ (match q with | .bad c us => r = .bad c us | .ok x us => ∃ r', stms m o us = some r' ∧ r = catR [x] r') := by
  cases n with
  | zero => rw [stms] at h; cases h
  | succ n =>
    rw [stms, hs, if_neg Bool.false_ne_true] at h
    obtain ⟨q, hq, h2⟩ := opt_of h
    refine ⟨n, q, rfl, hq, ?_⟩
    cases q with
    | bad c us => injection h2 with h2; exact h2.symm
    | ok x us =>
      dsimp only
      cases e2 : stms n o us with
      | none => simp only [bnd, e2] at h2; cases h2
      | some v =>
        refine ⟨v, rfl, ?_⟩
        cases v <;> (simp only [bnd, e2] at h2; injection h2 with h2; exact h2.symm)
section
variable {base B k o : Nat} {l : List L19.Tok} {w : World}
set_option maxHeartbeats 4000000 in
theorem statements_any {n : Nat} (hE : StmC base B l n) (h : RdS base B l k o w) {r : Rs (List Sta)} (hr : stms n o (at_ l k) = some r) :
    Calls Tryz.prog 100 #[.pointer (some ⟨B, 0, none⟩)] w (Ae base B l o w (StsR w.heap.size) r) := by
  obtain ⟨i0, hi, hi0, hi1, hi2⟩ := info_parts info_stmt
  have hbw := h.big
  have hBb := h.low
  have hgood := h.ok
  have hkl := h.kn
  have hr2 : ∃ r', stms n o (at_ l k) = some r' ∧ r = catR [] r' := ⟨r, hr, by cases r <;> rfl⟩
  have hst2 := h
  have hg2 := Gr.refl B w
  have hG := Gro.nil stE 104 w.heap.size w
  replace hE := Lib.hid hE
  replace hgood := Lib.hid hgood
  replace hG := Lib.hid hG
  replace hst2 := Lib.hid hst2
  replace hg2 := Lib.hid hg2
  replace hr2 := Lib.hid hr2
  clear h hr
  go_enter Tryz.func100, Tryz.ntmps100
  go_wp2
  go_loopw [3] (fun iv wr => ∃ (m k' : Nat) (acc : List Sta) (v : Value), v = iv ∧ m ≤ n ∧ k' ≤ l.length ∧ acc.length ≤ k' ∧ Hid (Gro stE 104 w.heap.size wr v acc) ∧ Hid (RdS base B l k' o wr) ∧ Hid (Gr B w wr) ∧ Hid (∃ r', stms m o (at_ l k') = some r' ∧ r = catR acc r')) (fun _ wr => l.length - placeOf wr B)
  case atStart => exact ⟨n, k, [], _, rfl, Nat.le_refl _, hkl, Nat.zero_le _, hG, hst2, hg2, hr2⟩
  case round =>
    clear hG hst2 hg2 hr2
    obtain ⟨m, k', acc, v, rfl, hm, hk', hac, hG, hst, hg, hr⟩ := hrel
    have cN := Lib.hid (isNext_any hst.out (ks_one 125 (by decide)) (S := ⟨#[125]⟩) rfl)
    rcases hb : sg [125] (at_ l k') with _ | _
    rotate_left
    · rw [hb] at cN
      have hr1 : r = .ok acc (at_ l k') := by
        obtain ⟨r', h1, h2⟩ := hr.out
        rw [h2, stms_stop hb h1]
        simp [catR]
      have fin : ∀ W, Below wr.heap.size wr W → Ae base B l o w (StsR w.heap.size) r (.returned v) W := fun W hW => by
        obtain ⟨A, cap, hv, hR⟩ := (hG.out.below hW).row (by decide)
        exact Ae.ok hr1 ⟨A, _, cap, hv, rfl, hR.sts⟩ (hst.out.below hW) (hg.out.below hW)
      replace fin := Lib.hid fin
      clear hG hst hg hr hb hr1 hE
      go_wp2_with fail
      refine (cN.out).mono ?_
      rintro e w3 ⟨rfl, hb3⟩
      have fin := Lib.hid (fin.out w3 hb3)
      clear hb3 cN
      go_wp2
      first | go_ret | skip
      exact fin.out
    · rw [hb] at cN
      obtain ⟨m1, q, rfl, hq, hm2⟩ : ∃ m1 q, m = m1 + 1 ∧ stm m1 o (at_ l k') = some q ∧ (match q with | .bad c us => r = .bad c us | .ok x us => ∃ r', stms m1 o us = some r' ∧ r = catR (acc ++ [x]) r') := by
        obtain ⟨r', h1, h2⟩ := hr.out
        obtain ⟨m1, q, e1, e2, e3⟩ := stms_step hb h1
        refine ⟨m1, q, e1, e2, ?_⟩
        cases q with
        | bad c us => dsimp only at e3 ⊢; rw [h2, e3]; rfl
        | ok x us =>
          dsimp only at e3 ⊢
          obtain ⟨r'', e4, e5⟩ := e3
          exact ⟨r'', e4, by rw [h2, e5, catR_cat]⟩
      have cX := Lib.hid (fun W (hW : Below wr.heap.size wr W) => hE.out m1 (by omega) o k' W q (hst.out.below hW) hq)
      have hplace := hst.out.place
      replace hq := Lib.hid hq
      replace hm2 := Lib.hid hm2
      clear hb
      go_wp2_with fail
      refine (cN.out).mono ?_
      rintro e w4 ⟨rfl, hb3⟩
      have c5 := Lib.hid (cX.out w4 hb3)
      have hG4 := hG.out.below hb3
      have hg4' : Gr B w w4 := Gr.below hg.out hb3
      have hst4 := hst.out.below hb3
      replace hst4 := Lib.hid hst4
      replace hG4 := Lib.hid hG4
      replace hg4' := Lib.hid hg4'
      have hq4 := hq
      clear cX cN hG hst hg hr hb3
      go_wp2_with fail
      refine (c5.out).mono ?_
      rintro e w5 (⟨y, k5, v5, hx5, rfl, hv5, hst5, hg5⟩ | ⟨c, ts, hx5, rfl, hg5⟩)
      case inr =>
        refine ⟨rfl, ?_⟩
        have := hm2.out
        subst hx5
        exact Ae.bad this (hg4'.out.trans hg5)
      subst hx5
      obtain ⟨K', S', I', V', T', E', li', ci', lv', cv', lt', ct', le', ce', rfl, hC⟩ := hv5
      have hadv := stm_adv hgood.out hst5.o1 hst4.out.kn hst5.kn hq4.out
      have hG5 := hG4.out.gr hg5 (by omega)
      have hg5' : Gr B w w5 := hg4'.out.trans hg5
      have hle5 := hg5'.size
      have hk5 := hst5.kn
      have hlen := hgood.out.len
      obtain ⟨A0, c0, hv0, hs1, hs2, hs3⟩ := hG5.slice
      clear hs1 hs2 hs3
      subst hv0
      obtain ⟨an, han⟩ : ∃ an, acc.length = an := ⟨_, rfl⟩
      rw [han] at hG5 hG4 hac
      obtain ⟨css, hown0, hpush⟩ := hG5.more
      rw [han] at hpush
      have hvlt := fun g hg => (hG5.lt g hg).2
      rw [han] at hown0
      have hownA := hown0.alloc (.cells #[.int .i64 K', .string S', .slice I' li' ci', .slice V' lv' cv', .slice T' lt' ct', .slice E' le' ce'] 104)
      replace hG5 := Lib.hid hG5
      replace hC := Lib.hid hC
      replace hst5 := Lib.hid hst5
      replace hg5' := Lib.hid hg5'
      replace hadv := Lib.hid hadv
      replace hown0 := Lib.hid hown0
      have hvlt4 : Hid (∀ g, (Value.slice A0 an c0).ownBlock = some g → g < w4.heap.size) := Lib.hid (fun g hg => (hG4.out.lt g hg).2)
      have hle4 := Lib.hid hg4'.out.size
      clear hG4 hg4' hg5 hq4 hq c5
      go_wp2_with (at_builtin; refine wpList_append_own_at _ rfl _ _ 42 rfl w.heap.size 104 i0 (.agg #[.int .i64 0, .string ⟨#[]⟩, .slice none 0 0, .slice none 0 0, .slice none 0 0, .slice none 0 0]) 6 120 Tryz.underlying42 hi hi0 hi1 hi2 rfl (by decide) _ _ _ rfl hownA ⟨w5.heap.size, 0, none⟩ 1 1 [.int .i64 K', .string S', .slice I' li' ci', .slice V' lv' cv', .slice T' lt' ct', .slice E' le' ce'] rfl rfl (A18.list_new _ _ _) (six_st _ _ _ _ _ _ _ _ _ _ _ _ _ _) (by unfold maxLen; omega) (by omega) (by simp; omega) ?_; intro v' w6 hown' hgrow _ hblk)
      have hown1 : ∀ j, (Value.slice A0 an c0).ownBlock = some j → w.heap.size ≤ j := fun j hj => (hG5.out.lt j hj).1
      have hG6 : Gro stE 104 w.heap.size w6 v' (acc ++ [y]) := hpush.push w6 v' y _ w4.heap.size hle4.out hvlt4.out hC.out hown' hgrow (by rw [World.size_alloc] at hblk; exact hblk)
      have hg6 : Gr B w w6 := (hg5'.out.below (boxed w5 _)).grow hgrow hown1
      have hst6 : RdS base B l k5 o w6 := (hst5.out.alloc _).grow hgrow (fun j hj => Nat.le_trans hbw (hown1 j hj))
      have hpl := hst6.place
      have hal : (acc ++ [y]).length = an + 1 := by rw [List.length_append, han]; rfl
      have hadv2 := hadv.out
      replace hG6 := Lib.hid hG6
      replace hg6 := Lib.hid hg6
      replace hst6 := Lib.hid hst6
      clear hpush hvlt4 hC hown' hgrow hblk hown1 hst5 hg5' hown0 hownA hG5 hst4
      go_wp2
      go_roundw
      case rel => exact ⟨m1, k5, acc ++ [y], _, rfl, by omega, hk5, by rw [hal]; omega, hG6, hst6, hg6, hm2⟩
      case measure => rw [hpl, hplace]; omega
end
end Go.Proofs.YtpbcncfbfbghcaaGreatDoor.L20
namespace Go.Proofs.YtpbcncfbfbghcaaGreatDoor.L20
set_option maxRecDepth 100000
open Go.RowKit Mem L19
set_option linter.unusedVariables false
set_option linter.unusedSimpArgs false

/-- What follows a name at the beginning of a statement. -/
def actP (n o : Nat) (s : Str) (ts : List Tk) : Option (Rs Sta) :=
  if sg [40] ts then bnd (callP n o ts) fun l ts => some (.ok (.cal s l) ts)
  else if sg [91] ts then bnd (index n o ts) fun i ts => bnd (assnP n o ts) fun x ts => some (.ok (.sto s i x) ts)
  else bnd (assnP n o ts) fun x ts => some (.ok (.asg s x) ts)
/-- A statement without blocks. -/
theorem st_plain {W : World} {F : Nat → Prop} {s : Sta} {I V : Option Addr} {ci cv : Nat} (h1 : Exs W F s.idx I ci) (h2 : Exs W F s.val V cv) (h3 : s.thn = []) (h4 : s.els = []) {K : Int} {S : ByteArray} (hK : (s.kind : Int) = K) (hS : strV s.nam = .string S) {li lv : Nat} (hi : s.idx.length = li) (hv : s.val.length = lv) :
    StC W F s [.int .i64 K, .string S, .slice I li ci, .slice V lv cv, .slice none 0 0, .slice none 0 0] := by
  subst hK hi hv
  have := StC.of (s := s) (T := none) (E := none) (ct := 0) (ce := 0) h1 h2 (by rw [h3]; exact Sts.nil W F) (by rw [h4]; exact Sts.nil W F)
  unfold sCells at this
  rw [hS, h3, h4] at this
  exact this
/-- Two boxes lie there. -/
structure Two (g g3 : Nat) (c c3 : List Value) (W : World) : Prop where
  st : Blk 104 W g c
  ex : Blk 51 W g3 c3
section
variable {base B k o : Nat} {l : List L19.Tok} {w : World}
set_option maxHeartbeats 8000000 in
theorem action_any {n : Nat} (h : RdS base B l k o w) {s : Str} {X : ByteArray} (hX : strV s = .string X) {r : Rs Sta} (hr : actP n o s (at_ l k) = some r) :
    Calls Tryz.prog 158 #[.pointer (some ⟨B, 0, none⟩), .string X] w (Ae base B l o w (StR fun b => w.heap.size ≤ b) r) := by
  unfold actP at hr
  have hE := exprC base B l n
  obtain ⟨W0, g, hW0, hg0, hb0, hst0, hgr0, hbg, hgl, hgB⟩ := start_box h szero 104
  have c1 := Lib.hid (peek_any hst0)
  have q40 := sg_text (hst0.ok.goodAt k) (ks_one 40 (by decide))
  have q91 := sg_text (hst0.ok.goodAt k) (ks_one 91 (by decide))
  rw [tokAt_tx] at q40 q91
  have t40 := fun (Y : ByteArray) (hY : strV (tokAt l k).2.1 = .string Y) => (str_beq hY (b := [40]) (B := ⟨#[40]⟩) rfl).trans q40.symm
  have t91 := fun (Y : ByteArray) (hY : strV (tokAt l k).2.1 = .string Y) => (str_beq hY (b := [91]) (B := ⟨#[91]⟩) rfl).trans q91.symm
  rw [show (⟨#[40]⟩ : ByteArray).toList = [40] by simp [ByteArray.toList_eq]] at t40
  rw [show (⟨#[91]⟩ : ByteArray).toList = [91] by simp [ByteArray.toList_eq]] at t91
  have cC := Lib.hid (fun W (hW : Below W0.heap.size W0 W) (q : Rs (List Exp)) (hq : callP n o (at_ l k) = some q) => call_any hE (hst0.below hW) hX hq)
  have cI := Lib.hid (fun W (hW : Below W0.heap.size W0 W) (q : Rs Exp) (hq : index n o (at_ l k) = some q) => index_any hE (hst0.below hW) hq)
  have cA := Lib.hid (fun W (hW : Below W0.heap.size W0 W) (q : Rs Exp) (hq : assnP n o (at_ l k) = some q) => assigned_any (hst0.below hW) hq)
  have hf1 := fld1
  unfold szero at hW0 hb0
  have hlow := h.low
  replace hr := Lib.hid hr
  replace hb0 := Lib.hid hb0
  replace hst0 := Lib.hid hst0
  replace hgr0 := Lib.hid hgr0
  clear h hE q40 q91
  go_enter Tryz.func158, Tryz.ntmps158
  go_wp2_with fail
  refine (c1.out).mono ?_
  rintro e w1 ⟨K, Z, Y, rfl, hK, hZ, hY, hb1⟩
  clear hK hZ
  replace t40 := t40 Y hY
  replace t91 := t91 Y hY
  have hs1 := hb1.size
  have hr1 := hr.out
  clear hr hY
  rcases hs40 : sg [40] (at_ l k) with _ | _
  · rw [hs40] at t40
    rw [hs40, if_neg Bool.false_ne_true] at hr1
    rcases hs91 : sg [91] (at_ l k) with _ | _
    · rw [hs91] at t91
      rw [hs91, if_neg Bool.false_ne_true] at hr1
      obtain ⟨q, hq, hr2⟩ := opt_of hr1
      have ca := Lib.hid (cA.out w1 hb1 q hq)
      have hgr1 := Lib.hid (Gr.below hgr0.out hb1)
      have hb01 := Lib.hid (hb0.out.below hb1)
      replace hr2 := Lib.hid hr2
      clear hs40 hs91 cC cI cA hb1 c1 hb0 hst0 hgr0 hq hr1 hW0
      go_wp2_with fail
      refine (ca.out).mono ?_
      rintro e w2 (⟨x, k2, v2, hx2, rfl, ⟨S, T, N, A, L, cap, rfl, hC2⟩, hst2, hg2⟩ | ⟨c, ts, hx2, rfl, hg2⟩)
      case inr => exact ⟨rfl, Ae.bad (bad_of hr2.out hx2) (hgr1.out.trans hg2)⟩
      have hr3 : r = .ok (.asg s x) (at_ l k2) := by
        have := ok_of hr2.out hx2
        injection this with this
        exact this.symm
      subst hr3
      have hs2 := hg2.size
      obtain ⟨W3, hW3⟩ : ∃ W, w2.alloc (.cells #[.string S, .int .u32 N, .string T, .slice A L cap] 51) = W := ⟨_, rfl⟩
      have hbl : Below w2.heap.size w2 W3 := by rw [← hW3]; exact boxed w2 _
      have hEx : Exs W3 (fun b => w1.heap.size ≤ b) [x] (some ⟨w2.heap.size, 0, none⟩) 1 := by rw [← hW3]; exact exs_one hC2 hs2
      have hCx := st_plain (s := .asg s x) (Exs.nil W3 _) hEx rfl rfl (K := 1) rfl hX (li := 0) rfl (lv := 1) rfl
      have hbx := (hg2.blk hb01.out hgB).below hbl
      obtain ⟨u0, u1, u2, u3, u4, u5, e0, e1, e2, e3, e4, e5⟩ := st_box hbx
      have hsx := Lib.hid (hst2.below hbl)
      have hgx := Lib.hid (Gr.below (hgr1.out.trans hg2) hbl)
      replace hCx := Lib.hid hCx
      replace hbx := Lib.hid hbx
      clear hr2 hx2 hst2 hg2 hC2 hEx hbl hgr1 hb01 ca
      go_wp2
      exact st_fin rfl (by simp) hbx.out hsx.out hbg (by omega) hgx.out (fun h => by have : w1.heap.size ≤ g := h; omega) (fun b h => by have : w1.heap.size ≤ b := h; omega) hCx.out rfl
    · rw [hs91] at t91
      rw [hs91, if_pos rfl] at hr1
      obtain ⟨q, hq, hr2⟩ := opt_of hr1
      have ci := Lib.hid (cI.out w1 hb1 q hq)
      have hgr1 := Lib.hid (Gr.below hgr0.out hb1)
      have hb01 := Lib.hid (hb0.out.below hb1)
      replace hr2 := Lib.hid hr2
      clear hs40 hs91 cC cI cA hb1 c1 hb0 hst0 hgr0 hq hr1 hW0
      go_wp2_with fail
      refine (ci.out).mono ?_
      rintro e w2 (⟨y, k2, v2, hx2, rfl, ⟨S, T, N, A, L, cap, rfl, hC2⟩, hst2, hg2⟩ | ⟨c, ts, hx2, rfl, hg2⟩)
      case inr => exact ⟨rfl, Ae.bad (bad_of hr2.out hx2) (hgr1.out.trans hg2)⟩
      have hr3 := ok_of hr2.out hx2
      obtain ⟨q3, hq3, hr4⟩ := opt_of hr3
      have hs2 := hg2.size
      obtain ⟨W3, g3, hW3, hg3, hb3, hst3, hgr3, hbg3, hgl3, hgB3⟩ := start_box hst2 [.string S, .int .u32 N, .string T, .slice A L cap] 51
      have hbl3 : Below w2.heap.size w2 W3 := by rw [← hW3]; exact boxed w2 _
      have hb03 := (hg2.blk hb01.out hgB).below hbl3
      have hgr3 := Gr.below (hgr1.out.trans hg2) hbl3
      have hC3 := hC2.keep (Kept.of_below hbl3)
      obtain ⟨z0, z1, z2, z3, _, _, _, _⟩ := ex_box hb3
      have hg3w : g3 < W3.heap.size := hgl3
      have cS : ∀ W, Below W3.heap.size W3 W → Calls Tryz.prog 190 #[.pointer (some ⟨B, 0, none⟩)] W (fun e w5 => (∃ (x : Exp) (k5 : Nat) (S5 T5 : ByteArray) (N5 : Int) (A5 : Option Addr) (L5 cap5 : Nat), e = .returned (.agg #[.string S5, .int .u32 N5, .string T5, .slice A5 L5 cap5]) ∧
          Hid (r = .ok (.sto s y x) (at_ l k5)) ∧ Hid (RdS base B l k5 o w5) ∧ Hid (Gr B w w5) ∧ Hid (Blk 104 w5 g [.int .i64 0, .string ⟨#[]⟩, .slice none 0 0, .slice none 0 0, .slice none 0 0, .slice none 0 0]) ∧ Hid (Blk 51 w5 g3 [.string S, .int .u32 N, .string T, .slice A L cap]) ∧
          Hid (ExC w5 (fun b => w1.heap.size ≤ b) y [.string S, .int .u32 N, .string T, .slice A L cap]) ∧ Hid (ExC w5 (fun b => w1.heap.size ≤ b) x [.string S5, .int .u32 N5, .string T5, .slice A5 L5 cap5]) ∧ Hid (Gr B W w5)) ∨ (∃ c ts, e = .panicked [fl (lnAt l ts) c] ∧ Hid (Ae base B l o w (StR fun b => w.heap.size ≤ b) r (.panicked [fl (lnAt l ts) c]) w5))) := fun W hW => by
        refine (assigned_any (hst3.below hW) hq3).mono ?_
        rintro e w5 (⟨x, k5, v5, hx5, rfl, ⟨S5, T5, N5, A5, L5, cap5, rfl, hC5⟩, hst5, hg5⟩ | ⟨c, ts, hx5, rfl, hg5⟩)
        · have hs := hW.size
          refine .inl ⟨x, k5, S5, T5, N5, A5, L5, cap5, rfl, Lib.hid ?_, Lib.hid hst5, Lib.hid ((Gr.below hgr3 hW).trans hg5), Lib.hid (hg5.blk (hb03.below hW) hgB), Lib.hid (hg5.blk (hb3.below hW) hgB3), Lib.hid ((hC3.keep (Kept.of_below hW)).keep (Gr.keptN hg5 (by omega))), Lib.hid (hC5.mono fun b _ h => by omega), Lib.hid hg5⟩
          have := ok_of hr4 hx5
          injection this with this
          exact this.symm
        · exact .inr ⟨c, ts, rfl, Lib.hid (Ae.bad (bad_of hr4 hx5) ((Gr.below hgr3 hW).trans hg5))⟩
      have hXs := hX
      obtain ⟨Wd, hWd⟩ : ∃ W, W3.drew = W := ⟨_, rfl⟩
      have hWb : Below W3.heap.size W3 Wd := by rw [← hWd]; exact below_drewB (Below.refl _ _)
      have keep0 : Blk 51 W3.drew g3 [.string S, .int .u32 N, .string T, .slice A L cap] := hb3
      have keepA : ∀ W o, Blk 51 W g3 [.string S, .int .u32 N, .string T, .slice A L cap] → Blk 51 (W.alloc o) g3 [.string S, .int .u32 N, .string T, .slice A L cap] := fun W o h => h.below (boxed W o)
      have hg3g : g3 ≠ g := by omega
      have hsd : w1.heap.size ≤ Wd.heap.size := by have := hbl3.size; have := hWb.size; omega
      have hC3d := hC3.keep (Kept.of_below hWb)
      replace hC3d := Lib.hid hC3d
      replace hWd := Lib.hid hWd
      replace hWb := Lib.hid hWb
      replace cS := Lib.hid cS
      clear hr2 hx2 hst2 hg2 hC2 hbl3 hgr1 hb01 ci hr3 hq3 hb03 hb3 hgr3 hC3 hr4 hst3 z0 z1 z2 z3
      go_wp2_with fail
      refine wp_region_held_drew (S := fun W => Blk 51 W g3 [.string S, .int .u32 N, .string T, .slice A L cap]) (by kernel_rfl) keep0 (fun hHeld => ?_)
      rw [hWd.out] at hHeld ⊢
      refine wpAnyH_take (i := 0) (v := .string X) rfl (by kernel_rfl) (by kernel_rfl) (by kernel_rfl) (fun _ _ _ h => h) (Or.inl ⟨by rfl, ?h0⟩) (by assumption) ?r0
      case h0 =>
        intro W hW
        go_simp
      simp only [Act.put, List.setIfInBounds_toArray, List.set_cons_zero, List.set_cons_succ]
      refine wpAnyH_take (i := 1) (v := .agg #[.string S, .int .u32 N, .string T, .slice A L cap]) rfl (by kernel_rfl) (by kernel_rfl) (by kernel_rfl) (fun _ _ _ h => h) (Or.inl ⟨by rfl, ?h1⟩) (by assumption) ?r1
      case h1 =>
        intro W hW
        obtain ⟨z0, z1, z2, z3, _, _, _, _⟩ := ex_box hW
        go_simp
      simp only [Act.put, List.setIfInBounds_toArray, List.set_cons_zero, List.set_cons_succ]
      refine wpAnyH_take (i := 3) (v := .pointer (some ⟨B, 0, none⟩)) rfl (by kernel_rfl) (by kernel_rfl) (by kernel_rfl) (fun _ _ _ h => h) (Or.inl ⟨by rfl, ?h2⟩) (by assumption) ?r2
      case h2 =>
        intro W hW
        go_simp
      simp only [Act.put, List.setIfInBounds_toArray, List.set_cons_zero, List.set_cons_succ]
      refine wpAnyH_ready (rs := [2, 4]) (by kernel_rfl) (by simp) ?_
      refine AllReadyH.cons rfl (fun K hK => ?_) (AllReadyH.cons rfl (fun K hK => ?_) AllReadyH.nil)
      · go_simp
        refine Shut.out hK _ _ (keepA _ _ (by assumption)) (fun hHeld => ?_)
        try simp only [Act.put, List.setIfInBounds_toArray, List.set_cons_zero, List.set_cons_succ]
        refine wpAnyH_ready (rs := [4]) (by kernel_rfl) (by simp) ?_
        refine AllReadyH.cons rfl (fun K hK => ?_) AllReadyH.nil
        · go_simp
          refine (cS.out (Wd.alloc (.cells #[.string S, .int .u32 N, .string T, .slice A L cap] 51)) (hWb.out.trans ((boxed Wd _).mono hWb.out.size))).mono ?_
          rintro e w5 (⟨x, k5, S5, T5, N5, A5, L5, cap5, rfl, i1, i2, i3, i4, i5, i6, i7, i8⟩ | ⟨c, ts, rfl, i1⟩)
          case inr => exact ⟨rfl, i1.out⟩
          refine Shut.out hK _ _ i5.out (fun hHeld => ?_)
          try simp only [Act.put, List.setIfInBounds_toArray, List.set_cons_zero, List.set_cons_succ]
          refine wpAnyH_ready (rs := [5]) (by kernel_rfl) (by simp) ?_
          refine AllReadyH.cons rfl (fun K hK => ?_) AllReadyH.nil
          · go_simp
            refine Shut.out hK _ _ (keepA _ _ (by assumption)) (fun hHeld => ?_)
            try simp only [Act.put, List.setIfInBounds_toArray, List.set_cons_zero, List.set_cons_succ]
            refine wpAnyH_ready (rs := [6]) (by kernel_rfl) (by simp) ?_
            refine AllReadyH.cons rfl (fun K hK => ?_) AllReadyH.nil
            · go_simp
              refine Shut.out hK _ _ (by assumption) (fun hHeld => ?_)
              try simp only [Act.put, List.setIfInBounds_toArray, List.set_cons_zero, List.set_cons_succ]
              refine wpAnyH_ready (rs := [7]) (by kernel_rfl) (by simp) ?_
              refine AllReadyH.cons rfl (fun K hK => ?_) AllReadyH.nil
              · obtain ⟨WF, hWF⟩ : ∃ W, (w5.alloc (.cells #[.string S5, .int .u32 N5, .string T5, .slice A5 L5 cap5] 51)) = W := ⟨_, rfl⟩
                have hs5 : w1.heap.size ≤ w5.heap.size := by have := i8.out.size; simp only [World.size_alloc] at this; omega
                have hbF : Below w5.heap.size w5 WF := by rw [← hWF]; exact boxed w5 _
                have hX : Exs WF (fun b => w1.heap.size ≤ b) [x] (some ⟨w5.heap.size, 0, none⟩) 1 := by rw [← hWF]; exact exs_one i7.out hs5
                have hY : Exs WF (fun b => w1.heap.size ≤ b) [y] (some ⟨Wd.heap.size, 0, none⟩) 1 := ((exs_one (T := 51) hC3d.out hsd).keep (Gr.kept i8.out fun b h => by omega)).keep (Kept.of_below hbF)
                have hCx := st_plain (s := .sto s y x) hY hX rfl rfl (K := 2) rfl hXs (li := 1) rfl (lv := 1) rfl
                have hbx := i4.out.below hbF
                obtain ⟨u0, u1, u2, u3, u4, u5, e0, e1, e2, e3, e4, e5⟩ := st_box hbx
                have hsx := Lib.hid (i2.out.below hbF)
                have hgx := Lib.hid (Gr.below i3.out hbF)
                replace hCx := Lib.hid hCx
                replace hbx := Lib.hid hbx
                have hE3 := i5.out.below hbF
                go_simp
                refine Shut.out hK _ _ (Blk.other (Blk.other (Blk.other (Blk.other (Blk.other (Blk.other hE3 hg3g _) hg3g _) hg3g _) hg3g _) hg3g _) hg3g _) (fun hHeld => ?_)
                refine wpAnyH_done (by kernel_rfl) ?_ _
                clear hHeld hE3 hX hY hK hXs
                go_wp2
                have hr5 := i1.out
                exact st_fin rfl (by simp) hbx.out hsx.out hbg (by omega) hgx.out (fun h => by have : w1.heap.size ≤ g := h; omega) (fun b h => by have : w1.heap.size ≤ b := h; omega) hCx.out hr5
      · go_simp
        refine (cS.out Wd hWb.out).mono ?_
        rintro e w5 (⟨x, k5, S5, T5, N5, A5, L5, cap5, rfl, i1, i2, i3, i4, i5, i6, i7, i8⟩ | ⟨c, ts, rfl, i1⟩)
        case inr => exact ⟨rfl, i1.out⟩
        refine Shut.out hK _ _ i5.out (fun hHeld => ?_)
        try simp only [Act.put, List.setIfInBounds_toArray, List.set_cons_zero, List.set_cons_succ]
        refine wpAnyH_ready (rs := [2, 5]) (by kernel_rfl) (by simp) ?_
        refine AllReadyH.cons rfl (fun K hK => ?_) (AllReadyH.cons rfl (fun K hK => ?_) AllReadyH.nil)
        · go_simp
          refine Shut.out hK _ _ (keepA _ _ (by assumption)) (fun hHeld => ?_)
          try simp only [Act.put, List.setIfInBounds_toArray, List.set_cons_zero, List.set_cons_succ]
          refine wpAnyH_ready (rs := [5]) (by kernel_rfl) (by simp) ?_
          refine AllReadyH.cons rfl (fun K hK => ?_) AllReadyH.nil
          · go_simp
            refine Shut.out hK _ _ (keepA _ _ (by assumption)) (fun hHeld => ?_)
            try simp only [Act.put, List.setIfInBounds_toArray, List.set_cons_zero, List.set_cons_succ]
            refine wpAnyH_ready (rs := [6]) (by kernel_rfl) (by simp) ?_
            refine AllReadyH.cons rfl (fun K hK => ?_) AllReadyH.nil
            · go_simp
              refine Shut.out hK _ _ (by assumption) (fun hHeld => ?_)
              try simp only [Act.put, List.setIfInBounds_toArray, List.set_cons_zero, List.set_cons_succ]
              refine wpAnyH_ready (rs := [7]) (by kernel_rfl) (by simp) ?_
              refine AllReadyH.cons rfl (fun K hK => ?_) AllReadyH.nil
              · obtain ⟨WF, hWF⟩ : ∃ W, ((w5.alloc (.cells #[.string S, .int .u32 N, .string T, .slice A L cap] 51)).alloc (.cells #[.string S5, .int .u32 N5, .string T5, .slice A5 L5 cap5] 51)) = W := ⟨_, rfl⟩
                have hs5 : w1.heap.size ≤ w5.heap.size := by have := i8.out.size; omega
                have hbF : Below w5.heap.size w5 WF := by rw [← hWF]; exact chain (boxed w5 _) (boxed _ _)
                have hX : Exs WF (fun b => w1.heap.size ≤ b) [x] (some ⟨(w5.alloc (.cells #[.string S, .int .u32 N, .string T, .slice A L cap] 51)).heap.size, 0, none⟩) 1 := by rw [← hWF]; exact exs_one (i7.out.keep (Kept.of_below (boxed w5 _))) (by rw [World.size_alloc]; omega)
                have hY : Exs WF (fun b => w1.heap.size ≤ b) [y] (some ⟨w5.heap.size, 0, none⟩) 1 := by rw [← hWF]; exact (exs_one i6.out hs5).keep (Kept.of_below (boxed _ _))
                rw [World.size_alloc] at hX
                have hCx := st_plain (s := .sto s y x) hY hX rfl rfl (K := 2) rfl hXs (li := 1) rfl (lv := 1) rfl
                have hbx := i4.out.below hbF
                obtain ⟨u0, u1, u2, u3, u4, u5, e0, e1, e2, e3, e4, e5⟩ := st_box hbx
                have hsx := Lib.hid (i2.out.below hbF)
                have hgx := Lib.hid (Gr.below i3.out hbF)
                replace hCx := Lib.hid hCx
                replace hbx := Lib.hid hbx
                have hE3 := i5.out.below hbF
                go_simp
                refine Shut.out hK _ _ (Blk.other (Blk.other (Blk.other (Blk.other (Blk.other (Blk.other hE3 hg3g _) hg3g _) hg3g _) hg3g _) hg3g _) hg3g _) (fun hHeld => ?_)
                refine wpAnyH_done (by kernel_rfl) ?_ _
                clear hHeld hE3 hX hY hK hXs
                go_wp2
                have hr5 := i1.out
                exact st_fin rfl (by simp) hbx.out hsx.out hbg (by omega) hgx.out (fun h => by have : w1.heap.size ≤ g := h; omega) (fun b h => by have : w1.heap.size ≤ b := h; omega) hCx.out hr5
        · go_simp
          refine Shut.out hK _ _ (keepA _ _ (by assumption)) (fun hHeld => ?_)
          try simp only [Act.put, List.setIfInBounds_toArray, List.set_cons_zero, List.set_cons_succ]
          refine wpAnyH_ready (rs := [2]) (by kernel_rfl) (by simp) ?_
          refine AllReadyH.cons rfl (fun K hK => ?_) AllReadyH.nil
          · go_simp
            refine Shut.out hK _ _ (keepA _ _ (by assumption)) (fun hHeld => ?_)
            try simp only [Act.put, List.setIfInBounds_toArray, List.set_cons_zero, List.set_cons_succ]
            refine wpAnyH_ready (rs := [6]) (by kernel_rfl) (by simp) ?_
            refine AllReadyH.cons rfl (fun K hK => ?_) AllReadyH.nil
            · go_simp
              refine Shut.out hK _ _ (by assumption) (fun hHeld => ?_)
              try simp only [Act.put, List.setIfInBounds_toArray, List.set_cons_zero, List.set_cons_succ]
              refine wpAnyH_ready (rs := [7]) (by kernel_rfl) (by simp) ?_
              refine AllReadyH.cons rfl (fun K hK => ?_) AllReadyH.nil
              · obtain ⟨WF, hWF⟩ : ∃ W, ((w5.alloc (.cells #[.string S5, .int .u32 N5, .string T5, .slice A5 L5 cap5] 51)).alloc (.cells #[.string S, .int .u32 N, .string T, .slice A L cap] 51)) = W := ⟨_, rfl⟩
                have hs5 : w1.heap.size ≤ w5.heap.size := by have := i8.out.size; omega
                have hbF : Below w5.heap.size w5 WF := by rw [← hWF]; exact chain (boxed w5 _) (boxed _ _)
                have hY : Exs WF (fun b => w1.heap.size ≤ b) [y] (some ⟨(w5.alloc (.cells #[.string S5, .int .u32 N5, .string T5, .slice A5 L5 cap5] 51)).heap.size, 0, none⟩) 1 := by rw [← hWF]; exact exs_one (i6.out.keep (Kept.of_below (boxed w5 _))) (by rw [World.size_alloc]; omega)
                have hX : Exs WF (fun b => w1.heap.size ≤ b) [x] (some ⟨w5.heap.size, 0, none⟩) 1 := by rw [← hWF]; exact (exs_one i7.out hs5).keep (Kept.of_below (boxed _ _))
                rw [World.size_alloc] at hY
                have hCx := st_plain (s := .sto s y x) hY hX rfl rfl (K := 2) rfl hXs (li := 1) rfl (lv := 1) rfl
                have hbx := i4.out.below hbF
                obtain ⟨u0, u1, u2, u3, u4, u5, e0, e1, e2, e3, e4, e5⟩ := st_box hbx
                have hsx := Lib.hid (i2.out.below hbF)
                have hgx := Lib.hid (Gr.below i3.out hbF)
                replace hCx := Lib.hid hCx
                replace hbx := Lib.hid hbx
                have hE3 := i5.out.below hbF
                go_simp
                refine Shut.out hK _ _ (Blk.other (Blk.other (Blk.other (Blk.other (Blk.other (Blk.other hE3 hg3g _) hg3g _) hg3g _) hg3g _) hg3g _) hg3g _) (fun hHeld => ?_)
                refine wpAnyH_done (by kernel_rfl) ?_ _
                clear hHeld hE3 hX hY hK hXs
                go_wp2
                have hr5 := i1.out
                exact st_fin rfl (by simp) hbx.out hsx.out hbg (by omega) hgx.out (fun h => by have : w1.heap.size ≤ g := h; omega) (fun b h => by have : w1.heap.size ≤ b := h; omega) hCx.out hr5
  · rw [hs40] at t40
    rw [hs40, if_pos rfl] at hr1
    obtain ⟨q, hq, hr2⟩ := opt_of hr1
    have cc := Lib.hid (cC.out w1 hb1 q hq)
    have hgr1 := Lib.hid (Gr.below hgr0.out hb1)
    have hb01 := Lib.hid (hb0.out.below hb1)
    replace hr2 := Lib.hid hr2
    clear hs40 cC cI cA hb1 c1 hb0 hst0 hgr0 hq hr1 hW0
    go_wp2_with fail
    refine (cc.out).mono ?_
    rintro e w2 (⟨x, k2, v2, hx2, rfl, ⟨S, T, N, A, L, cap, rfl, hC2⟩, hst2, hg2⟩ | ⟨c, ts, hx2, rfl, hg2⟩)
    case inr =>
      have hq2 : q = .bad c ts := by
        cases q with
        | ok a us => cases hx2
        | bad c us => injection hx2 with h1 h2; rw [h1, h2]
      exact ⟨rfl, Ae.bad (bad_of hr2.out hq2) (hgr1.out.trans hg2)⟩
    obtain ⟨la, hla, hxe⟩ : ∃ la, q = .ok la (at_ l k2) ∧ x = .call s la := by
      cases q with
      | ok a us => injection hx2 with h1 h2; exact ⟨a, by rw [h2], h1.symm⟩
      | bad c us => cases hx2
    subst hxe
    have hr3 : r = .ok (.cal s la) (at_ l k2) := by
      have := ok_of hr2.out hla
      injection this with this
      exact this.symm
    subst hr3
    have hs2 := hg2.size
    obtain ⟨W3, hW3⟩ : ∃ W, w2.alloc (.cells #[.string S, .int .u32 N, .string T, .slice A L cap] 51) = W := ⟨_, rfl⟩
    have hbl : Below w2.heap.size w2 W3 := by rw [← hW3]; exact boxed w2 _
    have hEx : Exs W3 (fun b => w1.heap.size ≤ b) [.call s la] (some ⟨w2.heap.size, 0, none⟩) 1 := by rw [← hW3]; exact exs_one hC2 hs2
    have hCx := st_plain (s := .cal s la) (Exs.nil W3 _) hEx rfl rfl (K := 6) rfl (S := ⟨#[]⟩) rfl (li := 0) rfl (lv := 1) rfl
    have hbx := (hg2.blk hb01.out hgB).below hbl
    obtain ⟨u0, u1, u2, u3, u4, u5, e0, e1, e2, e3, e4, e5⟩ := st_box hbx
    have hsx := Lib.hid (hst2.below hbl)
    have hgx := Lib.hid (Gr.below (hgr1.out.trans hg2) hbl)
    replace hCx := Lib.hid hCx
    replace hbx := Lib.hid hbx
    clear hr2 hx2 hst2 hg2 hC2 hEx hbl hgr1 hb01 cc hla
    go_wp2
    exact st_fin rfl (by simp) hbx.out hsx.out hbg (by omega) hgx.out (fun h => by have : w1.heap.size ≤ g := h; omega) (fun b h => by have : w1.heap.size ≤ b := h; omega) hCx.out rfl
end
end Go.Proofs.YtpbcncfbfbghcaaGreatDoor.L20
