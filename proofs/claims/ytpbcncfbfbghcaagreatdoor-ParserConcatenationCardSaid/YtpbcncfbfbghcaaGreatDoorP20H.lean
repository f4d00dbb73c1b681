/- Expressions of the landed reader: what the walks share; index (layer 20). Expressions of the landed reader: call, reference (layer 20). Expressions of the landed reader: prefixed, unary, primary (layer 20). Expressions of the landed reader: primary (layer 20). -/
import Derived.Test.YtpbcncfbfbghcaaGreatDoorP20G
namespace Go.Proofs.YtpbcncfbfbghcaaGreatDoor.L20
set_option maxRecDepth 100000
open Go.RowKit Mem L19
set_option linter.unusedVariables false
set_option linter.unusedSimpArgs false

theorem bad_of {α β : Type} {q : Rs α} {f : α → List Tk → Option (Rs β)} {r : Rs β} (h : bnd (some q) f = some r) {c : Nat} {ts : List Tk} (hx : q = .bad c ts) : r = .bad c ts := by
  subst hx
  injection h with h
  exact h.symm
theorem ok_of {α β : Type} {q : Rs α} {f : α → List Tk → Option (Rs β)} {r : Rs β} (h : bnd (some q) f = some r) {a : α} {ts : List Tk} (hx : q = .ok a ts) : f a ts = some r := by
  subst hx
  exact h
theorem opt_of {α β : Type} {x : Option (Rs α)} {f : α → List Tk → Option (Rs β)} {r : Rs β} (h : bnd x f = some r) : ∃ q, x = some q ∧ bnd (some q) f = some r := by
  cases x with
  | none => cases h
  | some v => exact ⟨v, rfl, h⟩
def ezero : List Value := [.string ⟨#[]⟩, .int .u32 0, .string ⟨#[]⟩, .slice none 0 0]
def index (n o : Nat) (ts : List Tk) : Option (Rs Exp) := bnd (some (enter [91] o ts)) fun _ ts => bnd (expr n 1 (o + 1) ts) fun x ts => bnd (some (want [93] ts)) fun _ ts => some (.ok x ts)
section
variable {base B k o : Nat} {l : List L19.Tok} {w : World}
/-- A box is made at the beginning. -/
theorem start_box (h : RdS base B l k o w) (cs : List Value) (T : TypeId) : ∃ W0 g, w.alloc (.cells cs.toArray T) = W0 ∧ w.heap.size = g ∧ Blk T W0 g cs ∧ RdS base B l k o W0 ∧ Gr B w W0 ∧ base ≤ g ∧ g < W0.heap.size ∧ g ≠ B := by
  have h1 := h.big
  have h2 := h.low
  exact ⟨_, _, rfl, rfl, Blk.new w T cs, h.alloc _, Gr.of_below (boxed w _), h1, by rw [World.size_alloc]; omega, by omega⟩
/-- A box that holds an expression. -/
theorem ex_box {W : World} {g : Nat} {c0 c1 c2 c3 : Value} (h : Blk 51 W g [c0, c1, c2, c3]) : W.cell? ⟨g, 0, none⟩ = some c0 ∧ W.cell? ⟨g, 1, none⟩ = some c1 ∧ W.cell? ⟨g, 2, none⟩ = some c2 ∧ W.cell? ⟨g, 3, none⟩ = some c3 ∧
    W.frozen? ⟨g, 0, none⟩ = false ∧ W.frozen? ⟨g, 1, none⟩ = false ∧ W.frozen? ⟨g, 2, none⟩ = false ∧ W.frozen? ⟨g, 3, none⟩ = false := ⟨h.cell 0, h.cell 1, h.cell 2, h.cell 3, h.frz 0, h.frz 1, h.frz 2, h.frz 3⟩
/-- How a call that hands back an expression ends. -/
theorem ex_fin {fn : Func} {i g n1 n0 : Nat} {r : Rs Exp} {x : Exp} {W : World} {tmps : Array Value} {c0 c1 c2 c3 : Value} {S T : ByteArray} {N : Int} {A : Option Addr} {L cap : Nat} (hfn : fn.results = #[.cell i 51]) (ht : tmps.getD i undef = .pointer (some ⟨g, 0, none⟩))
    (hb : Blk 51 W g [c0, c1, c2, c3]) (hst : RdS base B l k o W) (hbg : base ≤ g) (hw : w.heap.size = g) (hg : Gr B w W) (hn0 : n0 ≤ g) (hn : g < n1) (hC : ExC W (fun b => n1 ≤ b) x [.string S, .int .u32 N, .string T, .slice A L cap]) (hr : r = .ok x (at_ l k)) :
    bodyPost Tryz.prog fn (Ae base B l o w (ExR n0) r) .ret { tmps := tmps, defers := [] } ((((W.setCell ⟨g, 0, none⟩ (.string S)).setCell ⟨g, 1, none⟩ (.int .u32 N)).setCell ⟨g, 2, none⟩ (.string T)).setCell ⟨g, 3, none⟩ (.slice A L cap)) := by
  have hB := hst.low
  refine ret_cell (cs := [.string S, .int .u32 N, .string T, .slice A L cap]) hfn Tryz.underlying51 (by kernel_rfl) ht ((((hb.set 0 _).set 1 _).set 2 _).set 3 _) (Ae.ok hr ⟨S, T, N, A, L, cap, rfl, ?_⟩ ((((hst.set hbg 0 _).set hbg 1 _).set hbg 2 _).set hbg 3 _) (Gr.set (Gr.set (Gr.set (Gr.set hg (by omega) _) (by omega) _) (by omega) _) (by omega) _))
  have k1 : ∀ (W : World) (i : Nat) (v : Value), Kept (fun b => n1 ≤ b) W (W.setCell ⟨g, i, none⟩ v) := fun W i v => Kept.set W (by show ¬ n1 ≤ g; omega) v
  exact ((((hC.keep (k1 _ _ _)).keep (k1 _ _ _)).keep (k1 _ _ _)).keep (k1 _ _ _)).mono fun b _ hb => by omega
/-- .. the box was made later. -/
theorem ex_fin2 {fn : Func} {i g n1 n0 : Nat} {r : Rs Exp} {x : Exp} {W : World} {tmps : Array Value} {c0 c1 c2 c3 : Value} {S T : ByteArray} {N : Int} {A : Option Addr} {L cap : Nat} (hfn : fn.results = #[.cell i 51]) (ht : tmps.getD i undef = .pointer (some ⟨g, 0, none⟩))
    (hb : Blk 51 W g [c0, c1, c2, c3]) (hst : RdS base B l k o W) (hbg : base ≤ g) (hw : w.heap.size ≤ g) (hg : Gr B w W) (hn0 : n0 ≤ g) (hn : g < n1) (hC : ExC W (fun b => n1 ≤ b) x [.string S, .int .u32 N, .string T, .slice A L cap]) (hr : r = .ok x (at_ l k)) :
    bodyPost Tryz.prog fn (Ae base B l o w (ExR n0) r) .ret { tmps := tmps, defers := [] } ((((W.setCell ⟨g, 0, none⟩ (.string S)).setCell ⟨g, 1, none⟩ (.int .u32 N)).setCell ⟨g, 2, none⟩ (.string T)).setCell ⟨g, 3, none⟩ (.slice A L cap)) := by
  have hB := hst.low
  refine ret_cell (cs := [.string S, .int .u32 N, .string T, .slice A L cap]) hfn Tryz.underlying51 (by kernel_rfl) ht ((((hb.set 0 _).set 1 _).set 2 _).set 3 _) (Ae.ok hr ⟨S, T, N, A, L, cap, rfl, ?_⟩ ((((hst.set hbg 0 _).set hbg 1 _).set hbg 2 _).set hbg 3 _) (Gr.set (Gr.set (Gr.set (Gr.set hg (by omega) _) (by omega) _) (by omega) _) (by omega) _))
  have k1 : ∀ (W : World) (i : Nat) (v : Value), Kept (fun b => n1 ≤ b) W (W.setCell ⟨g, i, none⟩ v) := fun W i v => Kept.set W (by show ¬ n1 ≤ g; omega) v
  exact ((((hC.keep (k1 _ _ _)).keep (k1 _ _ _)).keep (k1 _ _ _)).keep (k1 _ _ _)).mono fun b _ hb => by omega
set_option maxHeartbeats 4000000 in
theorem index_any {n : Nat} (hE : ExprC base B l n) (h : RdS base B l k o w) {r : Rs Exp} (hr : index n o (at_ l k) = some r) :
    Calls Tryz.prog 189 #[.pointer (some ⟨B, 0, none⟩)] w (Ae base B l o w (ExR w.heap.size) r) := by
  unfold index at hr
  obtain ⟨W0, g, hW0, hg0, hb0, hst0, hgr0, hbg, hgl, hgB⟩ := start_box h ezero 51
  have c1 := Lib.hid (begin_any hst0 (ks_one 91 (by decide)) (S := ⟨#[91]⟩) rfl)
  unfold ezero at hW0 hb0
  replace hr := Lib.hid hr
  replace hb0 := Lib.hid hb0
  replace hgr0 := Lib.hid hgr0
  replace hE := Lib.hid hE
  clear h hst0
  go_enter Tryz.func189, Tryz.ntmps189
  go_wp2_with fail
  refine (c1.out).mono ?_
  rintro e w1 (⟨a1, k1, v1, hx1, rfl, hv1, hst1, hg1⟩ | ⟨c, ts, hx1, rfl, hg1⟩)
  case inr => exact ⟨rfl, Ae.bad (bad_of hr.out hx1) (hgr0.out.trans hg1)⟩
  unfold UnitR at hv1
  subst hv1
  obtain ⟨q2, hq2, hr2⟩ := opt_of (ok_of hr.out hx1)
  have c2 := Lib.hid (hE.out n (Nat.le_refl _) (o + 1) k1 w1 q2 hst1 hq2)
  have hgr1 := Lib.hid (hgr0.out.trans hg1)
  have hb1 := Lib.hid (hg1.blk hb0.out hgB)
  have hs1 := hg1.size
  replace hr2 := Lib.hid hr2
  clear hr c1 hx1 hst1 hg1 hq2 hgr0 hb0 hE
  go_wp2_with fail
  refine (c2.out).mono ?_
  rintro e w2 (⟨x, k2, v2, hx2, rfl, ⟨S, T, N, A, L, cap, rfl, hC2⟩, hst2, hg2⟩ | ⟨c, ts, hx2, rfl, hg2⟩)
  case inr => exact ⟨rfl, Ae.bad (bad_of hr2.out hx2) (hgr1.out.trans hg2)⟩
  have hr3 := Lib.hid (ok_of hr2.out hx2)
  obtain ⟨W3, g3, hW3, hg3, hb3, hst3, hgr3, hbg3, hgl3, hgB3⟩ := start_box hst2 [.string S, .int .u32 N, .string T, .slice A L cap] 51
  have hbl3 : Below w2.heap.size w2 W3 := by rw [← hW3]; exact boxed w2 _
  have c3 := Lib.hid (end_any hst3 (ks_one 93 (by decide)) (S := ⟨#[93]⟩) rfl)
  have hgr2 := Lib.hid (Gr.below (hgr1.out.trans hg2) hbl3)
  have hb2 := Lib.hid ((hg2.blk hb1.out hgB).below hbl3)
  have hC3 := Lib.hid ((hC2.keep (Kept.of_below hbl3)))
  replace hb3 := Lib.hid hb3
  clear hr2 c2 hx2 hst2 hg2 hgr1 hb1 hC2 hst3 hgr3 hbl3
  go_wp2_with fail
  refine (c3.out).mono ?_
  rintro e w4 (⟨a4, k4, v4, hx4, rfl, hv4, hst4, hg4⟩ | ⟨c, ts, hx4, rfl, hg4⟩)
  case inr => exact ⟨rfl, Ae.bad (bad_of hr3.out hx4) (hgr2.out.trans hg4)⟩
  unfold UnitR at hv4
  subst hv4
  have hr4 : r = .ok x (at_ l k4) := by
    have := ok_of hr3.out hx4
    injection this with this
    exact this.symm
  obtain ⟨z0, z1, z2, z3, _, _, _, _⟩ := ex_box (hg4.blk hb3.out hgB3)
  have hb4 := hg4.blk hb2.out hgB
  obtain ⟨y0, y1, y2, y3, f0, f1, f2, f3⟩ := ex_box hb4
  have hBw1 : B < w1.heap.size := by have := hst4.low; omega
  have hC4 := hC3.out.keep (hg4.keptN hBw1)
  have hgr4 := Lib.hid (hgr2.out.trans hg4)
  have hn : g < w1.heap.size := by omega
  replace hb4 := Lib.hid hb4
  replace hC4 := Lib.hid hC4
  replace hst4 := Lib.hid hst4
  replace hr4 := Lib.hid hr4
  clear hr3 c3 hx4 hg4 hgr2 hb2 hb3 hC3 hW0
  go_wp2
  exact ex_fin rfl (by simp) hb4.out hst4.out hbg hg0 hgr4.out (by omega) hn hC4.out hr4.out
end
end Go.Proofs.YtpbcncfbfbghcaaGreatDoor.L20
namespace Go.Proofs.YtpbcncfbfbghcaaGreatDoor.L20
set_option maxRecDepth 100000
open Go.RowKit Mem L19
set_option linter.unusedVariables false
set_option linter.unusedSimpArgs false

def mapR {α β : Type} (f : α → β) : Rs α → Rs β
  | .ok a ts => .ok (f a) ts
  | .bad c ts => .bad c ts
def callP (n o : Nat) (ts : List Tk) : Option (Rs (List Exp)) := bnd (some (enter [40] o ts)) fun _ ts => bnd (if sg [41] ts then some (.ok [] ts) else exprs n (o + 1) ts) fun l ts => bnd (some (want [41] ts)) fun _ ts => some (.ok l ts)
theorem args_eq (n o : Nat) (ts : List Tk) : args (n + 1) o ts = callP n o ts := by
  rw [args]
  unfold callP
  cases enter [40] o ts with
  | bad c us => rfl
  | ok a us =>
    show (if sg [41] us then _ else _) = bnd (if sg [41] us then _ else _) _
    rcases hs : sg [41] us with _ | _
    · rw [if_neg (by simp), if_neg (by simp)]
      unfold exprs
      cases expr n 1 (o + 1) us with
      | none => rfl
      | some q =>
        cases q with
        | bad c vs => rfl
        | ok x vs =>
          show bnd (more n (o + 1) vs) _ = bnd (bnd (more n (o + 1) vs) _) _
          cases more n (o + 1) vs with
          | none => rfl
          | some q => cases q <;> rfl
    · rw [if_pos rfl, if_pos rfl]
      show _ = bnd (some (want [41] us)) _
      unfold want
      rw [hs, if_pos rfl]
      rfl
/-- What follows a name in an expression. -/
def refP (n o : Nat) (s : Str) (ts : List Tk) : Option (Rs Exp) :=
  if sg [40] ts then bnd (callP n o ts) fun l ts => some (.ok (.call s l) ts) else if sg [91] ts then bnd (index n o ts) fun x ts => some (.ok (.elem s x) ts) else some (.ok (.var s) ts)
/-- A row of one expression in a block of its own. -/
theorem exs_one {W : World} {n1 : Nat} {x : Exp} {c : List Value} {T : TypeId} (h : ExC W (fun b => n1 ≤ b) x c) (hn : n1 ≤ W.heap.size) : Exs (W.alloc (.cells c.toArray T)) (fun b => n1 ≤ b) [x] (some ⟨W.heap.size, 0, none⟩) 1 := by
  have h1 := RowA.lit (w := W) (s := 4) (css := [c]) (T := T) (fun d hd => by rw [List.mem_singleton.1 hd]; exact h.len) (by show 1 ≤ maxLen; decide)
  rw [List.flatten_cons, List.flatten_nil, List.append_nil] at h1
  refine ⟨[c], h1.mono fun b _ hb => Nat.le_trans hn hb, fun i y d hy hd => ?_⟩
  match i, hy, hd with
  | 0, hy, hd =>
    injection hy with hy
    injection hd with hd
    subst hy hd
    exact h.keep (Kept.of_below (boxed W _))
/-- .. of two. -/
theorem exs_two {W : World} {n1 : Nat} {x y : Exp} {c d : List Value} {T : TypeId} (h : ExC W (fun b => n1 ≤ b) x c) (h' : ExC W (fun b => n1 ≤ b) y d) (hn : n1 ≤ W.heap.size) : Exs (W.alloc (.cells (c ++ d).toArray T)) (fun b => n1 ≤ b) [x, y] (some ⟨W.heap.size, 0, none⟩) 2 := by
  have h1 := RowA.lit (w := W) (s := 4) (css := [c, d]) (T := T) (fun e he => by
    rcases List.mem_cons.1 he with rfl | he
    · exact h.len
    · rw [List.mem_singleton.1 he]; exact h'.len) (by show 2 ≤ maxLen; decide)
  rw [List.flatten_cons, List.flatten_cons, List.flatten_nil, List.append_nil] at h1
  refine ⟨[c, d], h1.mono fun b _ hb => Nat.le_trans hn hb, fun i z e hz he => ?_⟩
  match i, hz, he with
  | 0, hz, he =>
    injection hz with hz
    injection he with he
    subst hz he
    exact h.keep (Kept.of_below (boxed W _))
  | 1, hz, he =>
    injection hz with hz
    injection he with he
    subst hz he
    exact h'.keep (Kept.of_below (boxed W _))
/-- .. whose trees lie in the blocks of F. -/
theorem exs_twoF {W : World} {F : Nat → Prop} {x y : Exp} {c d : List Value} {T : TypeId} (h : ExC W F x c) (h' : ExC W F y d) (hn : F W.heap.size) : Exs (W.alloc (.cells (c ++ d).toArray T)) F [x, y] (some ⟨W.heap.size, 0, none⟩) 2 := by
  have h1 := RowA.lit (w := W) (s := 4) (css := [c, d]) (T := T) (fun e he => by
    rcases List.mem_cons.1 he with rfl | he
    · exact h.len
    · rw [List.mem_singleton.1 he]; exact h'.len) (by show 2 ≤ maxLen; decide)
  rw [List.flatten_cons, List.flatten_cons, List.flatten_nil, List.append_nil] at h1
  refine ⟨[c, d], h1.mono fun b hl hb => (by rw [World.size_alloc] at hl; have : b = W.heap.size := (by omega); rw [this]; exact hn), fun i z e hz he => ?_⟩
  match i, hz, he with
  | 0, hz, he =>
    injection hz with hz
    injection he with he
    subst hz he
    exact h.keep (Kept.of_below (boxed W _))
  | 1, hz, he =>
    injection hz with hz
    injection he with he
    subst hz he
    exact h'.keep (Kept.of_below (boxed W _))
section
variable {base B k o : Nat} {l : List L19.Tok} {w : World}
set_option maxHeartbeats 4000000 in
theorem call_any {n : Nat} (hE : ExprC base B l n) (h : RdS base B l k o w) {s : Str} {X : ByteArray} (hX : strV s = .string X) {r : Rs (List Exp)} (hr : callP n o (at_ l k) = some r) :
    Calls Tryz.prog 188 #[.pointer (some ⟨B, 0, none⟩), .string X] w (Ae base B l o w (ExR w.heap.size) (mapR (Exp.call s) r)) := by
  unfold callP at hr
  obtain ⟨W0, g, hW0, hg0, hb0, hst0, hgr0, hbg, hgl, hgB⟩ := start_box h ezero 51
  obtain ⟨W1, g1, hW1, hg1, hb1, hst1, hgr1, hbg1, hgl1, hgB1⟩ := start_box hst0 [.string ⟨#[99, 97, 108, 108]⟩, .int .u32 0, .string X, .slice none 0 0] 51
  have hbl1 : Below W0.heap.size W0 W1 := by rw [← hW1]; exact boxed W0 _
  have c1 := Lib.hid (begin_any hst1 (ks_one 40 (by decide)) (S := ⟨#[40]⟩) rfl)
  have hb01 := hb0.below hbl1
  have hgr01 := Gr.below hgr0 hbl1
  have hgg : g ≠ g1 := by omega
  unfold ezero at hW0 hb01
  subst hW1
  replace hr := Lib.hid hr
  replace hb01 := Lib.hid hb01
  replace hb1 := Lib.hid hb1
  replace hgr01 := Lib.hid hgr01
  replace hE := Lib.hid hE
  clear h hst0 hst1 hb0 hgr0 hgr1 hbl1
  go_enter Tryz.func188, Tryz.ntmps188
  go_wp2_with fail
  refine (c1.out).mono ?_
  rintro e w2 (⟨a2, k2, v2, hx2, rfl, hv2, hst2, hg2⟩ | ⟨c, ts, hx2, rfl, hg2⟩)
  case inr =>
    have := bad_of hr.out hx2
    subst this
    exact ⟨rfl, Ae.bad rfl (hgr01.out.trans hg2)⟩
  unfold UnitR at hv2
  subst hv2
  have hr2 := ok_of hr.out hx2
  have hb02 := hg2.blk hb01.out hgB
  have hb2 := hg2.blk hb1.out hgB1
  have hgr2 := hgr01.out.trans hg2
  have cN := Lib.hid (isNext_any hst2 (ks_one 41 (by decide)) (S := ⟨#[41]⟩) rfl)
  have hsz2 := hg2.size
  replace hb02 := Lib.hid hb02
  replace hb2 := Lib.hid hb2
  replace hgr2 := Lib.hid hgr2
  clear hr hb01 hb1 hgr01 hg2 c1 hx2
  rcases hs : sg [41] (at_ l k2) with _ | _
  · rw [hs] at cN
    rw [hs, if_neg Bool.false_ne_true] at hr2
    obtain ⟨q, hq, hr3⟩ := opt_of hr2
    have cL := Lib.hid (fun W (hW : Below w2.heap.size w2 W) => listE_any hE.out (hst2.below hW) hq)
    replace hr3 := Lib.hid hr3
    clear hr2 hE hq hs
    go_wp2_with fail
    refine (cN.out).mono ?_
    rintro e w3 ⟨rfl, hb3⟩
    have cl := Lib.hid (cL.out w3 hb3)
    have hs3 := hb3.size
    replace hb3 := Lib.hid hb3
    go_wp2_with fail
    refine (cl.out).mono ?_
    rintro e w4 (⟨la, k4, v4, hx4, rfl, ⟨A, L, cap, rfl, hL, hC4⟩, hst4, hg4⟩ | ⟨c, ts, hx4, rfl, hg4⟩)
    case inr =>
      have := bad_of hr3.out hx4
      subst this
      exact ⟨rfl, Ae.bad rfl ((Gr.below hgr2.out hb3.out).trans hg4)⟩
    have hr4 := ok_of hr3.out hx4
    have hb04 := hg4.blk (hb02.out.below hb3.out) hgB
    have hb4 := hg4.blk (hb2.out.below hb3.out) hgB1
    have hgr4 := (Gr.below hgr2.out hb3.out).trans hg4
    obtain ⟨y0, y1, y2, y3, f0, f1, f2, f3⟩ := ex_box hb4
    have hn3 : g1 < w3.heap.size := by omega
    have hnW : w.heap.size ≤ g1 := by omega
    obtain ⟨W5, hW5⟩ : ∃ W, w4.setCell ⟨g1, 3, none⟩ (.slice A L cap) = W := ⟨_, rfl⟩
    have hst5 : RdS base B l k4 (o + 1) W5 := by rw [← hW5]; exact hst4.set hbg1 3 _
    have hb5 : Blk 51 W5 g1 [.string ⟨#[99, 97, 108, 108]⟩, .int .u32 0, .string X, .slice A L cap] := by rw [← hW5]; exact hb4.set 3 _
    have hb05 : Blk 51 W5 g [.string ⟨#[]⟩, .int .u32 0, .string ⟨#[]⟩, .slice none 0 0] := by rw [← hW5]; exact Blk.other hb04 hgg _
    have hgr5 : Gr B w W5 := by rw [← hW5]; exact Gr.set hgr4 hnW _
    have hC5 : Exs W5 (fun b => w3.heap.size ≤ b) la A cap := by rw [← hW5]; exact hC4.keep (Kept.set w4 (by show ¬ w3.heap.size ≤ g1; omega) _)
    have cE := Lib.hid (end_any hst5 (ks_one 41 (by decide)) (S := ⟨#[41]⟩) rfl)
    replace hr4 := Lib.hid hr4
    replace hb5 := Lib.hid hb5
    replace hb05 := Lib.hid hb05
    replace hgr5 := Lib.hid hgr5
    replace hC5 := Lib.hid hC5
    have hB5 := hst5.low
    clear hb04 hb4 hgr4 hst4 hst5 hC4 hr3 hb2 hb02 hgr2 hb3 hst2 hg4 hx4 cl cL cN hsz2
    go_wp2_with fail
    refine (cE.out).mono ?_
    rintro e w6 (⟨a6, k6, v6, hx6, rfl, hv6, hst6, hg6⟩ | ⟨c, ts, hx6, rfl, hg6⟩)
    case inr =>
      have := bad_of hr4.out hx6
      subst this
      exact ⟨rfl, Ae.bad rfl (hgr5.out.trans hg6)⟩
    unfold UnitR at hv6
    subst hv6
    have hr6 : r = .ok la (at_ l k6) := by
      have := ok_of hr4.out hx6
      injection this with this
      exact this.symm
    subst hr6
    have hb6 := hg6.blk hb5.out hgB1
    have hb06 := hg6.blk hb05.out hgB
    obtain ⟨z0, z1, z2, z3, _, _, _, _⟩ := ex_box hb6
    obtain ⟨u0, u1, u2, u3, e0, e1, e2, e3⟩ := ex_box hb06
    have hC6 := hC5.out.keep (hg6.keptN (by omega))
    have hCx : ExC w6 (fun b => w3.heap.size ≤ b) (.call s la) [.string ⟨#[99, 97, 108, 108]⟩, .int .u32 0, .string X, .slice A L cap] := by
      have := ExC.of (x := .call s la) (A := A) (cap := cap) hC6
      unfold eCells at this
      rw [show strV (Exp.call s la).nam = _ from hX, show (Exp.call s la).kids.length = L from hL] at this
      exact this
    have hgr6 := Lib.hid (hgr5.out.trans hg6)
    have hn : g < w3.heap.size := by omega
    replace hb06 := Lib.hid hb06
    replace hCx := Lib.hid hCx
    replace hst6 := Lib.hid hst6
    clear hr4 cE hx6 hg6 hgr5 hb5 hb6 hb05 hC5 hC6 hL hW5 y0 y1 y2 y3 f0 f1 f2 f3
    go_wp2
    exact ex_fin rfl (by simp) hb06.out hst6.out hbg hg0 hgr6.out (by omega) hn hCx.out rfl
  · rw [hs] at cN
    rw [hs, if_pos rfl] at hr2
    have cE := Lib.hid (fun W (hW : Below w2.heap.size w2 W) => end_any (hst2.below hW) (ks_one 41 (by decide)) (S := ⟨#[41]⟩) rfl)
    replace hr2 := Lib.hid hr2
    clear hE hs
    go_wp2_with fail
    refine (cN.out).mono ?_
    rintro e w3 ⟨rfl, hb3⟩
    have ce := Lib.hid (cE.out w3 hb3)
    have hs3 := hb3.size
    replace hb3 := Lib.hid hb3
    go_wp2_with fail
    refine (ce.out).mono ?_
    rintro e w6 (⟨a6, k6, v6, hx6, rfl, hv6, hst6, hg6⟩ | ⟨c, ts, hx6, rfl, hg6⟩)
    case inr =>
      have := bad_of (ok_of hr2.out rfl) hx6
      subst this
      exact ⟨rfl, Ae.bad rfl ((Gr.below hgr2.out hb3.out).trans hg6)⟩
    unfold UnitR at hv6
    subst hv6
    have hr6 : r = .ok [] (at_ l k6) := by
      have := ok_of (ok_of hr2.out rfl) hx6
      injection this with this
      exact this.symm
    subst hr6
    have hb6 := hg6.blk (hb2.out.below hb3.out) hgB1
    have hb06 := hg6.blk (hb02.out.below hb3.out) hgB
    obtain ⟨z0, z1, z2, z3, _, _, _, _⟩ := ex_box hb6
    obtain ⟨u0, u1, u2, u3, e0, e1, e2, e3⟩ := ex_box hb06
    have hCx : ExC w6 (fun b => w3.heap.size ≤ b) (.call s []) [.string ⟨#[99, 97, 108, 108]⟩, .int .u32 0, .string X, .slice none 0 0] := by
      have := ExC.of (x := .call s []) (A := none) (cap := 0) (Exs.nil w6 (fun b => w3.heap.size ≤ b))
      unfold eCells at this
      rw [show strV (Exp.call s []).nam = _ from hX] at this
      exact this
    have hgr6 := Lib.hid ((Gr.below hgr2.out hb3.out).trans hg6)
    have hn : g < w3.heap.size := by omega
    replace hb06 := Lib.hid hb06
    replace hCx := Lib.hid hCx
    replace hst6 := Lib.hid hst6
    clear cE hx6 hg6 hgr2 hb2 hb6 hb02 hb3 ce cN hr2
    go_wp2
    exact ex_fin rfl (by simp) hb06.out hst6.out hbg hg0 hgr6.out (by omega) hn hCx.out rfl
set_option maxHeartbeats 4000000 in
theorem reference_any {n : Nat} (hE : ExprC base B l n) (h : RdS base B l k o w) {s : Str} {X : ByteArray} (hX : strV s = .string X) {r : Rs Exp} (hr : refP n o s (at_ l k) = some r) :
    Calls Tryz.prog 206 #[.pointer (some ⟨B, 0, none⟩), .string X] w (Ae base B l o w (ExR w.heap.size) r) := by
  unfold refP at hr
  obtain ⟨W0, g, hW0, hg0, hb0, hst0, hgr0, hbg, hgl, hgB⟩ := start_box h ezero 51
  have c1 := Lib.hid (peek_any hst0)
  have q40 := sg_text (hst0.ok.goodAt k) (ks_one 40 (by decide))
  have q91 := sg_text (hst0.ok.goodAt k) (ks_one 91 (by decide))
  rw [tokAt_tx] at q40 q91
  have t40 := fun (Y : ByteArray) (hY : strV (tokAt l k).2.1 = .string Y) => (str_beq hY (b := [40]) (B := ⟨#[40]⟩) rfl).trans q40.symm
  have t91 := fun (Y : ByteArray) (hY : strV (tokAt l k).2.1 = .string Y) => (str_beq hY (b := [91]) (B := ⟨#[91]⟩) rfl).trans q91.symm
  have e40 : (⟨#[40]⟩ : ByteArray).toList = [40] := by simp [ByteArray.toList_eq]
  have e91 : (⟨#[91]⟩ : ByteArray).toList = [91] := by simp [ByteArray.toList_eq]
  rw [e40] at t40
  rw [e91] at t91
  have cC := Lib.hid (fun W (hW : Below W0.heap.size W0 W) (q : Rs (List Exp)) (hq : callP n o (at_ l k) = some q) => call_any hE (hst0.below hW) hX hq)
  have cI := Lib.hid (fun W (hW : Below W0.heap.size W0 W) (q : Rs Exp) (hq : index n o (at_ l k) = some q) => index_any hE (hst0.below hW) hq)
  have hf1 := fld1
  unfold ezero at hW0 hb0
  replace hr := Lib.hid hr
  replace hb0 := Lib.hid hb0
  replace hst0 := Lib.hid hst0
  replace hgr0 := Lib.hid hgr0
  clear h hE q40 q91 e40 e91
  go_enter Tryz.func206, Tryz.ntmps206
  go_wp2_with fail
  refine (c1.out).mono ?_
  rintro e w1 ⟨K, Z, Y, rfl, hK, hZ, hY, hb1⟩
  clear hK hZ
  replace t40 := t40 Y hY
  replace t91 := t91 Y hY
  have hs1 := hb1.size
  have hr1 := hr.out
  clear hr hY
  rcases hs40 : sg [40] (at_ l k) with _ | _
  · rw [hs40] at t40
    rw [hs40, if_neg Bool.false_ne_true] at hr1
    rcases hs91 : sg [91] (at_ l k) with _ | _
    · rw [hs91] at t91
      rw [hs91, if_neg Bool.false_ne_true] at hr1
      injection hr1 with hr1
      subst hr1
      obtain ⟨u0, u1, u2, u3, e0, e1, e2, e3⟩ := ex_box (hb0.out.below hb1)
      have hCx : ExC w1 (fun b => w1.heap.size ≤ b) (.var s) [.string ⟨#[118, 97, 114]⟩, .int .u32 0, .string X, .slice none 0 0] := by
        have := ExC.of (x := .var s) (A := none) (cap := 0) (Exs.nil w1 (fun b => w1.heap.size ≤ b))
        unfold eCells at this
        rw [show strV (Exp.var s).nam = _ from hX] at this
        exact this
      have hbx := Lib.hid (hb0.out.below hb1)
      have hsx := Lib.hid (hst0.out.below hb1)
      have hgx := Lib.hid (Gr.below hgr0.out hb1)
      have hn : g < w1.heap.size := by omega
      replace hCx := Lib.hid hCx
      clear hs40 hs91 cC cI hb1 c1 hb0 hst0 hgr0 hW0
      go_wp2
      exact ex_fin rfl (by simp) hbx.out hsx.out hbg hg0 hgx.out (by omega) hn hCx.out rfl
    · rw [hs91] at t91
      rw [hs91, if_pos rfl] at hr1
      obtain ⟨q, hq, hr2⟩ := opt_of hr1
      have ci := Lib.hid (cI.out w1 hb1 q hq)
      have hgr1 := Lib.hid (Gr.below hgr0.out hb1)
      have hb01 := Lib.hid (hb0.out.below hb1)
      have hB1 : B < w1.heap.size := by have := hst0.out.low; omega
      replace hr2 := Lib.hid hr2
      clear hs40 hs91 cC cI hb1 c1 hb0 hst0 hgr0 hq hr1 hW0
      go_wp2_with fail
      refine (ci.out).mono ?_
      rintro e w2 (⟨x, k2, v2, hx2, rfl, ⟨S, T, N, A, L, cap, rfl, hC2⟩, hst2, hg2⟩ | ⟨c, ts, hx2, rfl, hg2⟩)
      case inr => exact ⟨rfl, Ae.bad (bad_of hr2.out hx2) (hgr1.out.trans hg2)⟩
      have hr3 : r = .ok (.elem s x) (at_ l k2) := by
        have := ok_of hr2.out hx2
        injection this with this
        exact this.symm
      subst hr3
      have hs2 := hg2.size
      obtain ⟨W3, hW3⟩ : ∃ W, w2.alloc (.cells #[.string S, .int .u32 N, .string T, .slice A L cap] 51) = W := ⟨_, rfl⟩
      have hbl : Below w2.heap.size w2 W3 := by rw [← hW3]; exact boxed w2 _
      have hEx : Exs W3 (fun b => w1.heap.size ≤ b) [x] (some ⟨w2.heap.size, 0, none⟩) 1 := by rw [← hW3]; exact exs_one hC2 hs2
      have hCx : ExC W3 (fun b => w1.heap.size ≤ b) (.elem s x) [.string ⟨#[101, 108, 101, 109]⟩, .int .u32 0, .string X, .slice (some ⟨w2.heap.size, 0, none⟩) 1 1] := by
        have := ExC.of (x := .elem s x) hEx
        unfold eCells at this
        rw [show strV (Exp.elem s x).nam = _ from hX] at this
        exact this
      have hbx := (hg2.blk hb01.out hgB).below hbl
      obtain ⟨u0, u1, u2, u3, e0, e1, e2, e3⟩ := ex_box hbx
      have hsx := Lib.hid (hst2.below hbl)
      have hgx := Lib.hid (Gr.below (hgr1.out.trans hg2) hbl)
      have hn : g < w1.heap.size := by omega
      replace hCx := Lib.hid hCx
      replace hbx := Lib.hid hbx
      clear hr2 hx2 hst2 hg2 hC2 hEx hbl hgr1 hb01 ci
      go_wp2
      exact ex_fin rfl (by simp) hbx.out hsx.out hbg hg0 hgx.out (by omega) hn hCx.out rfl
  · rw [hs40] at t40
    rw [hs40, if_pos rfl] at hr1
    obtain ⟨q, hq, hr2⟩ := opt_of hr1
    have cc := Lib.hid (cC.out w1 hb1 q hq)
    have hgr1 := Lib.hid (Gr.below hgr0.out hb1)
    have hb01 := Lib.hid (hb0.out.below hb1)
    have hr3 : mapR (Exp.call s) q = r := by
      cases q <;> (injection hr2 with hr2)
    rw [hr3] at cc
    clear hs40 cC cI hb1 c1 hb0 hst0 hgr0 hq hr1 hr2 hr3 hW0
    go_wp2_with fail
    refine (cc.out).mono ?_
    rintro e w2 (⟨x, k2, v2, hx2, rfl, ⟨S, T, N, A, L, cap, rfl, hC2⟩, hst2, hg2⟩ | ⟨c, ts, hx2, rfl, hg2⟩)
    case inr => exact ⟨rfl, Ae.bad hx2 (hgr1.out.trans hg2)⟩
    have hbx := hg2.blk hb01.out hgB
    obtain ⟨u0, u1, u2, u3, e0, e1, e2, e3⟩ := ex_box hbx
    have hgx := Lib.hid (hgr1.out.trans hg2)
    have hn : g < w1.heap.size := by omega
    replace hC2 := Lib.hid hC2
    replace hst2 := Lib.hid hst2
    replace hbx := Lib.hid hbx
    replace hx2 := Lib.hid hx2
    clear hg2 hgr1 hb01 cc
    go_wp2
    exact ex_fin rfl (by simp) hbx.out hst2.out hbg hg0 hgx.out (by omega) hn hC2.out hx2.out
end
end Go.Proofs.YtpbcncfbfbghcaaGreatDoor.L20
namespace Go.Proofs.YtpbcncfbfbghcaaGreatDoor.L20
set_option maxRecDepth 100000
open Go.RowKit Mem L19
set_option linter.unusedVariables false
set_option linter.unusedSimpArgs false

def prefP (n o : Nat) (s : Str) (ts : List Tk) : Option (Rs Exp) := bnd (some (enter s o ts)) fun _ ts => bnd (unary n (o + 1) ts) fun x ts => some (.ok (.un s x) ts)
theorem unary_eq (n o : Nat) (ts : List Tk) : unary (n + 1) o ts = if sg [45] ts then prefP n o [45] ts else if sg [33] ts then prefP n o [33] ts else primary n o ts := by
  rw [unary.eq_2]
  have htx : ∀ s, sg s ts = true → tx ts = s := fun s h => by
    cases ts with
    | nil => cases h
    | cons t r => obtain ⟨a, T⟩ := t; simp [sg] at h; exact h.2
  have main : ∀ s, sg s ts = true → (if o = 100 then some (Rs.bad 6 ts) else bnd (unary n (o + 1) ts.tail) fun x ts' => some (.ok (.un (tx ts) x) ts')) = prefP n o s ts := fun s h => by
    unfold prefP enter
    rw [h, if_pos rfl, htx s h]
    by_cases ho : o = 100
    · rw [if_pos ho, if_pos ho]; rfl
    · rw [if_neg ho, if_neg ho]; rfl
  rcases h1 : sg [45] ts with _ | _
  · rcases h2 : sg [33] ts with _ | _
    · rfl
    · exact main _ h2
  · exact main _ h1
/-- The contract of unary, up to a fuel. -/
def UnaryC (base B : Nat) (l : List L19.Tok) (n : Nat) : Prop := ∀ (m : Nat), m ≤ n → ∀ (o k : Nat) (w : World) (r : Rs Exp), RdS base B l k o w → unary m o (at_ l k) = some r → Calls Tryz.prog 183 #[.pointer (some ⟨B, 0, none⟩)] w (Ae base B l o w (ExR w.heap.size) r)
def PrimC (base B : Nat) (l : List L19.Tok) (n : Nat) : Prop := ∀ (m : Nat), m ≤ n → ∀ (o k : Nat) (w : World) (r : Rs Exp), RdS base B l k o w → primary m o (at_ l k) = some r → Calls Tryz.prog 201 #[.pointer (some ⟨B, 0, none⟩)] w (Ae base B l o w (ExR w.heap.size) r)
section
variable {base B k o : Nat} {l : List L19.Tok} {w : World}
set_option maxHeartbeats 4000000 in
theorem prefixed_any {n : Nat} (hU : UnaryC base B l n) (h : RdS base B l k o w) {s : Str} {X O : ByteArray} (hs : Ks s) (hX : strV s = .string X) (hO : ∀ x, strV (Exp.un s x).opS = .string O) {r : Rs Exp} (hr : prefP n o s (at_ l k) = some r) :
    Calls Tryz.prog 200 #[.pointer (some ⟨B, 0, none⟩), .string X, .string O] w (Ae base B l o w (ExR w.heap.size) r) := by
  unfold prefP at hr
  have ho := h.o1
  obtain ⟨W0, g, hW0, hg0, hb0, hst0, hgr0, hbg, hgl, hgB⟩ := start_box h ezero 51
  have c1 := Lib.hid (begin_any hst0 hs hX)
  unfold ezero at hW0 hb0
  replace hr := Lib.hid hr
  replace hb0 := Lib.hid hb0
  replace hgr0 := Lib.hid hgr0
  replace hU := Lib.hid hU
  replace hO := Lib.hid hO
  clear h hst0 hs hX
  go_enter Tryz.func200, Tryz.ntmps200
  go_wp2_with fail
  refine (c1.out).mono ?_
  rintro e w1 (⟨a1, k1, v1, hx1, rfl, hv1, hst1, hg1⟩ | ⟨c, ts, hx1, rfl, hg1⟩)
  case inr => exact ⟨rfl, Ae.bad (bad_of hr.out hx1) (hgr0.out.trans hg1)⟩
  unfold UnitR at hv1
  subst hv1
  have ho1 := hst1.o1
  obtain ⟨q2, hq2, hr2⟩ := opt_of (ok_of hr.out hx1)
  have c2 := Lib.hid (hU.out n (Nat.le_refl _) (o + 1) k1 w1 q2 hst1 hq2)
  have hgr1 := Lib.hid (hgr0.out.trans hg1)
  have hb1 := Lib.hid (hg1.blk hb0.out hgB)
  have hs1 := hg1.size
  replace hr2 := Lib.hid hr2
  clear hr c1 hx1 hst1 hg1 hq2 hgr0 hb0 hU
  go_wp2_with fail
  refine (c2.out).mono ?_
  rintro e w2 (⟨x, k2, v2, hx2, rfl, ⟨S, T, N, A, L, cap, rfl, hC2⟩, hst2, hg2⟩ | ⟨c, ts, hx2, rfl, hg2⟩)
  case inr => exact ⟨rfl, Ae.bad (bad_of hr2.out hx2) (hgr1.out.trans hg2)⟩
  have hr3 : r = .ok (.un s x) (at_ l k2) := by
    have := ok_of hr2.out hx2
    injection this with this
    exact this.symm
  subst hr3
  have hs2 := hg2.size
  obtain ⟨W3, g3, hW3, hg3, hb3, hst3, hgr3, hbg3, hgl3, hgB3⟩ := start_box hst2 [.string S, .int .u32 N, .string T, .slice A L cap] 51
  have hbl3 : Below w2.heap.size w2 W3 := by rw [← hW3]; exact boxed w2 _
  obtain ⟨_, d2, _, f2⟩ := hst3.cells
  obtain ⟨q, hq⟩ : ∃ q : Int, ((o + 1 : Nat) : Int) = q := ⟨_, rfl⟩
  rw [hq] at d2
  have eJ : q - 1 = (o : Int) := by omega
  have q1 : q ≤ 101 := by omega
  have q0 : 0 ≤ q := by omega
  obtain ⟨W4, hW4⟩ : ∃ W, W3.setCell ⟨B, 2, none⟩ (.int .i64 (o : Int)) = W := ⟨_, rfl⟩
  have hst4 : RdS base B l k2 o W4 := by rw [← hW4]; exact hst3.setOpen ho
  have hg34 : Gr B W3 W4 := by rw [← hW4]; exact (Gr.refl B W3).setB _
  have hgr4 : Gr B w W4 := (Gr.below (hgr1.out.trans hg2) hbl3).trans hg34
  have hb34 := hg34.blk hb3 hgB3
  have hb04 := hg34.blk ((hg2.blk hb1.out hgB).below hbl3) hgB
  have hBw1 : B < w1.heap.size := by have := hst3.low; omega
  have hC4 := (hC2.keep (Kept.of_below hbl3)).keep (hg34.keptN hBw1)
  have hs4 := hg34.size
  obtain ⟨W5, hW5⟩ : ∃ W, W4.alloc (.cells #[.string S, .int .u32 N, .string T, .slice A L cap] 51) = W := ⟨_, rfl⟩
  have hbl5 : Below W4.heap.size W4 W5 := by rw [← hW5]; exact boxed W4 _
  have hEx : Exs W5 (fun b => w1.heap.size ≤ b) [x] (some ⟨W4.heap.size, 0, none⟩) 1 := by rw [← hW5]; exact exs_one hC4 (by omega)
  have hCx : ExC W5 (fun b => w1.heap.size ≤ b) (.un s x) [.string O, .int .u32 0, .string ⟨#[]⟩, .slice (some ⟨W4.heap.size, 0, none⟩) 1 1] := by
    have := ExC.of (x := .un s x) hEx
    unfold eCells at this
    rw [hO.out x] at this
    exact this
  obtain ⟨z0, z1, z2, z3, _, _, _, _⟩ := ex_box hb34
  obtain ⟨u0, u1, u2, u3, e0, e1, e2, e3⟩ := ex_box (hb04.below hbl5)
  have hbx := Lib.hid (hb04.below hbl5)
  have hsx := Lib.hid (hst4.below hbl5)
  have hgx := Lib.hid (Gr.below hgr4 hbl5)
  have hn : g < w1.heap.size := by omega
  replace hCx := Lib.hid hCx
  clear hr2 c2 hx2 hst2 hg2 hgr1 hb1 hC2 hst3 hgr3 hbl3 hst4 hg34 hgr4 hb34 hb04 hC4 hbl5 hEx hb3 hq hW0
  go_wp2
  exact ex_fin rfl (by simp) hbx.out hsx.out hbg hg0 hgx.out (by omega) hn hCx.out rfl
set_option maxHeartbeats 4000000 in
theorem unary_any {n : Nat} (hU : UnaryC base B l n) (hP : PrimC base B l n) (h : RdS base B l k o w) {r : Rs Exp} (hr : unary (n + 1) o (at_ l k) = some r) :
    Calls Tryz.prog 183 #[.pointer (some ⟨B, 0, none⟩)] w (Ae base B l o w (ExR w.heap.size) r) := by
  rw [unary_eq] at hr
  obtain ⟨W0, g, hW0, hg0, hb0, hst0, hgr0, hbg, hgl, hgB⟩ := start_box h ezero 51
  have c1 := Lib.hid (peek_any hst0)
  have q45 := sg_text (hst0.ok.goodAt k) (ks_one 45 (by decide))
  have q33 := sg_text (hst0.ok.goodAt k) (ks_one 33 (by decide))
  rw [tokAt_tx] at q45 q33
  have t45 := fun (Y : ByteArray) (hY : strV (tokAt l k).2.1 = .string Y) => (str_beq hY (b := [45]) (B := ⟨#[45]⟩) rfl).trans q45.symm
  have t33 := fun (Y : ByteArray) (hY : strV (tokAt l k).2.1 = .string Y) => (str_beq hY (b := [33]) (B := ⟨#[33]⟩) rfl).trans q33.symm
  rw [show (⟨#[45]⟩ : ByteArray).toList = [45] by simp [ByteArray.toList_eq]] at t45
  rw [show (⟨#[33]⟩ : ByteArray).toList = [33] by simp [ByteArray.toList_eq]] at t33
  have cA := Lib.hid (fun W (hW : Below W0.heap.size W0 W) (hq : prefP n o [45] (at_ l k) = some r) => prefixed_any hU (hst0.below hW) (ks_one 45 (by decide)) (X := ⟨#[45]⟩) rfl (O := ⟨#[110, 101, 103]⟩) (fun _ => rfl) hq)
  have cB := Lib.hid (fun W (hW : Below W0.heap.size W0 W) (hq : prefP n o [33] (at_ l k) = some r) => prefixed_any hU (hst0.below hW) (ks_one 33 (by decide)) (X := ⟨#[33]⟩) rfl (O := ⟨#[110, 111, 116]⟩) (fun _ => rfl) hq)
  have cC := Lib.hid (fun W (hW : Below W0.heap.size W0 W) (hq : primary n o (at_ l k) = some r) => hP n (Nat.le_refl _) o k W r (hst0.below hW) hq)
  have hf1 := fld1
  unfold ezero at hW0 hb0
  have main : ∀ (w1 w2 : World) (e : Ending), Below W0.heap.size W0 w1 → Ae base B l o w1 (ExR w1.heap.size) r e w2 → (∃ (x : Exp) (k2 : Nat) (S T : ByteArray) (N : Int) (A : Option Addr) (L cap : Nat), e = .returned (.agg #[.string S, .int .u32 N, .string T, .slice A L cap]) ∧ r = .ok x (at_ l k2) ∧ Blk 51 w2 g [.string ⟨#[]⟩, .int .u32 0, .string ⟨#[]⟩, .slice none 0 0] ∧ RdS base B l k2 o w2 ∧ Gr B w w2 ∧ g < w1.heap.size ∧ ExC w2 (fun b => w1.heap.size ≤ b) x [.string S, .int .u32 N, .string T, .slice A L cap]) ∨ (∃ c ts, e = .panicked [fl (lnAt l ts) c] ∧ Ae base B l o w (ExR w.heap.size) r (.panicked [fl (lnAt l ts) c]) w2) := fun w1 w2 e hb1 hA => by
    have hs1 := hb1.size
    have hgr1 := Gr.below hgr0 hb1
    rcases hA with ⟨x, k2, v2, hx2, rfl, ⟨S, T, N, A, L, cap, rfl, hC2⟩, hst2, hg2⟩ | ⟨c, ts, hx2, rfl, hg2⟩
    · exact .inl ⟨x, k2, S, T, N, A, L, cap, rfl, hx2, hg2.blk (hb0.below hb1) hgB, hst2, hgr1.trans hg2, by omega, hC2⟩
    · exact .inr ⟨c, ts, rfl, Ae.bad hx2 (hgr1.trans hg2)⟩
  replace hr := Lib.hid hr
  replace main := Lib.hid main
  clear h hU hP q45 q33 hb0 hst0 hgr0
  go_enter Tryz.func183, Tryz.ntmps183
  go_wp2_with fail
  refine (c1.out).mono ?_
  rintro e w1 ⟨K, Z, Y, rfl, hK, hZ, hY, hb1⟩
  clear hK hZ
  replace t45 := t45 Y hY
  replace t33 := t33 Y hY
  have hr1 := hr.out
  clear hr hY
  rcases hs45 : sg [45] (at_ l k) with _ | _
  · rw [hs45] at t45
    rw [hs45, if_neg Bool.false_ne_true] at hr1
    rcases hs33 : sg [33] (at_ l k) with _ | _
    · rw [hs33] at t33
      rw [hs33, if_neg Bool.false_ne_true] at hr1
      have cc := Lib.hid (cC.out w1 hb1 hr1)
      replace main := Lib.hid (fun w2 e h => main.out w1 w2 e hb1 h)
      clear hs45 hs33 cA cB cC hb1 c1 hr1 hW0
      go_wp2_with fail
      refine (cc.out).mono ?_
      rintro e w2 hA
      rcases main.out w2 e hA with ⟨x, k2, S, T, N, A, L, cap, rfl, hx2, hbx, hst2, hgx, hn, hC2⟩ | ⟨c, ts, rfl, hA2⟩
      case inr => exact ⟨rfl, by rw [← hg0]; exact hA2⟩
      obtain ⟨u0, u1, u2, u3, e0, e1, e2, e3⟩ := ex_box hbx
      replace hC2 := Lib.hid hC2
      replace hst2 := Lib.hid hst2
      replace hbx := Lib.hid hbx
      replace hx2 := Lib.hid hx2
      replace hgx := Lib.hid hgx
      clear hA main cc
      go_wp2
      exact ex_fin rfl (by simp) hbx.out hst2.out hbg hg0 hgx.out (by omega) hn hC2.out hx2.out
    · rw [hs33] at t33
      rw [hs33, if_pos rfl] at hr1
      have cc := Lib.hid (cB.out w1 hb1 hr1)
      replace main := Lib.hid (fun w2 e h => main.out w1 w2 e hb1 h)
      clear hs45 hs33 cA cB cC hb1 c1 hr1 hW0
      go_wp2_with fail
      refine (cc.out).mono ?_
      rintro e w2 hA
      rcases main.out w2 e hA with ⟨x, k2, S, T, N, A, L, cap, rfl, hx2, hbx, hst2, hgx, hn, hC2⟩ | ⟨c, ts, rfl, hA2⟩
      case inr => exact ⟨rfl, by rw [← hg0]; exact hA2⟩
      obtain ⟨u0, u1, u2, u3, e0, e1, e2, e3⟩ := ex_box hbx
      replace hC2 := Lib.hid hC2
      replace hst2 := Lib.hid hst2
      replace hbx := Lib.hid hbx
      replace hx2 := Lib.hid hx2
      replace hgx := Lib.hid hgx
      clear hA main cc
      go_wp2
      exact ex_fin rfl (by simp) hbx.out hst2.out hbg hg0 hgx.out (by omega) hn hC2.out hx2.out
  · rw [hs45] at t45
    rw [hs45, if_pos rfl] at hr1
    have cc := Lib.hid (cA.out w1 hb1 hr1)
    replace main := Lib.hid (fun w2 e h => main.out w1 w2 e hb1 h)
    clear hs45 cA cB cC hb1 c1 hr1 hW0
    go_wp2_with fail
    refine (cc.out).mono ?_
    rintro e w2 hA
    rcases main.out w2 e hA with ⟨x, k2, S, T, N, A, L, cap, rfl, hx2, hbx, hst2, hgx, hn, hC2⟩ | ⟨c, ts, rfl, hA2⟩
    case inr => exact ⟨rfl, by rw [← hg0]; exact hA2⟩
    obtain ⟨u0, u1, u2, u3, e0, e1, e2, e3⟩ := ex_box hbx
    replace hC2 := Lib.hid hC2
    replace hst2 := Lib.hid hst2
    replace hbx := Lib.hid hbx
    replace hx2 := Lib.hid hx2
    replace hgx := Lib.hid hgx
    clear hA main cc
    go_wp2
    exact ex_fin rfl (by simp) hbx.out hst2.out hbg hg0 hgx.out (by omega) hn hC2.out hx2.out
end
end Go.Proofs.YtpbcncfbfbghcaaGreatDoor.L20
namespace Go.Proofs.YtpbcncfbfbghcaaGreatDoor.L20
set_option maxRecDepth 100000
open Go.RowKit Mem L19
set_option linter.unusedVariables false
set_option linter.unusedSimpArgs false

def parenP (n o : Nat) (ts : List Tk) : Option (Rs Exp) := bnd (some (enter [40] o ts)) fun _ ts => bnd (expr n 1 (o + 1) ts) fun x ts => bnd (some (want [41] ts)) fun _ ts => some (.ok x ts)
/-- The landed order of tests. -/
theorem primary_eq {n o : Nat} {ts : List Tk} (hg : Good ts) {r : Rs Exp} (h : primary (n + 1) o ts = some r) : (if sg [40] ts then parenP n o ts else if kd 1 ts then bnd (some (number ts)) fun v ts => some (.ok (.num v) ts) else bnd (some (name ts)) fun s ts => refP n o s ts) = some r := by
  rw [primary] at h
  have hex : sg [40] ts = true → kd 1 ts = false := fun hs => by
    cases ts with
    | nil => cases hs
    | cons t q =>
      obtain ⟨a, T⟩ := t
      have : a = 4 ∨ a = 3 := by simp [sg] at hs; exact hs.1
      show (a == 1) = false
      exact beq_eq_false_iff_ne.2 (by omega)
  rcases hs : sg [40] ts with _ | _
  · rw [if_neg Bool.false_ne_true]
    rcases hk : kd 1 ts with _ | _
    · rw [if_neg Bool.false_ne_true]
      rw [hk, hs, if_neg Bool.false_ne_true, if_neg Bool.false_ne_true] at h
      obtain ⟨q, hq, h2⟩ := opt_of h
      injection hq with hq
      subst hq
      cases e : name ts with
      | bad c us => rw [e] at h2; exact h2
      | ok s us =>
        rw [e] at h2
        show refP n o s us = some r
        have h3 : (if sg [40] us then bnd (args n o us) fun l ts => some (.ok (.call s l) ts) else if sg [91] us then bnd (some (enter [91] o us)) fun _ ts => bnd (expr n 1 (o + 1) ts) fun x ts => bnd (some (want [93] ts)) fun _ ts => some (.ok (.elem s x) ts) else some (.ok (.var s) us)) = some r := h2
        unfold refP
        rcases h40 : sg [40] us with _ | _
        · rw [h40, if_neg Bool.false_ne_true] at h3
          rw [if_neg Bool.false_ne_true]
          rcases h91 : sg [91] us with _ | _
          · rw [h91, if_neg Bool.false_ne_true] at h3
            rw [if_neg Bool.false_ne_true]
            exact h3
          · rw [h91, if_pos rfl] at h3
            rw [if_pos rfl, ← h3]
            unfold index
            cases enter [91] o us with
            | bad c vs => rfl
            | ok a vs =>
              show bnd (bnd (expr n 1 (o + 1) vs) _) _ = bnd (expr n 1 (o + 1) vs) _
              cases expr n 1 (o + 1) vs with
              | none => rfl
              | some q =>
                cases q with
                | bad c ws => rfl
                | ok x ws =>
                  show bnd (bnd (some (want [93] ws)) _) _ = bnd (some (want [93] ws)) _
                  cases want [93] ws <;> rfl
        · rw [h40, if_pos rfl] at h3
          rw [if_pos rfl]
          cases n with
          | zero => rw [args] at h3; cases h3
          | succ n =>
            rw [args_eq] at h3
            have hmono : callP n o us = callP (n + 1) o us ∨ callP n o us = none := by
              cases e2 : callP n o us with
              | none => exact .inr rfl
              | some v =>
                refine .inl ?_
                rw [← args_eq] at e2 ⊢
                exact (mA o us (n + 1) v e2).symm
            rcases hmono with hm | hm
            · rw [← hm]; exact h3
            · rw [hm] at h3; cases h3
    · rw [if_pos rfl]
      rw [hk, if_pos rfl] at h
      unfold number
      rw [hk, if_pos rfl]
      exact h
  · rw [if_pos rfl]
    rw [hex hs, hs, if_neg Bool.false_ne_true, if_pos rfl] at h
    exact h
section
variable {base B k o : Nat} {l : List L19.Tok} {w : World}
set_option maxHeartbeats 4000000 in
theorem primary_any {n : Nat} (hE : ExprC base B l n) (h : RdS base B l k o w) {r : Rs Exp} (hr : primary (n + 1) o (at_ l k) = some r) :
    Calls Tryz.prog 201 #[.pointer (some ⟨B, 0, none⟩)] w (Ae base B l o w (ExR w.heap.size) r) := by
  replace hr := primary_eq (h.ok.goodAt k) hr
  obtain ⟨W0, g, hW0, hg0, hb0, hst0, hgr0, hbg, hgl, hgB⟩ := start_box h ezero 51
  have c1 := Lib.hid (isNext_any hst0 (ks_one 40 (by decide)) (S := ⟨#[40]⟩) rfl)
  unfold ezero at hW0 hb0
  have hBg : B < g := by have := hst0.low; omega
  have hkd := tokAt_kd l k (j := 1) (by decide)
  replace hr := Lib.hid hr
  replace hb0 := Lib.hid hb0
  replace hst0 := Lib.hid hst0
  replace hgr0 := Lib.hid hgr0
  replace hE := Lib.hid hE
  clear h
  rcases hs40 : sg [40] (at_ l k) with _ | _
  · rw [hs40] at c1
    have hr1 := hr.out
    rw [hs40, if_neg Bool.false_ne_true] at hr1
    have cP := Lib.hid (fun W (hW : Below W0.heap.size W0 W) => peek_any (hst0.out.below hW))
    have hf0 := fld0
    clear hr hs40
    rcases hk1 : kd 1 (at_ l k) with _ | _
    · rw [hk1, if_neg Bool.false_ne_true] at hr1
      rw [hk1] at hkd
      have t1 : ∀ K : Int, K = ((tokAt l k).1 : Int) → (K == 1) = false := fun K e => by
        have := beq_eq_false_iff_ne.1 hkd.symm
        exact beq_eq_false_iff_ne.2 (by omega)
      have cN := Lib.hid (fun W (hW : Below W0.heap.size W0 W) => name_any (hst0.out.below hW))
      replace hr1 := Lib.hid hr1
      clear hk1 hkd
      go_enter Tryz.func201, Tryz.ntmps201
      go_wp2_with fail
      refine (c1.out).mono ?_
      rintro e w1 ⟨rfl, hb1⟩
      have cp := Lib.hid (cP.out w1 hb1)
      replace hb1 := Lib.hid hb1
      go_wp2_with fail
      refine (cp.out).mono ?_
      rintro e w2 ⟨K, Z, Y, rfl, hK, hZ, hY, hb2⟩
      replace t1 := t1 K hK
      clear hK hZ hY
      have hb02 := chain hb1.out hb2
      have cn := Lib.hid (cN.out w2 hb02)
      have hbk2 := hb0.out.below hb02
      have hgr2 := Gr.below hgr0.out hb02
      have hs2 := hb02.size
      replace hbk2 := Lib.hid hbk2
      replace hgr2 := Lib.hid hgr2
      clear hb1 hb2 hb02 cN cP cp c1 hb0 hgr0 hst0
      go_wp2_with fail
      refine (cn.out).mono ?_
      rintro e w3 (⟨s, k3, v3, hx3, rfl, hv3, hst3, hg3⟩ | ⟨c, ts, hx3, rfl, hg3⟩)
      case inr => exact ⟨rfl, Ae.bad (bad_of hr1.out hx3) (hgr2.out.trans hg3)⟩
      obtain ⟨X, hX⟩ : ∃ X, strV s = .string X := ⟨_, rfl⟩
      unfold StrR at hv3
      rw [hX] at hv3
      subst hv3
      have hr3 := ok_of hr1.out hx3
      have cr := Lib.hid (reference_any hE.out hst3 hX hr3)
      have hbk3 := Lib.hid (hg3.blk hbk2.out hgB)
      have hgr3 := Lib.hid (hgr2.out.trans hg3)
      have hs3 := hg3.size
      clear hg3 hst3 hbk2 hgr2 hr1 hr3 hx3 hE hX
      go_wp2_with fail
      refine (cr.out).mono ?_
      rintro e w4 (⟨x, k4, v4, hx4, rfl, ⟨S, T, N, A, L, cap, rfl, hC4⟩, hst4, hg4⟩ | ⟨c, ts, hx4, rfl, hg4⟩)
      case inr => exact ⟨rfl, Ae.bad hx4 (hgr3.out.trans hg4)⟩
      have hbx := hg4.blk hbk3.out hgB
      obtain ⟨u0, u1, u2, u3, e0, e1, e2, e3⟩ := ex_box hbx
      have hgx := Lib.hid (hgr3.out.trans hg4)
      have hn : g < w3.heap.size := by omega
      replace hC4 := Lib.hid hC4
      replace hst4 := Lib.hid hst4
      replace hbx := Lib.hid hbx
      replace hx4 := Lib.hid hx4
      clear hg4 hgr3 hbk3 cr hW0
      go_wp2
      exact ex_fin rfl (by simp) hbx.out hst4.out hbg hg0 hgx.out (by omega) hn hC4.out hx4.out
    · rw [hk1, if_pos rfl] at hr1
      rw [hk1] at hkd
      have t1 : ∀ K : Int, K = ((tokAt l k).1 : Int) → (K == 1) = true := fun K e => by
        have := beq_iff_eq.1 hkd.symm
        exact beq_iff_eq.2 (by omega)
      have cN := Lib.hid (fun W (hW : Below W0.heap.size W0 W) => number_any (hst0.out.below hW))
      replace hr1 := Lib.hid hr1
      clear hk1 hkd
      go_enter Tryz.func201, Tryz.ntmps201
      go_wp2_with fail
      refine (c1.out).mono ?_
      rintro e w1 ⟨rfl, hb1⟩
      have cp := Lib.hid (cP.out w1 hb1)
      replace hb1 := Lib.hid hb1
      go_wp2_with fail
      refine (cp.out).mono ?_
      rintro e w2 ⟨K, Z, Y, rfl, hK, hZ, hY, hb2⟩
      replace t1 := t1 K hK
      clear hK hZ hY
      have hb02 := chain hb1.out hb2
      have cn := Lib.hid (cN.out w2 hb02)
      have hbk2 := hb0.out.below hb02
      have hgr2 := Gr.below hgr0.out hb02
      have hs2 := hb02.size
      replace hbk2 := Lib.hid hbk2
      replace hgr2 := Lib.hid hgr2
      clear hb1 hb2 hb02 cN cP cp c1 hb0 hgr0 hst0
      go_wp2_with fail
      refine (cn.out).mono ?_
      rintro e w3 (⟨v, k3, v3, hx3, rfl, hv3, hst3, hg3⟩ | ⟨c, ts, hx3, rfl, hg3⟩)
      case inr => exact ⟨rfl, Ae.bad (bad_of hr1.out hx3) (hgr2.out.trans hg3)⟩
      unfold NumR at hv3
      subst hv3
      have hr3 : r = .ok (.num v) (at_ l k3) := by
        have := ok_of hr1.out hx3
        injection this with this
        exact this.symm
      subst hr3
      have hbx := hg3.blk hbk2.out hgB
      obtain ⟨u0, u1, u2, u3, e0, e1, e2, e3⟩ := ex_box hbx
      have hCx : ExC w3 (fun b => w3.heap.size ≤ b) (.num v) [.string ⟨#[110, 117, 109]⟩, .int .u32 (v : Int), .string ⟨#[]⟩, .slice none 0 0] := by
        have := ExC.of (x := .num v) (A := none) (cap := 0) (Exs.nil w3 (fun b => w3.heap.size ≤ b))
        unfold eCells at this
        exact this
      have hgx := Lib.hid (hgr2.out.trans hg3)
      have hn : g < w3.heap.size := by have := hg3.size; omega
      obtain ⟨vi, hvi⟩ : ∃ vi : Int, (v : Int) = vi := ⟨_, rfl⟩
      rw [hvi] at hCx ⊢
      replace hCx := Lib.hid hCx
      replace hst3 := Lib.hid hst3
      replace hbx := Lib.hid hbx
      clear hg3 hgr2 hbk2 cn hr1 hx3 hE hW0 hvi
      go_wp2
      exact ex_fin rfl (by simp) hbx.out hst3.out hbg hg0 hgx.out (by omega) hn hCx.out rfl
  · rw [hs40] at c1
    have hr1 := hr.out
    rw [hs40, if_pos rfl] at hr1
    unfold parenP at hr1
    have cB := Lib.hid (fun W (hW : Below W0.heap.size W0 W) => begin_any (hst0.out.below hW) (ks_one 40 (by decide)) (S := ⟨#[40]⟩) rfl)
    replace hr1 := Lib.hid hr1
    clear hr hs40 hkd
    go_enter Tryz.func201, Tryz.ntmps201
    go_wp2_with fail
    refine (c1.out).mono ?_
    rintro e w1 ⟨rfl, hb1⟩
    have cb := Lib.hid (cB.out w1 hb1)
    have hbk1 := Lib.hid (hb0.out.below hb1)
    have hgr1 := Lib.hid (Gr.below hgr0.out hb1)
    have hs1 := hb1.size
    clear hb1 cB c1 hb0 hgr0 hst0
    go_wp2_with fail
    refine (cb.out).mono ?_
    rintro e w2 (⟨a2, k2, v2, hx2, rfl, hv2, hst2, hg2⟩ | ⟨c, ts, hx2, rfl, hg2⟩)
    case inr => exact ⟨rfl, Ae.bad (bad_of hr1.out hx2) (hgr1.out.trans hg2)⟩
    unfold UnitR at hv2
    subst hv2
    obtain ⟨q3, hq3, hr3⟩ := opt_of (ok_of hr1.out hx2)
    have c3 := Lib.hid (hE.out n (Nat.le_refl _) (o + 1) k2 w2 q3 hst2 hq3)
    have hgr2 := Lib.hid (hgr1.out.trans hg2)
    have hbk2 := Lib.hid (hg2.blk hbk1.out hgB)
    have hs2 := hg2.size
    replace hr3 := Lib.hid hr3
    clear hr1 cb hx2 hst2 hg2 hq3 hgr1 hbk1 hE
    go_wp2_with fail
    refine (c3.out).mono ?_
    rintro e w3 (⟨x, k3, v3, hx3, rfl, ⟨S, T, N, A, L, cap, rfl, hC3⟩, hst3, hg3⟩ | ⟨c, ts, hx3, rfl, hg3⟩)
    case inr => exact ⟨rfl, Ae.bad (bad_of hr3.out hx3) (hgr2.out.trans hg3)⟩
    have hr4 := Lib.hid (ok_of hr3.out hx3)
    obtain ⟨W4, g4, hW4, hg4, hb4, hst4, hgr4, hbg4, hgl4, hgB4⟩ := start_box hst3 [.string S, .int .u32 N, .string T, .slice A L cap] 51
    have hbl4 : Below w3.heap.size w3 W4 := by rw [← hW4]; exact boxed w3 _
    have c4 := Lib.hid (end_any hst4 (ks_one 41 (by decide)) (S := ⟨#[41]⟩) rfl)
    have hgr3 := Lib.hid (Gr.below (hgr2.out.trans hg3) hbl4)
    have hbk3 := Lib.hid ((hg3.blk hbk2.out hgB).below hbl4)
    have hC4 := Lib.hid ((hC3.keep (Kept.of_below hbl4)))
    replace hb4 := Lib.hid hb4
    clear hr3 c3 hx3 hst3 hg3 hgr2 hbk2 hC3 hst4 hgr4 hbl4
    go_wp2_with fail
    refine (c4.out).mono ?_
    rintro e w5 (⟨a5, k5, v5, hx5, rfl, hv5, hst5, hg5⟩ | ⟨c, ts, hx5, rfl, hg5⟩)
    case inr => exact ⟨rfl, Ae.bad (bad_of hr4.out hx5) (hgr3.out.trans hg5)⟩
    unfold UnitR at hv5
    subst hv5
    have hr5 : r = .ok x (at_ l k5) := by
      have := ok_of hr4.out hx5
      injection this with this
      exact this.symm
    obtain ⟨z0, z1, z2, z3, _, _, _, _⟩ := ex_box (hg5.blk hb4.out hgB4)
    have hbx := hg5.blk hbk3.out hgB
    obtain ⟨y0, y1, y2, y3, f0, f1, f2, f3⟩ := ex_box hbx
    have hC5 := hC4.out.keep (hg5.keptN (by omega))
    have hgx := Lib.hid (hgr3.out.trans hg5)
    have hn : g < w2.heap.size := by omega
    replace hbx := Lib.hid hbx
    replace hC5 := Lib.hid hC5
    replace hst5 := Lib.hid hst5
    replace hr5 := Lib.hid hr5
    clear hr4 c4 hx5 hg5 hgr3 hbk3 hb4 hC4 hW4 hW0
    go_wp2
    exact ex_fin rfl (by simp) hbx.out hst5.out hbg hg0 hgx.out (by omega) hn hC5.out hr5.out
end
end Go.Proofs.YtpbcncfbfbghcaaGreatDoor.L20
