/- The laws' helpers that make programs: variable, binary, assigned, body; how the laws use Parse and Equal (layer 20). The laws' helpers binary and assigned (layer 20). The laws' helper alive: the examples of the chapter (layer 20). -/
import Derived.Test.YtpbcncfbfbghcaaGreatDoorP20L20Eq9
import Derived.Test.YtpbcncfbfbghcaaGreatDoorP20P
import Derived.Test.YtpbcncfbfbghcaaGreatDoorP20L20Pa5
import Derived.Test.YtpbcncfbfbghcaaGreatDoorP20C
import Derived.DataShut
import Derived.Deep.Cut
import Derived.Test.YtpbcncfbfbghcaaGreatDoorP20K
namespace Go.Proofs.YtpbcncfbfbghcaaGreatDoor.L20
set_option maxRecDepth 100000
open Go.RowKit Mem L19
open M17 (Laid Laid.below gPow tPow cPow cU64)
set_option linter.unusedVariables false
set_option linter.unusedSimpArgs false

theorem laid_of {W : World} (h : laidMetH Tryz.prog Rows.parserParseRow.laid W) : Laid W := by
  rw [MakeChecks.laidMetH_plain _ _ _ (by kernel_rfl)] at h
  have h3 : laidMet Tryz.prog (("internal/strconv.uint64pow10", Lib.tabData .u64 Lib.pow10Tab) :: ("unicode/utf8.acceptRanges", Rows.laid_unicode_utf8_acceptRanges) :: ("strconv.ErrRange", Rows.laid_strconv_ErrRange) :: ("strconv.ErrSyntax", Rows.laid_strconv_ErrSyntax) :: ("unicode/utf8.first", Rows.laid_unicode_utf8_first) :: []) W := h.tail.tail
  exact Lib.tabIs_of_head gPow tPow Tryz.underlying165 Tryz.underlying124 cU64 cPow h3
/-- Anywhere in memory. -/
abbrev Any_ : Nat → Prop := fun _ => True
/-- A call of Parse, with plain letters. -/
theorem Parse_use (S : ByteArray) {p : Prog} {n e0 : Nat} (h : parse S.data.toList = (p, n, e0)) {lv la lf : Nat} (h1 : p.vars.length = lv) (h2 : p.arrays.length = la) (h3 : p.funcs.length = lf) {ni ei : Int} (hni : (n : Int) = ni) (hei : (e0 : Int) = ei) (w : World) (hL : Laid w) :
    Calls Tryz.prog 13 #[.string S] w fun e w' => ∃ (V A E : Option Addr) (cv ca ce : Nat), e = .returned (.tuple #[.agg #[.slice V lv cv, .slice A la ca, .slice E lf ce], .int .i64 ni, .int .i64 ei]) ∧ PgM w' Any_ p V A E cv ca ce ∧ Below w.heap.size w w' := by
  subst h1 h2 h3 hni hei
  refine (Parse_any S w hL).mono fun e w' hr => ?_
  rw [h] at hr
  obtain ⟨V, A, E, lv, cv, la, ca, lf, ce, he, h1, h2, h3, hP, hb⟩ := hr
  dsimp only at he h1 h2 h3 hP
  subst h1 h2 h3
  exact ⟨V, A, E, cv, ca, ce, he, hP.mono fun _ _ _ => trivial, hb⟩
theorem refEqual_use {p : Prog} {V A E V2 A2 E2 : Option Addr} {cv ca ce dv da de : Nat} {F G : Nat → Prop} {w : World} (hp : PgM w F p V A E cv ca ce) (hq : PgM w G p V2 A2 E2 dv da de) (wp : Wfp p) {lv la lf : Nat} (h1 : p.vars.length = lv) (h2 : p.arrays.length = la) (h3 : p.funcs.length = lf) :
    Calls Tryz.prog 15 #[.agg #[.slice V lv cv, .slice A la ca, .slice E lf ce], .agg #[.slice V2 lv dv, .slice A2 la da, .slice E2 lf de]] w fun e w' => e = .returned (.bool true) ∧ Below w.heap.size w w' := by
  subst h1 h2 h3
  exact refEqualT hp hq wp
/-- Equal at equal programs. -/
theorem Equal_use {p : Prog} {V A E V2 A2 E2 : Option Addr} {cv ca ce dv da de : Nat} {F G : Nat → Prop} {w : World} (hp : PgM w F p V A E cv ca ce) (hq : PgM w G p V2 A2 E2 dv da de) (wp : Wfp p) {lv la lf : Nat} (h1 : p.vars.length = lv) (h2 : p.arrays.length = la) (h3 : p.funcs.length = lf) :
    Calls Tryz.prog 18 #[.agg #[.slice V lv cv, .slice A la ca, .slice E lf ce], .agg #[.slice V2 lv dv, .slice A2 la da, .slice E2 lf de]] w fun e w' => e = .returned (.bool true) ∧ Below w.heap.size w w' := by
  subst h1 h2 h3
  exact Equal_any hp hq wp wp ⟨fun _ => rfl, fun _ => rfl⟩
/-- A program that a law stores in a variable. -/
theorem pg_store {w : World} {p : Prog} {V A E : Option Addr} {cv ca ce : Nat} (hp : PgM w Any_ p V A E cv ca ce) (lv la lf : Nat) : ∃ W g W', w.alloc (.cells #[.slice none 0 0, .slice none 0 0, .slice none 0 0] 27) = W ∧ w.heap.size = g ∧
    ((W.setCell ⟨g, 0, none⟩ (.slice V lv cv)).setCell ⟨g, 1, none⟩ (.slice A la ca)).setCell ⟨g, 2, none⟩ (.slice E lf ce) = W' ∧ Blk 27 W g [.slice none 0 0, .slice none 0 0, .slice none 0 0] ∧ Blk 27 W' g [.slice V lv cv, .slice A la ca, .slice E lf ce] ∧ PgM W' Any_ p V A E cv ca ce ∧ Below w.heap.size w W' := by
  obtain ⟨W, g, hW, hg, hb, hl⟩ := box_new w [.slice none 0 0, .slice none 0 0, .slice none 0 0] 27
  refine ⟨W, g, _, hW, hg, rfl, hb, ((hb.set 0 _).set 1 _).set 2 _, ?_, ?_⟩
  · have hng : ¬ (fun b => b ≠ g) g := fun h => h rfl
    have h1 : PgM W (fun b => b ≠ g) p V A E cv ca ce := (hp.mono (G := fun b => b ≠ g) fun b hb _ => by omega).keep (Kept.of_below hl)
    exact (((h1.keep (Kept.set (F := fun b => b ≠ g) _ hng (i := 0) _)).keep (Kept.set (F := fun b => b ≠ g) _ hng (i := 1) _)).keep (Kept.set (F := fun b => b ≠ g) _ hng (i := 2) _)).mono (G := Any_) fun _ _ _ => trivial
  · exact ((hl.setCell (p := ⟨g, 0, none⟩) (Nat.le_of_eq hg) _).setCell (p := ⟨g, 1, none⟩) (Nat.le_of_eq hg) _).setCell (p := ⟨g, 2, none⟩) (Nat.le_of_eq hg) _
set_option maxHeartbeats 4000000 in
theorem variable_any (s : ByteArray) (w : World) : Calls Tryz.prog 26 #[.string s] w fun e w' => e = .returned (.agg #[.string ⟨#[118, 97, 114]⟩, .int .u32 0, .string s, .slice none 0 0]) ∧ Below w.heap.size w w' := by
  have hb := Blk.new w 51 [.string ⟨#[118, 97, 114]⟩, .int .u32 0, .string s, .slice none 0 0]
  have hl := boxed w (.cells #[.string ⟨#[118, 97, 114]⟩, .int .u32 0, .string s, .slice none 0 0] 51)
  replace hb := Lib.hid hb
  replace hl := Lib.hid hl
  go_enter Tryz.func26, Tryz.ntmps26
  go_wp2
  exact ret_cell rfl Tryz.underlying51 (by kernel_rfl) (by simp) hb.out ⟨rfl, hl.out⟩
theorem bod_bytes (s : ByteArray) : ((⟨#[102, 117, 110, 99, 32, 109, 97, 105, 110, 40, 41, 32, 123, 32, 120, 32, 61, 32]⟩ : ByteArray) ++ s ++ ⟨#[59, 32, 125]⟩).data.toList = bod s.data.toList := by
  rw [ByteArray.data_append, ByteArray.data_append]
  simp [bod]
set_option maxHeartbeats 4000000 in
theorem body_any (s : ByteArray) (w : World) (hs : s.size ≤ 100000) : Calls Tryz.prog 21 #[.string s] w fun e w' => (∃ S : ByteArray, S.data.toList = bod s.data.toList ∧ e = .returned (.string S)) ∧ w' = w := by
  have hbb := bod_bytes s
  obtain ⟨S, hS⟩ : ∃ S, (⟨#[102, 117, 110, 99, 32, 109, 97, 105, 110, 40, 41, 32, 123, 32, 120, 32, 61, 32]⟩ : ByteArray) ++ s ++ ⟨#[59, 32, 125]⟩ = S := ⟨_, rfl⟩
  rw [hS] at hbb
  replace hbb := Lib.hid hbb
  go_enter Tryz.func21, Tryz.ntmps21
  go_wp2
  first | go_ret | go_ret2 | skip
  exact ⟨⟨S, hbb.out, rfl⟩, rfl⟩
end Go.Proofs.YtpbcncfbfbghcaaGreatDoor.L20
namespace Go.Proofs.YtpbcncfbfbghcaaGreatDoor.L20
set_option maxRecDepth 100000
open Go.RowKit Mem L19
open M17 (Laid Laid.below)
set_option linter.unusedVariables false
set_option linter.unusedSimpArgs false

set_option maxHeartbeats 4000000 in
theorem binary_any (op : ByteArray) {x y : Exp} {a0 b0 a2 b2 : ByteArray} {a1 b1 : Int} {A B : Option Addr} {la ca lb cb : Nat} (w : World) {F : Nat → Prop} (hF : ∀ b, w.heap.size ≤ b → F b) (hx : ExC w F x [.string a0, .int .u32 a1, .string a2, .slice A la ca]) (hy : ExC w F y [.string b0, .int .u32 b1, .string b2, .slice B lb cb]) :
    Calls Tryz.prog 25 #[.string op, .agg #[.string a0, .int .u32 a1, .string a2, .slice A la ca], .agg #[.string b0, .int .u32 b1, .string b2, .slice B lb cb]] w fun e w' => ∃ D : Addr, e = .returned (.agg #[.string op, .int .u32 0, .string ⟨#[]⟩, .slice (some D) 2 2]) ∧ ExC w' F (.bin op.data.toList x y) [.string op, .int .u32 0, .string ⟨#[]⟩, .slice (some D) 2 2] ∧ Below w.heap.size w w' := by
  obtain ⟨W0, g0, hW0, hg0, hb0, hl0⟩ := box_new w [.string a0, .int .u32 a1, .string a2, .slice A la ca] 51
  obtain ⟨W1, g1, hW1, hg1, hb1, hl1⟩ := box_new W0 [.string b0, .int .u32 b1, .string b2, .slice B lb cb] 51
  obtain ⟨W2, g2, hW2, hg2, hb2, hl2⟩ := box_new W1 [.string ⟨#[]⟩, .int .u32 0, .string ⟨#[]⟩, .slice none 0 0] 51
  obtain ⟨x0, x1, x2, x3, _, _, _, _⟩ := ex_box ((hb0.below hl1).below hl2)
  obtain ⟨y0, y1, y2, y3, _, _, _, _⟩ := ex_box (hb1.below hl2)
  have hl := chain (chain hl0 hl1) hl2
  have s0 := hl0.size
  have s1 := hl1.size
  have s2 := hb2.lt
  have hx2 : ExC W2 (fun b => F b ∧ b ≠ g2) x _ := (hx.mono (G := fun b => F b ∧ b ≠ g2) fun b hb h => ⟨h, by omega⟩).keep (Kept.of_below hl)
  have hy2 : ExC W2 (fun b => F b ∧ b ≠ g2) y _ := (hy.mono (G := fun b => F b ∧ b ≠ g2) fun b hb h => ⟨h, by omega⟩).keep (Kept.of_below hl)
  obtain ⟨W3, hW3⟩ : ∃ W, W2.alloc (.cells #[.string a0, .int .u32 a1, .string a2, .slice A la ca, .string b0, .int .u32 b1, .string b2, .slice B lb cb] 51) = W := ⟨_, rfl⟩
  have hl3 : Below W2.heap.size W2 W3 := by rw [← hW3]; exact boxed W2 _
  have hE : Exs W3 (fun b => F b ∧ b ≠ g2) [x, y] (some ⟨W2.heap.size, 0, none⟩) 2 := by rw [← hW3]; exact exs_twoF hx2 hy2 ⟨hF _ (by omega), by omega⟩
  obtain ⟨n3, hn3⟩ : ∃ n, W2.heap.size = n := ⟨_, rfl⟩
  rw [hn3] at hE
  have hC : ExC W3 (fun b => F b ∧ b ≠ g2) (.bin op.data.toList x y) [.string op, .int .u32 0, .string ⟨#[]⟩, .slice (some ⟨n3, 0, none⟩) 2 2] := ExC.of (x := .bin op.data.toList x y) hE
  have h2 := hb2.below hl3
  obtain ⟨u0, u1, u2, u3, f0, f1, f2, f3⟩ := ex_box h2
  have hb4 := (((h2.set 0 (.string op)).set 1 (.int .u32 0)).set 2 (.string ⟨#[]⟩)).set 3 (.slice (some ⟨n3, 0, none⟩) 2 2)
  have hlg : w.heap.size ≤ g2 := by omega
  have hl4 := ((((chain hl hl3).setCell (p := ⟨g2, 0, none⟩) hlg (.string op)).setCell (p := ⟨g2, 1, none⟩) hlg (.int .u32 0)).setCell (p := ⟨g2, 2, none⟩) hlg (.string ⟨#[]⟩)).setCell (p := ⟨g2, 3, none⟩) hlg (.slice (some ⟨n3, 0, none⟩) 2 2)
  have hng : ¬ (fun b => F b ∧ b ≠ g2) g2 := fun h => h.2 rfl
  have hC4 := ((((hC.keep (Kept.set (F := fun b => F b ∧ b ≠ g2) _ hng (i := 0) (.string op))).keep (Kept.set (F := fun b => F b ∧ b ≠ g2) _ hng (i := 1) (.int .u32 0))).keep (Kept.set (F := fun b => F b ∧ b ≠ g2) _ hng (i := 2) (.string ⟨#[]⟩))).keep (Kept.set (F := fun b => F b ∧ b ≠ g2) _ hng (i := 3) (.slice (some ⟨n3, 0, none⟩) 2 2))).mono (G := F) fun _ _ h => h.1
  replace hb4 := Lib.hid hb4
  replace hl4 := Lib.hid hl4
  replace hC4 := Lib.hid hC4
  clear hF hx hy hb0 hb1 hb2 hl0 hl1 hl2 hl hx2 hy2 hl3 hE hC h2 hng hlg s0 s1 s2
  go_enter Tryz.func25, Tryz.ntmps25
  go_wp2
  exact ret_cell rfl Tryz.underlying51 (by kernel_rfl) (by simp) hb4.out ⟨⟨n3, 0, none⟩, rfl, hC4.out, hl4.out⟩
theorem sts_oneF {W : World} {F : Nat → Prop} {x : Sta} {c : List Value} {T : TypeId} (h : StC W F x c) (hn : F W.heap.size) : Sts (W.alloc (.cells c.toArray T)) F [x] (some ⟨W.heap.size, 0, none⟩) 1 := by
  have h1 := RowA.lit (w := W) (s := 6) (css := [c]) (T := T) (fun d hd => by rw [List.mem_singleton.1 hd]; exact h.len) (by show 1 ≤ maxLen; decide)
  rw [List.flatten_cons, List.flatten_nil, List.append_nil] at h1
  refine ⟨[c], h1.mono fun b hl hb => (by rw [World.size_alloc] at hl; have : b = W.heap.size := (by omega); rw [this]; exact hn), fun i y d hy hd => ?_⟩
  match i, hy, hd with
  | 0, hy, hd =>
    injection hy with hy
    injection hd with hd
    subst hy hd
    exact h.keep (Kept.of_below (boxed W _))
theorem fns_oneF {W : World} {F : Nat → Prop} {x : Go.Proofs.YtpbcncfbfbghcaaGreatDoor.L20.Fn} {c : List Value} {T : TypeId} (h : FnC W F x c) (hc : c.length = 4) (hn : F W.heap.size) : FnsF (W.alloc (.cells c.toArray T)) F [x] (some ⟨W.heap.size, 0, none⟩) 1 := by
  have h1 := RowA.lit (w := W) (s := 4) (css := [c]) (T := T) (fun d hd => by rw [List.mem_singleton.1 hd]; exact hc) (by show 1 ≤ maxLen; decide)
  rw [List.flatten_cons, List.flatten_nil, List.append_nil] at h1
  refine ⟨[c], h1.mono fun b hl hb => (by rw [World.size_alloc] at hl; have : b = W.heap.size := (by omega); rw [this]; exact hn), fun i y d hy hd => ?_⟩
  match i, hy, hd with
  | 0, hy, hd =>
    injection hy with hy
    injection hd with hd
    subst hy hd
    exact h.keep (Kept.of_below (boxed W _))
set_option maxHeartbeats 4000000 in
theorem lassigned_any {x : Exp} {a0 a2 : ByteArray} {a1 : Int} {A : Option Addr} {la ca : Nat} (w : World) (hx : ExC w Any_ x [.string a0, .int .u32 a1, .string a2, .slice A la ca]) :
    Calls Tryz.prog 27 #[.agg #[.string a0, .int .u32 a1, .string a2, .slice A la ca]] w fun e w' => ∃ D : Addr, e = .returned (.agg #[.slice none 0 0, .slice none 0 0, .slice (some D) 1 1]) ∧ PgM w' Any_ (assigned x) none none (some D) 0 0 1 ∧ Below w.heap.size w w' := by
  obtain ⟨W0, g0, hW0, hg0, hb0, hl0⟩ := box_new w [.string a0, .int .u32 a1, .string a2, .slice A la ca] 51
  have hb1 := Blk.new W0 27 [.slice none 0 0, .slice none 0 0, .slice none 0 0]
  obtain ⟨W1, hW1⟩ : ∃ W, W0.alloc (.cells #[.slice none 0 0, .slice none 0 0, .slice none 0 0] 27) = W := ⟨_, rfl⟩
  have hl1 : Below W0.heap.size W0 W1 := by rw [← hW1]; exact boxed W0 _
  obtain ⟨g1, hg1⟩ : ∃ g, W0.heap.size = g := ⟨_, rfl⟩
  change Blk 27 (W0.alloc (.cells #[.slice none 0 0, .slice none 0 0, .slice none 0 0] 27)) _ _ at hb1
  rw [hW1, hg1] at hb1
  obtain ⟨x0, x1, x2, x3, _, _, _, _⟩ := ex_box (hb0.below hl1)
  have hl := chain hl0 hl1
  have s0 := hl0.size
  have s1 := hl1.size
  have s2 := hb1.lt
  have hx2 : ExC W1 (fun b => b ≠ g1) x _ := (hx.mono (G := fun b => b ≠ g1) fun b hb _ => by omega).keep (Kept.of_below hl)
  obtain ⟨W2, hW2⟩ : ∃ W, W1.alloc (.cells #[.string a0, .int .u32 a1, .string a2, .slice A la ca] 51) = W := ⟨_, rfl⟩
  have hl2 : Below W1.heap.size W1 W2 := by rw [← hW2]; exact boxed W1 _
  have hE : Exs W2 (fun b => b ≠ g1) [x] (some ⟨W1.heap.size, 0, none⟩) 1 := by rw [← hW2]; exact exs_oneF hx2 (by show W1.heap.size ≠ g1; omega)
  have hz2 : W2.heap.size = W1.heap.size + 1 := by rw [← hW2, World.size_alloc]
  obtain ⟨n2, hn2⟩ : ∃ n, W1.heap.size = n := ⟨_, rfl⟩
  rw [hn2] at hE
  have hS : StC W2 (fun b => b ≠ g1) (.asg [120] x) [.int .i64 1, .string ⟨#[120]⟩, .slice none 0 0, .slice (some ⟨n2, 0, none⟩) 1 1, .slice none 0 0, .slice none 0 0] := StC.of (s := .asg [120] x) (Exs.nil _ _) hE (Sts.nil _ _) (Sts.nil _ _)
  obtain ⟨W3, hW3⟩ : ∃ W, W2.alloc (.cells #[.int .i64 1, .string ⟨#[120]⟩, .slice none 0 0, .slice (some ⟨n2, 0, none⟩) 1 1, .slice none 0 0, .slice none 0 0] 104) = W := ⟨_, rfl⟩
  have hl3 : Below W2.heap.size W2 W3 := by rw [← hW3]; exact boxed W2 _
  have hSs : Sts W3 (fun b => b ≠ g1) [.asg [120] x] (some ⟨W2.heap.size, 0, none⟩) 1 := by rw [← hW3]; exact sts_oneF hS (by show W2.heap.size ≠ g1; omega)
  have hz3 : W3.heap.size = W2.heap.size + 1 := by rw [← hW3, World.size_alloc]
  obtain ⟨n3, hn3⟩ : ∃ n, W2.heap.size = n := ⟨_, rfl⟩
  rw [hn3] at hSs
  have hF : FnC W3 (fun b => b ≠ g1) ⟨kMain, [], [], [.asg [120] x]⟩ [.string ⟨#[109, 97, 105, 110]⟩, .slice none 0 0, .slice none 0 0, .slice (some ⟨n3, 0, none⟩) 1 1] := ⟨none, none, some ⟨n3, 0, none⟩, 0, 0, 1, rfl, StrsF.nil _ _, StrsF.nil _ _, hSs⟩
  obtain ⟨W4, hW4⟩ : ∃ W, W3.alloc (.cells #[.string ⟨#[109, 97, 105, 110]⟩, .slice none 0 0, .slice none 0 0, .slice (some ⟨n3, 0, none⟩) 1 1] 44) = W := ⟨_, rfl⟩
  have hl4 : Below W3.heap.size W3 W4 := by rw [← hW4]; exact boxed W3 _
  have hFs : FnsF W4 (fun b => b ≠ g1) [⟨kMain, [], [], [.asg [120] x]⟩] (some ⟨W3.heap.size, 0, none⟩) 1 := by rw [← hW4]; exact fns_oneF hF rfl (by show W3.heap.size ≠ g1; omega)
  obtain ⟨n4, hn4⟩ : ∃ n, W3.heap.size = n := ⟨_, rfl⟩
  rw [hn4] at hFs
  have hP : PgM W4 (fun b => b ≠ g1) (assigned x) none none (some ⟨n4, 0, none⟩) 0 0 1 := ⟨StrsF.nil _ _, RowA.empty _ _ 2, hFs⟩
  have h1 := ((hb1.below hl2).below hl3).below hl4
  obtain ⟨u0, u1, u2, f0, f1, f2⟩ := pg_box h1
  have hb5 := ((h1.set 0 (.slice none 0 0)).set 1 (.slice none 0 0)).set 2 (.slice (some ⟨n4, 0, none⟩) 1 1)
  have hlg : w.heap.size ≤ g1 := by omega
  have hl5 := (((chain (chain (chain hl hl2) hl3) hl4).setCell (p := ⟨g1, 0, none⟩) hlg (.slice none 0 0)).setCell (p := ⟨g1, 1, none⟩) hlg (.slice none 0 0)).setCell (p := ⟨g1, 2, none⟩) hlg (.slice (some ⟨n4, 0, none⟩) 1 1)
  have hng : ¬ (fun b => b ≠ g1) g1 := fun h => h rfl
  have hP5 := (((hP.keep (Kept.set (F := fun b => b ≠ g1) _ hng (i := 0) (.slice none 0 0))).keep (Kept.set (F := fun b => b ≠ g1) _ hng (i := 1) (.slice none 0 0))).keep (Kept.set (F := fun b => b ≠ g1) _ hng (i := 2) (.slice (some ⟨n4, 0, none⟩) 1 1))).mono (G := Any_) fun _ _ _ => trivial
  replace hb5 := Lib.hid hb5
  replace hl5 := Lib.hid hl5
  replace hP5 := Lib.hid hP5
  clear hx hb0 hb1 hl0 hl1 hl hx2 hE hS hSs hF hFs hP hl2 hl3 hl4 h1 hng hlg s0 s1 s2 hz2 hz3
  go_enter Tryz.func27, Tryz.ntmps27
  go_wp2
  exact ret_cell rfl Tryz.underlying27 (by kernel_rfl) (by simp) hb5.out ⟨⟨n4, 0, none⟩, rfl, hP5.out, hl5.out⟩
end Go.Proofs.YtpbcncfbfbghcaaGreatDoor.L20
namespace Go.Proofs.YtpbcncfbfbghcaaGreatDoor.L20
set_option maxRecDepth 100000
open Go.RowKit Mem L19
open M17 (Laid Laid.below)
set_option linter.unusedVariables false
set_option linter.unusedSimpArgs false

def alX : Exp := .bin [45] (.var [97]) (.bin [42] (.var [98]) (.num 2))
theorem al1 : parse (bod [97, 32, 45, 32, 98, 32, 42, 32, 50]) = (assigned alX, 0, 0) := by kernel_rfl
theorem al2 : parse [102, 117, 110, 99, 32, 109, 97, 105, 110, 40, 41, 32, 123, 10, 120, 32, 61, 32, 97, 32, 60, 32, 98, 10, 60, 32, 99, 59, 32, 125] = (Prog.nil, 3, 3) := by kernel_rfl
theorem al3 : Wfp (assigned alX) := (parse_ok al1 rfl).2.1
theorem exc_var (w : World) (F : Nat → Prop) (s : ByteArray) : ExC w F (.var s.data.toList) [.string ⟨#[118, 97, 114]⟩, .int .u32 0, .string s, .slice none 0 0] := ExC.of (x := .var s.data.toList) (Exs.nil w F)
theorem exc_num (w : World) (F : Nat → Prop) (n : Nat) : ExC w F (.num n) [.string ⟨#[110, 117, 109]⟩, .int .u32 (n : Int), .string ⟨#[]⟩, .slice none 0 0] := ExC.of (x := .num n) (Exs.nil w F)
set_option maxHeartbeats 8000000 in
theorem alive_any (w : World) (hL : Laid w) : Calls Tryz.prog 12 #[] w fun e w' => e = .returned (.bool true) ∧ Below w.heap.size w w' := by
  have c0 := Lib.hid (body_any ⟨#[97, 32, 45, 32, 98, 32, 42, 32, 50]⟩ w (by decide))
  have hL := Lib.hid hL
  go_enter Tryz.func12, Tryz.ntmps12
  go_wp2_with fail
  refine (c0.out).mono ?_
  rintro e w1 ⟨⟨S, hS, rfl⟩, rfl⟩
  have c1 := Lib.hid (Parse_use S (p := assigned alX) (n := 0) (e0 := 0) (by rw [hS]; exact al1) (lv := 0) (la := 0) (lf := 1) rfl rfl rfl (ni := 0) (ei := 0) rfl rfl w1 hL.out)
  clear hS c0
  go_wp2_with fail
  refine (c1.out).mono ?_
  rintro e w2 ⟨V, A, E, cv, ca, ce, rfl, hP, hb⟩
  obtain ⟨W3, g3, W4, hW3, hg3, hW4, hb3, hb4, hP4, hl4⟩ := pg_store hP 0 0 1
  obtain ⟨u0, u1, u2, f0, f1, f2⟩ := pg_box hb3
  have c2 := Lib.hid (Parse_use ⟨#[102, 117, 110, 99, 32, 109, 97, 105, 110, 40, 41, 32, 123, 10, 120, 32, 61, 32, 97, 32, 60, 32, 98, 10, 60, 32, 99, 59, 32, 125]⟩ al2 (lv := 0) (la := 0) (lf := 0) rfl rfl rfl (ni := 3) (ei := 3) rfl rfl W4 ((hL.out.below hb).below hl4))
  have hb := Lib.hid (chain hb hl4)
  replace hb4 := Lib.hid hb4
  replace hP4 := Lib.hid hP4
  clear hP hb3 hl4 c1
  go_wp2_with fail
  refine (c2.out).mono ?_
  rintro e w5 ⟨V5, A5, E5, cv5, ca5, ce5, rfl, hP5, hb5⟩
  obtain ⟨W6, g6, W7, hW6, hg6, hW7, hb6, hb7, hP7, hl7⟩ := pg_store hP5 0 0 0
  obtain ⟨v0, v1, v2, d0, d1, d2⟩ := pg_box hb6
  have k7 := chain hb5 hl7
  have hb := Lib.hid (chain hb.out k7)
  have hb4 := Lib.hid (hb4.out.below k7)
  have hP4 := Lib.hid (hP4.out.keep (Kept.of_below k7))
  have c3 := Lib.hid (variable_any ⟨#[97]⟩ W7)
  clear hP5 hb5 hb6 hb7 hP7 hl7 k7 c2 u0 u1 u2 f0 f1 f2 hW3 hW4 hg3
  go_wp2_with fail
  refine (c3.out).mono ?_
  rintro e w8 ⟨rfl, hb8⟩
  have c4 := Lib.hid (variable_any ⟨#[98]⟩ w8)
  clear c3 v0 v1 v2 d0 d1 d2 hW6 hW7 hg6
  go_wp2_with fail
  refine (c4.out).mono ?_
  rintro e w9 ⟨rfl, hb9⟩
  have c5 := Lib.hid (binary_any ⟨#[42]⟩ w9 (F := Any_) (fun _ _ => trivial) (exc_var w9 Any_ ⟨#[98]⟩) (exc_num w9 Any_ 2))
  clear c4
  go_wp2_with fail
  refine (c5.out).mono ?_
  rintro e w10 ⟨D1, rfl, hC1, hb10⟩
  have c6 := Lib.hid (binary_any ⟨#[45]⟩ w10 (F := Any_) (fun _ _ => trivial) (exc_var w10 Any_ ⟨#[97]⟩) hC1)
  clear c5 hC1
  go_wp2_with fail
  refine (c6.out).mono ?_
  rintro e w11 ⟨D2, rfl, hC2, hb11⟩
  have c7 := Lib.hid (lassigned_any w11 hC2)
  clear c6 hC2
  go_wp2_with fail
  refine (c7.out).mono ?_
  rintro e w12 ⟨D3, rfl, hP12, hb12⟩
  obtain ⟨W13, g13, W14, hW13, hg13, hW14, hb13, hb14, hP14, hl14⟩ := pg_store hP12 0 0 1
  obtain ⟨v0, v1, v2, d0, d1, d2⟩ := pg_box hb13
  have k14 := chain (chain (chain (chain (chain (chain hb8 hb9) hb10) hb11) hb12) (Below.refl _ _)) hl14
  have hb := Lib.hid (chain hb.out k14)
  have hb4 := hb4.out.below k14
  have hP4 := hP4.out.keep (Kept.of_below k14)
  obtain ⟨x0, x1, x2, _, _, _⟩ := pg_box hb4
  obtain ⟨y0, y1, y2, _, _, _⟩ := pg_box hb14
  have c8 := Lib.hid (refEqual_use hP4 hP14 al3 (lv := 0) (la := 0) (lf := 1) rfl rfl rfl)
  clear c7 hP12 hb8 hb9 hb10 hb11 hb12 hb13 hb14 hP14 hl14 k14 hb4 hP4
  go_wp2_with fail
  refine (c8.out).mono ?_
  rintro e w15 ⟨rfl, hb15⟩
  have hb := Lib.hid (chain hb.out hb15)
  clear x0 x1 x2 y0 y1 y2 v0 v1 v2 d0 d1 d2 c8 hb15
  go_wp2
  first | go_ret | skip
  exact ⟨rfl, hb.out⟩
end Go.Proofs.YtpbcncfbfbghcaaGreatDoor.L20
