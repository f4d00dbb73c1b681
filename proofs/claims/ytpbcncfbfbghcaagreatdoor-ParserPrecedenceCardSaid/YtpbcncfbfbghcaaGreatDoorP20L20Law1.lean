/- ParserPrecedence, walked (layer 20). -/
import Derived.Test.YtpbcncfbfbghcaaGreatDoorP20T
import Derived.Test.YtpbcncfbfbghcaaGreatDoorP20R
import Derived.Deep.QuietTactic
namespace Go.Proofs.YtpbcncfbfbghcaaGreatDoor.L20
set_option maxRecDepth 100000
open Go.RowKit Mem L19
open M17 (Laid Laid.below)
set_option linter.unusedVariables false
set_option linter.unusedSimpArgs false

set_option maxHeartbeats 4000000 in
theorem level_any {T : Str} {X : ByteArray} (hX : strV T = .string X) (hT : T ∈ ops) (w : World) : Calls Tryz.prog 24 #[.string X] w fun e w' => e = .returned (.int .i64 (lev T : Int)) ∧ w = w' := by
  have t : ∀ c : Str, (X.toList == c) = (T == c) := fun c => by
    have := str_beq hX (b := c) (B := ⟨c.toArray⟩) rfl
    rw [← this]
    simp [ByteArray.toList_eq]
  have q1 : (X.toList == [124, 124]) = (T == [124, 124]) := t _
  have q2 : (X.toList == [38, 38]) = (T == [38, 38]) := t _
  have q9 : (X.toList == [94]) = (T == [94]) := t _
  have q10 : (X.toList == [43]) = (T == [43]) := t _
  have q11 : (X.toList == [45]) = (T == [45]) := t _
  have q12 : (X.toList == [42]) = (T == [42]) := t _
  have q13 : (X.toList == [47]) = (T == [47]) := t _
  have q14 : (X.toList == [37]) = (T == [37]) := t _
  clear t hX
  unfold ops at hT
  simp only [List.mem_cons, List.not_mem_nil, or_false] at hT
  rcases hT with rfl | rfl | rfl | rfl | rfl | rfl | rfl | rfl | rfl | rfl | rfl | rfl | rfl | rfl
  case inl => rw [show ((lev [124, 124] : Nat) : Int) = 1 from rfl]; (go_enter Tryz.func24, Tryz.ntmps24; go_wp2; (first | go_ret | skip); exact ⟨rfl, rfl⟩)
  case inr.inl => rw [show ((lev [38, 38] : Nat) : Int) = 2 from rfl]; (go_enter Tryz.func24, Tryz.ntmps24; go_wp2; (first | go_ret | skip); exact ⟨rfl, rfl⟩)
  case inr.inr.inl => rw [show ((lev [61, 61] : Nat) : Int) = 3 from rfl]; (go_enter Tryz.func24, Tryz.ntmps24; go_wp2; (first | go_ret | skip); exact ⟨rfl, rfl⟩)
  case inr.inr.inr.inl => rw [show ((lev [33, 61] : Nat) : Int) = 3 from rfl]; (go_enter Tryz.func24, Tryz.ntmps24; go_wp2; (first | go_ret | skip); exact ⟨rfl, rfl⟩)
  case inr.inr.inr.inr.inl => rw [show ((lev [60] : Nat) : Int) = 3 from rfl]; (go_enter Tryz.func24, Tryz.ntmps24; go_wp2; (first | go_ret | skip); exact ⟨rfl, rfl⟩)
  case inr.inr.inr.inr.inr.inl => rw [show ((lev [62] : Nat) : Int) = 3 from rfl]; (go_enter Tryz.func24, Tryz.ntmps24; go_wp2; (first | go_ret | skip); exact ⟨rfl, rfl⟩)
  case inr.inr.inr.inr.inr.inr.inl => rw [show ((lev [60, 61] : Nat) : Int) = 3 from rfl]; (go_enter Tryz.func24, Tryz.ntmps24; go_wp2; (first | go_ret | skip); exact ⟨rfl, rfl⟩)
  case inr.inr.inr.inr.inr.inr.inr.inl => rw [show ((lev [62, 61] : Nat) : Int) = 3 from rfl]; (go_enter Tryz.func24, Tryz.ntmps24; go_wp2; (first | go_ret | skip); exact ⟨rfl, rfl⟩)
  case inr.inr.inr.inr.inr.inr.inr.inr.inl => rw [show ((lev [94] : Nat) : Int) = 4 from rfl]; (go_enter Tryz.func24, Tryz.ntmps24; go_wp2; (first | go_ret | skip); exact ⟨rfl, rfl⟩)
  case inr.inr.inr.inr.inr.inr.inr.inr.inr.inl => rw [show ((lev [43] : Nat) : Int) = 5 from rfl]; (go_enter Tryz.func24, Tryz.ntmps24; go_wp2; (first | go_ret | skip); exact ⟨rfl, rfl⟩)
  case inr.inr.inr.inr.inr.inr.inr.inr.inr.inr.inl => rw [show ((lev [45] : Nat) : Int) = 5 from rfl]; (go_enter Tryz.func24, Tryz.ntmps24; go_wp2; (first | go_ret | skip); exact ⟨rfl, rfl⟩)
  case inr.inr.inr.inr.inr.inr.inr.inr.inr.inr.inr.inl => rw [show ((lev [42] : Nat) : Int) = 6 from rfl]; (go_enter Tryz.func24, Tryz.ntmps24; go_wp2; (first | go_ret | skip); exact ⟨rfl, rfl⟩)
  case inr.inr.inr.inr.inr.inr.inr.inr.inr.inr.inr.inr.inl => rw [show ((lev [47] : Nat) : Int) = 6 from rfl]; (go_enter Tryz.func24, Tryz.ntmps24; go_wp2; (first | go_ret | skip); exact ⟨rfl, rfl⟩)
  case inr.inr.inr.inr.inr.inr.inr.inr.inr.inr.inr.inr.inr => rw [show ((lev [37] : Nat) : Int) = 6 from rfl]; (go_enter Tryz.func24, Tryz.ntmps24; go_wp2; (first | go_ret | skip); exact ⟨rfl, rfl⟩)
def opCells : List Value := [.string ⟨#[124, 124]⟩, .string ⟨#[38, 38]⟩, .string ⟨#[61, 61]⟩, .string ⟨#[33, 61]⟩, .string ⟨#[60]⟩, .string ⟨#[62]⟩, .string ⟨#[60, 61]⟩, .string ⟨#[62, 61]⟩, .string ⟨#[94]⟩, .string ⟨#[43]⟩, .string ⟨#[45]⟩, .string ⟨#[42]⟩, .string ⟨#[47]⟩, .string ⟨#[37]⟩]
theorem opCells_at : ∀ i, i < 14 → opCells[i]? = some (strV (ops.getD i [])) ∧ ops.getD i [] ∈ ops ∧ (ops.getD i []).length ≤ 2 := by
  intro i hi
  have : i = 0 ∨ i = 1 ∨ i = 2 ∨ i = 3 ∨ i = 4 ∨ i = 5 ∨ i = 6 ∨ i = 7 ∨ i = 8 ∨ i = 9 ∨ i = 10 ∨ i = 11 ∨ i = 12 ∨ i = 13 := by omega
  rcases this with rfl | rfl | rfl | rfl | rfl | rfl | rfl | rfl | rfl | rfl | rfl | rfl | rfl | rfl <;> exact ⟨rfl, by decide, by decide⟩
theorem pg_drew {W : World} {p : Prog} {V A E : Option Addr} {cv ca ce : Nat} (h : PgM W Any_ p V A E cv ca ce) : PgM (World.drew W) Any_ p V A E cv ca ce := h.keep (Kept.of_below (Below.refl W.heap.size W).drew)
set_option maxHeartbeats 8000000 in
theorem walk_prec (a b : Nat) (ha : a < 256) (hb : b < 256) (w : World) (hL : Laid w) :
    Calls Tryz.prog 8 #[.int .u8 (a : Int), .int .u8 (b : Int)] w fun e w' => e = .returned (.bool true) ∧ Below w.heap.size w w' := by
  have c0 := Lib.hid (alive_any w hL)
  have hL := Lib.hid hL
  obtain ⟨i, hi⟩ : ∃ i, a % 14 = i := ⟨_, rfl⟩
  obtain ⟨j, hj⟩ : ∃ j, b % 14 = j := ⟨_, rfl⟩
  have i1 : i < 14 := by omega
  have j1 : j < 14 := by omega
  obtain ⟨F, hF⟩ : ∃ F : ByteArray, strV (ops.getD i []) = .string F := ⟨_, rfl⟩
  obtain ⟨G, hG⟩ : ∃ G : ByteArray, strV (ops.getD j []) = .string G := ⟨_, rfl⟩
  obtain ⟨x1, x2, x3⟩ := opCells_at i i1
  obtain ⟨y1, y2, y3⟩ := opCells_at j j1
  rw [hF] at x1
  rw [hG] at y1
  have cL1 := Lib.hid (fun W => level_any hF x2 W)
  have cL2 := Lib.hid (fun W => level_any hG y2 W)
  have a1 : IntKind.i64.wrap (a : Int) = (a : Int) := by rw [IntKind.wrap_i64]; omega
  have b1 : IntKind.i64.wrap (b : Int) = (b : Int) := by rw [IntKind.wrap_i64]; omega
  have a2 : Int.tmod (a : Int) 14 = (i : Int) := by rw [← hi]; rfl
  have b2 : Int.tmod (b : Int) 14 = (j : Int) := by rw [← hj]; rfl
  have i2 : (0 : Int) ≤ (i : Int) := by omega
  have i3 : (i : Int) < 14 := by omega
  have j2 : (0 : Int) ≤ (j : Int) := by omega
  have j3 : (j : Int) < 14 := by omega
  go_enter Tryz.func8, Tryz.ntmps8
  go_wp2_with fail
  refine (c0.out).mono ?_
  rintro e w1 ⟨rfl, hb1⟩
  have hbo := Blk.new w1 9 opCells
  have hlo := boxed w1 (.cells opCells.toArray 9)
  unfold opCells at hbo hlo
  obtain ⟨g, hg⟩ : ∃ g, w1.heap.size = g := ⟨_, rfl⟩
  obtain ⟨W2, hW2⟩ : ∃ W, w1.alloc (.cells #[.string ⟨#[124, 124]⟩, .string ⟨#[38, 38]⟩, .string ⟨#[61, 61]⟩, .string ⟨#[33, 61]⟩, .string ⟨#[60]⟩, .string ⟨#[62]⟩, .string ⟨#[60, 61]⟩, .string ⟨#[62, 61]⟩, .string ⟨#[94]⟩, .string ⟨#[43]⟩, .string ⟨#[45]⟩, .string ⟨#[42]⟩, .string ⟨#[47]⟩, .string ⟨#[37]⟩] 9) = W := ⟨_, rfl⟩
  change Blk 9 (w1.alloc (.cells #[.string ⟨#[124, 124]⟩, .string ⟨#[38, 38]⟩, .string ⟨#[61, 61]⟩, .string ⟨#[33, 61]⟩, .string ⟨#[60]⟩, .string ⟨#[62]⟩, .string ⟨#[60, 61]⟩, .string ⟨#[62, 61]⟩, .string ⟨#[94]⟩, .string ⟨#[43]⟩, .string ⟨#[45]⟩, .string ⟨#[42]⟩, .string ⟨#[47]⟩, .string ⟨#[37]⟩] 9)) _ _ at hbo
  change Below _ _ (w1.alloc (.cells #[.string ⟨#[124, 124]⟩, .string ⟨#[38, 38]⟩, .string ⟨#[61, 61]⟩, .string ⟨#[33, 61]⟩, .string ⟨#[60]⟩, .string ⟨#[62]⟩, .string ⟨#[60, 61]⟩, .string ⟨#[62, 61]⟩, .string ⟨#[94]⟩, .string ⟨#[43]⟩, .string ⟨#[45]⟩, .string ⟨#[42]⟩, .string ⟨#[47]⟩, .string ⟨#[37]⟩] 9)) at hlo
  rw [hW2] at hbo hlo
  rw [hg] at hbo
  have v1 : W2.cell? ⟨g, i, none⟩ = some (.string F) := (hbo.cell i).trans x1
  have v2 : W2.cell? ⟨g, j, none⟩ = some (.string G) := (hbo.cell j).trans y1
  have hb2 := Lib.hid (chain hb1 hlo)
  clear hbo hlo hb1 c0 x1 y1 x2 y2 hi hj
  go_wp2_with fail
  go_quiet (fail)
  obtain ⟨W3, hW3⟩ : ∃ W, W2.drewN nq = W := ⟨_, rfl⟩
  rw [hW3]
  have hb3 := Lib.hid (show Below w.heap.size w W3 by rw [← hW3]; exact chainN hb2.out nq)
  have F1 : F.size ≤ 2 := by rw [str_len (strV_list hF)]; exact x3
  have G1 : G.size ≤ 2 := by rw [str_len (strV_list hG)]; exact y3
  have hPl : ((⟨#[117, 32]⟩ : ByteArray) ++ F ++ ⟨#[32, 118, 32]⟩ ++ G ++ ⟨#[32, 119]⟩).data.toList = [117, 32] ++ ops.getD i [] ++ [32, 118, 32] ++ ops.getD j [] ++ [32, 119] := by
    rw [three_bytes, three_bytes, strV_list hF, strV_list hG]
  obtain ⟨P, hP⟩ : ∃ P, (⟨#[117, 32]⟩ : ByteArray) ++ F ++ ⟨#[32, 118, 32]⟩ ++ G ++ ⟨#[32, 119]⟩ = P := ⟨_, rfl⟩
  rw [hP] at hPl
  have cB := Lib.hid (body_any P W3 (by rw [str_len hPl]; simp only [List.length_append, List.length_cons, List.length_nil]; omega))
  have hpr := precedence i1 j1
  obtain ⟨lf, hlf⟩ : ∃ n, lev (ops.getD i []) = n := ⟨_, rfl⟩
  obtain ⟨lg, hlg⟩ : ∃ n, lev (ops.getD j []) = n := ⟨_, rfl⟩
  rw [hlf] at cL1
  rw [hlg] at cL2
  rw [hlf, hlg] at hpr
  have hFl := strV_list hF
  have hGl := strV_list hG
  rw [← hFl, ← hGl] at hpr
  replace hpr := Lib.hid hpr
  have hlfF : lev F.data.toList = lf := by rw [hFl]; exact hlf
  have hlgG : lev G.data.toList = lg := by rw [hGl]; exact hlg
  rw [← hFl, ← hGl] at hPl
  replace hPl := Lib.hid hPl
  replace hFl := Lib.hid hFl
  replace hGl := Lib.hid hGl
  have l1 : (0 : Int) ≤ (lf : Int) := by omega
  have l2 : (0 : Int) ≤ (lg : Int) := by omega
  have hlt : decide ((lf : Int) < (lg : Int)) = decide (lf < lg) := by rw [decide_eq_decide]; omega
  clear v1 v2 hW2 hW3 hb2 hF hG x3 y3 i1 j1 a1 b1 a2 b2 i2 i3 j2 j3 hlf hlg hg ha hb
  go_wp2_with fail
  refine (cB.out).mono ?_
  rintro e w4 ⟨⟨S, hS, rfl⟩, rfl⟩
  rw [hPl.out] at hS
  replace hS : S.data.toList = pre2 F.data.toList G.data.toList := hS
  clear cB
  by_cases h33 : lf = 3 ∧ lg = 3
  · obtain ⟨rfl, rfl⟩ := h33
    have hpe := hpr.out.1 ⟨rfl, rfl⟩
    obtain ⟨⟨p, n, e0⟩, hpq⟩ : ∃ r, parse (pre2 F.data.toList G.data.toList) = r := ⟨_, rfl⟩
    rw [hpq] at hpe
    obtain rfl : e0 = 3 := hpe
    obtain ⟨lv, hlv⟩ : ∃ n, p.vars.length = n := ⟨_, rfl⟩
    obtain ⟨la, hla⟩ : ∃ n, p.arrays.length = n := ⟨_, rfl⟩
    obtain ⟨lq, hlq⟩ : ∃ n, p.funcs.length = n := ⟨_, rfl⟩
    obtain ⟨ni, hni⟩ : ∃ k : Int, (n : Int) = k := ⟨_, rfl⟩
    have cP := Lib.hid (Parse_use S (p := p) (n := n) (e0 := 3) (by rw [hS]; exact hpq) hlv hla hlq hni (ei := 3) rfl _ (hL.out.below hb3.out))
    clear hS hpq hlv hla hlq hni hpr
    go_wp2_with fail
    refine (cP.out).mono ?_
    rintro e w5 ⟨Va, Aa, Ea, cv, ca, ce, rfl, hP5, hb5⟩
    obtain ⟨W6, g6, W7, hW6, hg6, hW7, hb6, hb7, hP7, hl7⟩ := pg_store hP5 lv la lq
    obtain ⟨u0, u1, u2, f0, f1, f2⟩ := pg_box hb6
    have k7 := chain hb5 hl7
    have hbx := Lib.hid (chain hb3.out k7)
    replace hb7 := Lib.hid hb7
    replace hP7 := Lib.hid hP7
    clear hb5 hP5 hb6 hl7 k7 cP hb3
    go_wp2_with fail
    refine (cL1.out _).mono ?_
    rintro e w8 ⟨rfl, rfl⟩
    clear u0 u1 u2 f0 f1 f2
    go_wp2_with fail
    refine (cL2.out _).mono ?_
    rintro e w8 ⟨rfl, rfl⟩
    go_wp2
    first | go_ret | go_ret2 | skip
    exact ⟨rfl, hbx.out⟩
  by_cases hord : lf < lg
  · by_cases hf3 : lf = 3
    · have hpe := hpr.out.2.2 hord
      have hwf := (parse_ok hpe rfl).2.1
      have cP := Lib.hid (Parse_use S (n := 0) (e0 := 0) (by rw [hS]; exact hpe) (lv := 0) (la := 0) (lf := 1) rfl rfl rfl (ni := 0) (ei := 0) rfl rfl _ (hL.out.below hb3.out))
      clear hS hpe hpr
      go_wp2_with fail
      refine (cP.out).mono ?_
      rintro e w5 ⟨Va, Aa, Ea, cv, ca, ce, rfl, hP5, hb5⟩
      obtain ⟨W6, g6, W7, hW6, hg6, hW7, hb6, hb7, hP7, hl7⟩ := pg_store hP5 0 0 1
      obtain ⟨u0, u1, u2, f0, f1, f2⟩ := pg_box hb6
      have k7 := chain hb5 hl7
      have hbx := Lib.hid (chain hb3.out k7)
      replace hb7 := Lib.hid hb7
      replace hP7 := Lib.hid hP7
      clear hb5 hP5 hb6 hl7 k7 cP hb3
      have t1 : ((lf : Int) == 3) = true := beq_iff_eq.2 (by omega)
      have t2 : ((lg : Int) == 3) = false := beq_eq_false_iff_ne.2 (by omega)
      go_wp2_with fail
      refine (cL1.out _).mono ?_
      rintro e w8 ⟨rfl, rfl⟩
      go_wp2_with fail
      refine (cL2.out _).mono ?_
      rintro e w8 ⟨rfl, rfl⟩
      have cu := Lib.hid (fun W => variable_any ⟨#[117]⟩ W)
      have cv' := Lib.hid (fun W => variable_any ⟨#[118]⟩ W)
      have cw := Lib.hid (fun W => variable_any ⟨#[119]⟩ W)
      clear u0 u1 u2 f0 f1 f2 hW6 hg6 hW7
      go_wp2_with fail
      refine (cu.out _).mono ?_
      rintro e w8 ⟨rfl, hb8⟩
      go_wp2_with fail
      refine (cv'.out _).mono ?_
      rintro e w9 ⟨rfl, hb9⟩
      have c5 := Lib.hid (binary_any F w9 (F := Any_) (fun _ _ => trivial) (exc_var w9 Any_ ⟨#[117]⟩) (exc_var w9 Any_ ⟨#[118]⟩))
      go_wp2_with fail
      refine (c5.out).mono ?_
      rintro e w10 ⟨D1, rfl, hC1, hb10⟩
      have hC1 := Lib.hid hC1
      go_wp2_with fail
      refine (cw.out _).mono ?_
      rintro e w11 ⟨rfl, hb11⟩
      have c6 := Lib.hid (binary_any G w11 (F := Any_) (fun _ _ => trivial) (hC1.out.keep (Kept.of_below hb11)) (exc_var w11 Any_ ⟨#[119]⟩))
      go_wp2_with fail
      refine (c6.out).mono ?_
      rintro e w12 ⟨D2, rfl, hC2, hb12⟩
      obtain ⟨W13, g13, W14, hW13, hg13, hW14, hb13, hb14, hl14⟩ := ex_store w12 (.string G) (.int .u32 0) (.string ⟨#[]⟩) (.slice (some D2) 2 2)
      obtain ⟨u0, u1, u2, u3, f0, f1, f2, f3⟩ := ex_box hb13
      have k12 := chain (chain (chain (chain hb8 hb9) hb10) hb11) hb12
      have k14 := chain k12 hl14
      have z12 := k12.size
      have hgw : w.heap.size ≤ g13 := by have := (chain hbx.out k12).size; omega
      have hP7n := Lib.hid ((hP7.out.mono (G := fun b => b ≠ g13) fun b hb _ => by omega).keep (Kept.of_below k14))
      have hbx := Lib.hid (chain hbx.out k14)
      have hb7 := Lib.hid (hb7.out.below k14)
      have hP7 := Lib.hid (hP7.out.keep (Kept.of_below k14))
      have hC14 : ExC W14 Any_ (.bin G.data.toList (.bin F.data.toList (V 117) (V 118)) (V 119)) [.string G, .int .u32 0, .string ⟨#[]⟩, .slice (some D2) 2 2] := hC2.keep (Kept.of_below hl14)
      replace hb14 := Lib.hid hb14
      replace hC14 := Lib.hid hC14
      clear hb8 hb9 hb10 hb11 hb12 hb13 hl14 k14 k12 z12 hC1 hC2 c5 c6
      have dlt : decide ((lf : Int) < (lg : Int)) = true := decide_eq_true (by omega)
      clear hlt
      go_wp2_with fail
      refine (cL1.out _).mono ?_
      rintro e w15 ⟨rfl, rfl⟩
      go_wp2_with fail
      refine (cL2.out _).mono ?_
      rintro e w15 ⟨rfl, rfl⟩
      clear u0 u1 u2 u3 f0 f1 f2 f3 hW13 hg13 hW14
      go_wp2_with fail
      refine (cu.out _).mono ?_
      rintro e w16 ⟨rfl, hb16⟩
      go_wp2_with fail
      refine (cv'.out _).mono ?_
      rintro e w17 ⟨rfl, hb17⟩
      go_wp2_with fail
      refine (cw.out _).mono ?_
      rintro e w18 ⟨rfl, hb18⟩
      have c5 := Lib.hid (binary_any G w18 (F := fun b => b ≠ g13) (fun b hb => by have := hb14.out.lt; have := (chain (chain hb16 hb17) hb18).size; omega) (exc_var w18 _ ⟨#[118]⟩) (exc_var w18 _ ⟨#[119]⟩))
      go_wp2_with fail
      refine (c5.out).mono ?_
      rintro e w19 ⟨D3, rfl, hC3, hb19⟩
      have c6 := Lib.hid (binary_any F w19 (F := fun b => b ≠ g13) (fun b hb => by have := hb14.out.lt; have := (chain (chain (chain hb16 hb17) hb18) hb19).size; omega) (exc_var w19 _ ⟨#[117]⟩) hC3)
      go_wp2_with fail
      refine (c6.out).mono ?_
      rintro e w20 ⟨D4, rfl, hC4, hb20⟩
      have k20 := chain (chain (chain (chain hb16 hb17) hb18) hb19) hb20
      have m14 := hb14.out.below k20
      have hlg13 : g13 < w20.heap.size := m14.lt
      obtain ⟨u0, u1, u2, u3, f0, f1, f2, f3⟩ := ex_box m14
      have hng : ¬ (fun b => b ≠ g13) g13 := fun h => h rfl
      have hgg : g6 ≠ g13 := by have := hb14.out; have := hb7.out; rintro rfl; have e := (hb14.out).symm.trans hb7.out; injection e with e; injection e with _ e; exact absurd e (by decide)
      obtain ⟨W21, hW21⟩ : ∃ W, (((w20.setCell ⟨g13, 0, none⟩ (.string F)).setCell ⟨g13, 1, none⟩ (.int .u32 0)).setCell ⟨g13, 2, none⟩ (.string ⟨#[]⟩)).setCell ⟨g13, 3, none⟩ (.slice (some D4) 2 2) = W := ⟨_, rfl⟩
      have hb21 : Blk 51 W21 g13 [.string F, .int .u32 0, .string ⟨#[]⟩, .slice (some D4) 2 2] := by rw [← hW21]; exact (((m14.set 0 _).set 1 _).set 2 _).set 3 _
      have hb7 := Lib.hid (show Blk 27 W21 g6 _ by rw [← hW21]; exact Blk.other (Blk.other (Blk.other (Blk.other (hb7.out.below k20) hgg _) hgg _) hgg _) hgg _)
      have hlg : W14.heap.size ≤ w20.heap.size := k20.size
      have hl21 : Below w.heap.size w W21 := by rw [← hW21]; exact ((((chain hbx.out k20).setCell (p := ⟨g13, 0, none⟩) hgw _).setCell (p := ⟨g13, 1, none⟩) hgw _).setCell (p := ⟨g13, 2, none⟩) hgw _).setCell (p := ⟨g13, 3, none⟩) hgw _
      have hP21 : PgM W21 (fun b => b ≠ g13) (assigned (.bin F.data.toList (V 117) (.bin G.data.toList (V 118) (V 119)))) Va Aa Ea cv ca ce := by rw [← hW21]; exact ((((hP7n.out.keep (Kept.of_below k20)).keep (Kept.set (F := fun b => b ≠ g13) _ hng (i := 0) (.string F))).keep (Kept.set (F := fun b => b ≠ g13) _ hng (i := 1) (.int .u32 0))).keep (Kept.set (F := fun b => b ≠ g13) _ hng (i := 2) (.string ⟨#[]⟩))).keep (Kept.set (F := fun b => b ≠ g13) _ hng (i := 3) (.slice (some D4) 2 2))
      have hP7 := Lib.hid (hP21.mono (G := Any_) fun _ _ _ => trivial)
      have hC20 : ExC W21 (fun b => b ≠ g13) (.bin F.data.toList (V 117) (.bin G.data.toList (V 118) (V 119))) [.string F, .int .u32 0, .string ⟨#[]⟩, .slice (some D4) 2 2] := by rw [← hW21]; exact ((((hC4).keep (Kept.set (F := fun b => b ≠ g13) _ hng (i := 0) (.string F))).keep (Kept.set (F := fun b => b ≠ g13) _ hng (i := 1) (.int .u32 0))).keep (Kept.set (F := fun b => b ≠ g13) _ hng (i := 2) (.string ⟨#[]⟩))).keep (Kept.set (F := fun b => b ≠ g13) _ hng (i := 3) (.slice (some D4) 2 2))
      have hC14 := Lib.hid (hC20.mono (G := Any_) fun _ _ _ => trivial)
      have hb14 := Lib.hid hb21
      have hbx := Lib.hid hl21
      clear hP21 hC20 hb21 hl21 hP7n hng hgg m14 k20 hb16 hb17 hb18 hb19 hb20 hC3 hC4 c5 c6 hlg hlg13
      obtain ⟨x0, x1, x2, _, _, _⟩ := pg_box hb7.out
      obtain ⟨y0, y1, y2, y3, _, _, _, _⟩ := ex_box hb14.out
      have hlt7 := hb7.out.lt
      have hlt14 := hb14.out.lt
      have ld0 : ∀ W, Below W21.heap.size W21 W → W.cell? ⟨g6, 0, none⟩ = some (.slice Va 0 cv) := fun W h => (h.cell (p := ⟨g6, 0, none⟩) hlt7).trans x0
      have ld1 : ∀ W, Below W21.heap.size W21 W → W.cell? ⟨g6, 1, none⟩ = some (.slice Aa 0 ca) := fun W h => (h.cell (p := ⟨g6, 1, none⟩) hlt7).trans x1
      have ld2 : ∀ W, Below W21.heap.size W21 W → W.cell? ⟨g6, 2, none⟩ = some (.slice Ea 1 ce) := fun W h => (h.cell (p := ⟨g6, 2, none⟩) hlt7).trans x2
      have le0 : ∀ W, Below W21.heap.size W21 W → W.cell? ⟨g13, 0, none⟩ = some (.string F) := fun W h => (h.cell (p := ⟨g13, 0, none⟩) hlt14).trans y0
      have le1 : ∀ W, Below W21.heap.size W21 W → W.cell? ⟨g13, 1, none⟩ = some (.int .u32 0) := fun W h => (h.cell (p := ⟨g13, 1, none⟩) hlt14).trans y1
      have le2 : ∀ W, Below W21.heap.size W21 W → W.cell? ⟨g13, 2, none⟩ = some (.string ⟨#[]⟩) := fun W h => (h.cell (p := ⟨g13, 2, none⟩) hlt14).trans y2
      have le3 : ∀ W, Below W21.heap.size W21 W → W.cell? ⟨g13, 3, none⟩ = some (.slice (some D4) 2 2) := fun W h => (h.cell (p := ⟨g13, 3, none⟩) hlt14).trans y3
      have cA := Lib.hid (fun (W : World) (h : Below W21.heap.size W21 W) => lassigned_any W (hC14.out.keep (Kept.of_below h)))
      have cE := Lib.hid (fun (W : World) (D : Addr) (hd : PgM W Any_ (assigned (.bin F.data.toList (V 117) (.bin G.data.toList (V 118) (V 119)))) none none (some D) 0 0 1) (h : Below W21.heap.size W21 W) => Equal_use (hP7.out.keep (Kept.of_below h)) hd hwf (lv := 0) (la := 0) (lf := 1) rfl rfl rfl)
      have keep0 := Below.refl W21.heap.size W21
      have keep1 : ∀ W, Below W21.heap.size W21 W → Below W21.heap.size W21 (World.drew W) := fun W h => h.drew
      clear hb7 hb14 hP7 hC14 x0 x1 x2 y0 y1 y2 y3 hlt7 hlt14
      go_wp2_with fail
      go_region_held3 (fun W => Below W21.heap.size W21 W) (first | exact keep0 | exact keep1 _ keep0 | assumption | exact keep1 _ ‹_› | exact chain keep0 ‹_› | exact chain (keep1 _ keep0) ‹_› | exact chain ‹_› ‹_›) (first | (go_at_call 27; (with_reducible refine (cA.out _ (by first | exact keep0 | exact keep1 _ keep0 | assumption | exact keep1 _ ‹_›)).mono ?_); rintro e w30 ⟨D5, rfl, hP30, hb30⟩) | (go_at_call 18; (with_reducible refine (cE.out _ _ (by first | assumption | exact pg_drew ‹_›) (by first | assumption | exact keep1 _ ‹_› | exact chain keep0 ‹_› | exact chain (keep1 _ keep0) ‹_› | exact chain ‹_› ‹_›)).mono ?_); rintro e w31 ⟨rfl, hb31⟩))
      have hfin := Lib.hid (chain hbx.out (show Below W21.heap.size W21 w31 by first | assumption | exact chain ‹_› ‹_›))
      go_wp2
      first | go_ret | go_ret2 | skip
      exact ⟨rfl, hfin.out⟩
    · have hpe := hpr.out.2.2 hord
      have hwf := (parse_ok hpe rfl).2.1
      have cP := Lib.hid (Parse_use S (n := 0) (e0 := 0) (by rw [hS]; exact hpe) (lv := 0) (la := 0) (lf := 1) rfl rfl rfl (ni := 0) (ei := 0) rfl rfl _ (hL.out.below hb3.out))
      clear hS hpe hpr
      go_wp2_with fail
      refine (cP.out).mono ?_
      rintro e w5 ⟨Va, Aa, Ea, cv, ca, ce, rfl, hP5, hb5⟩
      obtain ⟨W6, g6, W7, hW6, hg6, hW7, hb6, hb7, hP7, hl7⟩ := pg_store hP5 0 0 1
      obtain ⟨u0, u1, u2, f0, f1, f2⟩ := pg_box hb6
      have k7 := chain hb5 hl7
      have hbx := Lib.hid (chain hb3.out k7)
      replace hb7 := Lib.hid hb7
      replace hP7 := Lib.hid hP7
      clear hb5 hP5 hb6 hl7 k7 cP hb3
      have t1 : ((lf : Int) == 3) = false := beq_eq_false_iff_ne.2 (by omega)
      go_wp2_with fail
      refine (cL1.out _).mono ?_
      rintro e w8 ⟨rfl, rfl⟩
      have cu := Lib.hid (fun W => variable_any ⟨#[117]⟩ W)
      have cv' := Lib.hid (fun W => variable_any ⟨#[118]⟩ W)
      have cw := Lib.hid (fun W => variable_any ⟨#[119]⟩ W)
      clear u0 u1 u2 f0 f1 f2 hW6 hg6 hW7
      go_wp2_with fail
      refine (cu.out _).mono ?_
      rintro e w8 ⟨rfl, hb8⟩
      go_wp2_with fail
      refine (cv'.out _).mono ?_
      rintro e w9 ⟨rfl, hb9⟩
      have c5 := Lib.hid (binary_any F w9 (F := Any_) (fun _ _ => trivial) (exc_var w9 Any_ ⟨#[117]⟩) (exc_var w9 Any_ ⟨#[118]⟩))
      go_wp2_with fail
      refine (c5.out).mono ?_
      rintro e w10 ⟨D1, rfl, hC1, hb10⟩
      have hC1 := Lib.hid hC1
      go_wp2_with fail
      refine (cw.out _).mono ?_
      rintro e w11 ⟨rfl, hb11⟩
      have c6 := Lib.hid (binary_any G w11 (F := Any_) (fun _ _ => trivial) (hC1.out.keep (Kept.of_below hb11)) (exc_var w11 Any_ ⟨#[119]⟩))
      go_wp2_with fail
      refine (c6.out).mono ?_
      rintro e w12 ⟨D2, rfl, hC2, hb12⟩
      obtain ⟨W13, g13, W14, hW13, hg13, hW14, hb13, hb14, hl14⟩ := ex_store w12 (.string G) (.int .u32 0) (.string ⟨#[]⟩) (.slice (some D2) 2 2)
      obtain ⟨u0, u1, u2, u3, f0, f1, f2, f3⟩ := ex_box hb13
      have k12 := chain (chain (chain (chain hb8 hb9) hb10) hb11) hb12
      have k14 := chain k12 hl14
      have z12 := k12.size
      have hgw : w.heap.size ≤ g13 := by have := (chain hbx.out k12).size; omega
      have hP7n := Lib.hid ((hP7.out.mono (G := fun b => b ≠ g13) fun b hb _ => by omega).keep (Kept.of_below k14))
      have hbx := Lib.hid (chain hbx.out k14)
      have hb7 := Lib.hid (hb7.out.below k14)
      have hP7 := Lib.hid (hP7.out.keep (Kept.of_below k14))
      have hC14 : ExC W14 Any_ (.bin G.data.toList (.bin F.data.toList (V 117) (V 118)) (V 119)) [.string G, .int .u32 0, .string ⟨#[]⟩, .slice (some D2) 2 2] := hC2.keep (Kept.of_below hl14)
      replace hb14 := Lib.hid hb14
      replace hC14 := Lib.hid hC14
      clear hb8 hb9 hb10 hb11 hb12 hb13 hl14 k14 k12 z12 hC1 hC2 c5 c6
      have dlt : decide ((lf : Int) < (lg : Int)) = true := decide_eq_true (by omega)
      clear hlt
      go_wp2_with fail
      refine (cL1.out _).mono ?_
      rintro e w15 ⟨rfl, rfl⟩
      go_wp2_with fail
      refine (cL2.out _).mono ?_
      rintro e w15 ⟨rfl, rfl⟩
      clear u0 u1 u2 u3 f0 f1 f2 f3 hW13 hg13 hW14
      go_wp2_with fail
      refine (cu.out _).mono ?_
      rintro e w16 ⟨rfl, hb16⟩
      go_wp2_with fail
      refine (cv'.out _).mono ?_
      rintro e w17 ⟨rfl, hb17⟩
      go_wp2_with fail
      refine (cw.out _).mono ?_
      rintro e w18 ⟨rfl, hb18⟩
      have c5 := Lib.hid (binary_any G w18 (F := fun b => b ≠ g13) (fun b hb => by have := hb14.out.lt; have := (chain (chain hb16 hb17) hb18).size; omega) (exc_var w18 _ ⟨#[118]⟩) (exc_var w18 _ ⟨#[119]⟩))
      go_wp2_with fail
      refine (c5.out).mono ?_
      rintro e w19 ⟨D3, rfl, hC3, hb19⟩
      have c6 := Lib.hid (binary_any F w19 (F := fun b => b ≠ g13) (fun b hb => by have := hb14.out.lt; have := (chain (chain (chain hb16 hb17) hb18) hb19).size; omega) (exc_var w19 _ ⟨#[117]⟩) hC3)
      go_wp2_with fail
      refine (c6.out).mono ?_
      rintro e w20 ⟨D4, rfl, hC4, hb20⟩
      have k20 := chain (chain (chain (chain hb16 hb17) hb18) hb19) hb20
      have m14 := hb14.out.below k20
      have hlg13 : g13 < w20.heap.size := m14.lt
      obtain ⟨u0, u1, u2, u3, f0, f1, f2, f3⟩ := ex_box m14
      have hng : ¬ (fun b => b ≠ g13) g13 := fun h => h rfl
      have hgg : g6 ≠ g13 := by have := hb14.out; have := hb7.out; rintro rfl; have e := (hb14.out).symm.trans hb7.out; injection e with e; injection e with _ e; exact absurd e (by decide)
      obtain ⟨W21, hW21⟩ : ∃ W, (((w20.setCell ⟨g13, 0, none⟩ (.string F)).setCell ⟨g13, 1, none⟩ (.int .u32 0)).setCell ⟨g13, 2, none⟩ (.string ⟨#[]⟩)).setCell ⟨g13, 3, none⟩ (.slice (some D4) 2 2) = W := ⟨_, rfl⟩
      have hb21 : Blk 51 W21 g13 [.string F, .int .u32 0, .string ⟨#[]⟩, .slice (some D4) 2 2] := by rw [← hW21]; exact (((m14.set 0 _).set 1 _).set 2 _).set 3 _
      have hb7 := Lib.hid (show Blk 27 W21 g6 _ by rw [← hW21]; exact Blk.other (Blk.other (Blk.other (Blk.other (hb7.out.below k20) hgg _) hgg _) hgg _) hgg _)
      have hlg : W14.heap.size ≤ w20.heap.size := k20.size
      have hl21 : Below w.heap.size w W21 := by rw [← hW21]; exact ((((chain hbx.out k20).setCell (p := ⟨g13, 0, none⟩) hgw _).setCell (p := ⟨g13, 1, none⟩) hgw _).setCell (p := ⟨g13, 2, none⟩) hgw _).setCell (p := ⟨g13, 3, none⟩) hgw _
      have hP21 : PgM W21 (fun b => b ≠ g13) (assigned (.bin F.data.toList (V 117) (.bin G.data.toList (V 118) (V 119)))) Va Aa Ea cv ca ce := by rw [← hW21]; exact ((((hP7n.out.keep (Kept.of_below k20)).keep (Kept.set (F := fun b => b ≠ g13) _ hng (i := 0) (.string F))).keep (Kept.set (F := fun b => b ≠ g13) _ hng (i := 1) (.int .u32 0))).keep (Kept.set (F := fun b => b ≠ g13) _ hng (i := 2) (.string ⟨#[]⟩))).keep (Kept.set (F := fun b => b ≠ g13) _ hng (i := 3) (.slice (some D4) 2 2))
      have hP7 := Lib.hid (hP21.mono (G := Any_) fun _ _ _ => trivial)
      have hC20 : ExC W21 (fun b => b ≠ g13) (.bin F.data.toList (V 117) (.bin G.data.toList (V 118) (V 119))) [.string F, .int .u32 0, .string ⟨#[]⟩, .slice (some D4) 2 2] := by rw [← hW21]; exact ((((hC4).keep (Kept.set (F := fun b => b ≠ g13) _ hng (i := 0) (.string F))).keep (Kept.set (F := fun b => b ≠ g13) _ hng (i := 1) (.int .u32 0))).keep (Kept.set (F := fun b => b ≠ g13) _ hng (i := 2) (.string ⟨#[]⟩))).keep (Kept.set (F := fun b => b ≠ g13) _ hng (i := 3) (.slice (some D4) 2 2))
      have hC14 := Lib.hid (hC20.mono (G := Any_) fun _ _ _ => trivial)
      have hb14 := Lib.hid hb21
      have hbx := Lib.hid hl21
      clear hP21 hC20 hb21 hl21 hP7n hng hgg m14 k20 hb16 hb17 hb18 hb19 hb20 hC3 hC4 c5 c6 hlg hlg13
      obtain ⟨x0, x1, x2, _, _, _⟩ := pg_box hb7.out
      obtain ⟨y0, y1, y2, y3, _, _, _, _⟩ := ex_box hb14.out
      have hlt7 := hb7.out.lt
      have hlt14 := hb14.out.lt
      have ld0 : ∀ W, Below W21.heap.size W21 W → W.cell? ⟨g6, 0, none⟩ = some (.slice Va 0 cv) := fun W h => (h.cell (p := ⟨g6, 0, none⟩) hlt7).trans x0
      have ld1 : ∀ W, Below W21.heap.size W21 W → W.cell? ⟨g6, 1, none⟩ = some (.slice Aa 0 ca) := fun W h => (h.cell (p := ⟨g6, 1, none⟩) hlt7).trans x1
      have ld2 : ∀ W, Below W21.heap.size W21 W → W.cell? ⟨g6, 2, none⟩ = some (.slice Ea 1 ce) := fun W h => (h.cell (p := ⟨g6, 2, none⟩) hlt7).trans x2
      have le0 : ∀ W, Below W21.heap.size W21 W → W.cell? ⟨g13, 0, none⟩ = some (.string F) := fun W h => (h.cell (p := ⟨g13, 0, none⟩) hlt14).trans y0
      have le1 : ∀ W, Below W21.heap.size W21 W → W.cell? ⟨g13, 1, none⟩ = some (.int .u32 0) := fun W h => (h.cell (p := ⟨g13, 1, none⟩) hlt14).trans y1
      have le2 : ∀ W, Below W21.heap.size W21 W → W.cell? ⟨g13, 2, none⟩ = some (.string ⟨#[]⟩) := fun W h => (h.cell (p := ⟨g13, 2, none⟩) hlt14).trans y2
      have le3 : ∀ W, Below W21.heap.size W21 W → W.cell? ⟨g13, 3, none⟩ = some (.slice (some D4) 2 2) := fun W h => (h.cell (p := ⟨g13, 3, none⟩) hlt14).trans y3
      have cA := Lib.hid (fun (W : World) (h : Below W21.heap.size W21 W) => lassigned_any W (hC14.out.keep (Kept.of_below h)))
      have cE := Lib.hid (fun (W : World) (D : Addr) (hd : PgM W Any_ (assigned (.bin F.data.toList (V 117) (.bin G.data.toList (V 118) (V 119)))) none none (some D) 0 0 1) (h : Below W21.heap.size W21 W) => Equal_use (hP7.out.keep (Kept.of_below h)) hd hwf (lv := 0) (la := 0) (lf := 1) rfl rfl rfl)
      have keep0 := Below.refl W21.heap.size W21
      have keep1 : ∀ W, Below W21.heap.size W21 W → Below W21.heap.size W21 (World.drew W) := fun W h => h.drew
      clear hb7 hb14 hP7 hC14 x0 x1 x2 y0 y1 y2 y3 hlt7 hlt14
      go_wp2_with fail
      go_region_held3 (fun W => Below W21.heap.size W21 W) (first | exact keep0 | exact keep1 _ keep0 | assumption | exact keep1 _ ‹_› | exact chain keep0 ‹_› | exact chain (keep1 _ keep0) ‹_› | exact chain ‹_› ‹_›) (first | (go_at_call 27; (with_reducible refine (cA.out _ (by first | exact keep0 | exact keep1 _ keep0 | assumption | exact keep1 _ ‹_›)).mono ?_); rintro e w30 ⟨D5, rfl, hP30, hb30⟩) | (go_at_call 18; (with_reducible refine (cE.out _ _ (by first | assumption | exact pg_drew ‹_›) (by first | assumption | exact keep1 _ ‹_› | exact chain keep0 ‹_› | exact chain (keep1 _ keep0) ‹_› | exact chain ‹_› ‹_›)).mono ?_); rintro e w31 ⟨rfl, hb31⟩))
      have hfin := Lib.hid (chain hbx.out (show Below W21.heap.size W21 w31 by first | assumption | exact chain ‹_› ‹_›))
      go_wp2
      first | go_ret | go_ret2 | skip
      exact ⟨rfl, hfin.out⟩
  · by_cases hf3 : lf = 3
    · have hpe := hpr.out.2.1 h33 hord
      have hwf := (parse_ok hpe rfl).2.1
      have cP := Lib.hid (Parse_use S (n := 0) (e0 := 0) (by rw [hS]; exact hpe) (lv := 0) (la := 0) (lf := 1) rfl rfl rfl (ni := 0) (ei := 0) rfl rfl _ (hL.out.below hb3.out))
      clear hS hpe hpr
      go_wp2_with fail
      refine (cP.out).mono ?_
      rintro e w5 ⟨Va, Aa, Ea, cv, ca, ce, rfl, hP5, hb5⟩
      obtain ⟨W6, g6, W7, hW6, hg6, hW7, hb6, hb7, hP7, hl7⟩ := pg_store hP5 0 0 1
      obtain ⟨u0, u1, u2, f0, f1, f2⟩ := pg_box hb6
      have k7 := chain hb5 hl7
      have hbx := Lib.hid (chain hb3.out k7)
      replace hb7 := Lib.hid hb7
      replace hP7 := Lib.hid hP7
      clear hb5 hP5 hb6 hl7 k7 cP hb3
      have t1 : ((lf : Int) == 3) = true := beq_iff_eq.2 (by omega)
      have t2 : ((lg : Int) == 3) = false := beq_eq_false_iff_ne.2 (by omega)
      go_wp2_with fail
      refine (cL1.out _).mono ?_
      rintro e w8 ⟨rfl, rfl⟩
      go_wp2_with fail
      refine (cL2.out _).mono ?_
      rintro e w8 ⟨rfl, rfl⟩
      have cu := Lib.hid (fun W => variable_any ⟨#[117]⟩ W)
      have cv' := Lib.hid (fun W => variable_any ⟨#[118]⟩ W)
      have cw := Lib.hid (fun W => variable_any ⟨#[119]⟩ W)
      clear u0 u1 u2 f0 f1 f2 hW6 hg6 hW7
      go_wp2_with fail
      refine (cu.out _).mono ?_
      rintro e w8 ⟨rfl, hb8⟩
      go_wp2_with fail
      refine (cv'.out _).mono ?_
      rintro e w9 ⟨rfl, hb9⟩
      have c5 := Lib.hid (binary_any F w9 (F := Any_) (fun _ _ => trivial) (exc_var w9 Any_ ⟨#[117]⟩) (exc_var w9 Any_ ⟨#[118]⟩))
      go_wp2_with fail
      refine (c5.out).mono ?_
      rintro e w10 ⟨D1, rfl, hC1, hb10⟩
      have hC1 := Lib.hid hC1
      go_wp2_with fail
      refine (cw.out _).mono ?_
      rintro e w11 ⟨rfl, hb11⟩
      have c6 := Lib.hid (binary_any G w11 (F := Any_) (fun _ _ => trivial) (hC1.out.keep (Kept.of_below hb11)) (exc_var w11 Any_ ⟨#[119]⟩))
      go_wp2_with fail
      refine (c6.out).mono ?_
      rintro e w12 ⟨D2, rfl, hC2, hb12⟩
      obtain ⟨W13, g13, W14, hW13, hg13, hW14, hb13, hb14, hl14⟩ := ex_store w12 (.string G) (.int .u32 0) (.string ⟨#[]⟩) (.slice (some D2) 2 2)
      obtain ⟨u0, u1, u2, u3, f0, f1, f2, f3⟩ := ex_box hb13
      have k12 := chain (chain (chain (chain hb8 hb9) hb10) hb11) hb12
      have k14 := chain k12 hl14
      have z12 := k12.size
      have hgw : w.heap.size ≤ g13 := by have := (chain hbx.out k12).size; omega
      have hP7n := Lib.hid ((hP7.out.mono (G := fun b => b ≠ g13) fun b hb _ => by omega).keep (Kept.of_below k14))
      have hbx := Lib.hid (chain hbx.out k14)
      have hb7 := Lib.hid (hb7.out.below k14)
      have hP7 := Lib.hid (hP7.out.keep (Kept.of_below k14))
      have hC14 : ExC W14 Any_ (.bin G.data.toList (.bin F.data.toList (V 117) (V 118)) (V 119)) [.string G, .int .u32 0, .string ⟨#[]⟩, .slice (some D2) 2 2] := hC2.keep (Kept.of_below hl14)
      replace hb14 := Lib.hid hb14
      replace hC14 := Lib.hid hC14
      clear hb8 hb9 hb10 hb11 hb12 hb13 hl14 k14 k12 z12 hC1 hC2 c5 c6
      have dlt : decide ((lf : Int) < (lg : Int)) = false := decide_eq_false (by omega)
      clear hlt
      go_wp2_with fail
      refine (cL1.out _).mono ?_
      rintro e w15 ⟨rfl, rfl⟩
      go_wp2_with fail
      refine (cL2.out _).mono ?_
      rintro e w15 ⟨rfl, rfl⟩
      clear u0 u1 u2 u3 f0 f1 f2 f3 hW13 hg13 hW14
      obtain ⟨x0, x1, x2, _, _, _⟩ := pg_box hb7.out
      obtain ⟨y0, y1, y2, y3, _, _, _, _⟩ := ex_box hb14.out
      have hlt7 := hb7.out.lt
      have hlt14 := hb14.out.lt
      have ld0 : ∀ W, Below W14.heap.size W14 W → W.cell? ⟨g6, 0, none⟩ = some (.slice Va 0 cv) := fun W h => (h.cell (p := ⟨g6, 0, none⟩) hlt7).trans x0
      have ld1 : ∀ W, Below W14.heap.size W14 W → W.cell? ⟨g6, 1, none⟩ = some (.slice Aa 0 ca) := fun W h => (h.cell (p := ⟨g6, 1, none⟩) hlt7).trans x1
      have ld2 : ∀ W, Below W14.heap.size W14 W → W.cell? ⟨g6, 2, none⟩ = some (.slice Ea 1 ce) := fun W h => (h.cell (p := ⟨g6, 2, none⟩) hlt7).trans x2
      have le0 : ∀ W, Below W14.heap.size W14 W → W.cell? ⟨g13, 0, none⟩ = some (.string G) := fun W h => (h.cell (p := ⟨g13, 0, none⟩) hlt14).trans y0
      have le1 : ∀ W, Below W14.heap.size W14 W → W.cell? ⟨g13, 1, none⟩ = some (.int .u32 0) := fun W h => (h.cell (p := ⟨g13, 1, none⟩) hlt14).trans y1
      have le2 : ∀ W, Below W14.heap.size W14 W → W.cell? ⟨g13, 2, none⟩ = some (.string ⟨#[]⟩) := fun W h => (h.cell (p := ⟨g13, 2, none⟩) hlt14).trans y2
      have le3 : ∀ W, Below W14.heap.size W14 W → W.cell? ⟨g13, 3, none⟩ = some (.slice (some D2) 2 2) := fun W h => (h.cell (p := ⟨g13, 3, none⟩) hlt14).trans y3
      have cA := Lib.hid (fun (W : World) (h : Below W14.heap.size W14 W) => lassigned_any W (hC14.out.keep (Kept.of_below h)))
      have cE := Lib.hid (fun (W : World) (D : Addr) (hd : PgM W Any_ (assigned (.bin G.data.toList (.bin F.data.toList (V 117) (V 118)) (V 119))) none none (some D) 0 0 1) (h : Below W14.heap.size W14 W) => Equal_use (hP7.out.keep (Kept.of_below h)) hd hwf (lv := 0) (la := 0) (lf := 1) rfl rfl rfl)
      have keep0 := Below.refl W14.heap.size W14
      have keep1 : ∀ W, Below W14.heap.size W14 W → Below W14.heap.size W14 (World.drew W) := fun W h => h.drew
      clear hb7 hb14 hP7 hC14 x0 x1 x2 y0 y1 y2 y3 hlt7 hlt14
      go_wp2_with fail
      go_region_held3 (fun W => Below W14.heap.size W14 W) (first | exact keep0 | exact keep1 _ keep0 | assumption | exact keep1 _ ‹_› | exact chain keep0 ‹_› | exact chain (keep1 _ keep0) ‹_› | exact chain ‹_› ‹_›) (first | (go_at_call 27; (with_reducible refine (cA.out _ (by first | exact keep0 | exact keep1 _ keep0 | assumption | exact keep1 _ ‹_›)).mono ?_); rintro e w30 ⟨D5, rfl, hP30, hb30⟩) | (go_at_call 18; (with_reducible refine (cE.out _ _ (by first | assumption | exact pg_drew ‹_›) (by first | assumption | exact keep1 _ ‹_› | exact chain keep0 ‹_› | exact chain (keep1 _ keep0) ‹_› | exact chain ‹_› ‹_›)).mono ?_); rintro e w31 ⟨rfl, hb31⟩))
      have hfin := Lib.hid (chain hbx.out (show Below W14.heap.size W14 w31 by first | assumption | exact chain ‹_› ‹_›))
      go_wp2
      first | go_ret | go_ret2 | skip
      exact ⟨rfl, hfin.out⟩
    · have hpe := hpr.out.2.1 h33 hord
      have hwf := (parse_ok hpe rfl).2.1
      have cP := Lib.hid (Parse_use S (n := 0) (e0 := 0) (by rw [hS]; exact hpe) (lv := 0) (la := 0) (lf := 1) rfl rfl rfl (ni := 0) (ei := 0) rfl rfl _ (hL.out.below hb3.out))
      clear hS hpe hpr
      go_wp2_with fail
      refine (cP.out).mono ?_
      rintro e w5 ⟨Va, Aa, Ea, cv, ca, ce, rfl, hP5, hb5⟩
      obtain ⟨W6, g6, W7, hW6, hg6, hW7, hb6, hb7, hP7, hl7⟩ := pg_store hP5 0 0 1
      obtain ⟨u0, u1, u2, f0, f1, f2⟩ := pg_box hb6
      have k7 := chain hb5 hl7
      have hbx := Lib.hid (chain hb3.out k7)
      replace hb7 := Lib.hid hb7
      replace hP7 := Lib.hid hP7
      clear hb5 hP5 hb6 hl7 k7 cP hb3
      have t1 : ((lf : Int) == 3) = false := beq_eq_false_iff_ne.2 (by omega)
      go_wp2_with fail
      refine (cL1.out _).mono ?_
      rintro e w8 ⟨rfl, rfl⟩
      have cu := Lib.hid (fun W => variable_any ⟨#[117]⟩ W)
      have cv' := Lib.hid (fun W => variable_any ⟨#[118]⟩ W)
      have cw := Lib.hid (fun W => variable_any ⟨#[119]⟩ W)
      clear u0 u1 u2 f0 f1 f2 hW6 hg6 hW7
      go_wp2_with fail
      refine (cu.out _).mono ?_
      rintro e w8 ⟨rfl, hb8⟩
      go_wp2_with fail
      refine (cv'.out _).mono ?_
      rintro e w9 ⟨rfl, hb9⟩
      have c5 := Lib.hid (binary_any F w9 (F := Any_) (fun _ _ => trivial) (exc_var w9 Any_ ⟨#[117]⟩) (exc_var w9 Any_ ⟨#[118]⟩))
      go_wp2_with fail
      refine (c5.out).mono ?_
      rintro e w10 ⟨D1, rfl, hC1, hb10⟩
      have hC1 := Lib.hid hC1
      go_wp2_with fail
      refine (cw.out _).mono ?_
      rintro e w11 ⟨rfl, hb11⟩
      have c6 := Lib.hid (binary_any G w11 (F := Any_) (fun _ _ => trivial) (hC1.out.keep (Kept.of_below hb11)) (exc_var w11 Any_ ⟨#[119]⟩))
      go_wp2_with fail
      refine (c6.out).mono ?_
      rintro e w12 ⟨D2, rfl, hC2, hb12⟩
      obtain ⟨W13, g13, W14, hW13, hg13, hW14, hb13, hb14, hl14⟩ := ex_store w12 (.string G) (.int .u32 0) (.string ⟨#[]⟩) (.slice (some D2) 2 2)
      obtain ⟨u0, u1, u2, u3, f0, f1, f2, f3⟩ := ex_box hb13
      have k12 := chain (chain (chain (chain hb8 hb9) hb10) hb11) hb12
      have k14 := chain k12 hl14
      have z12 := k12.size
      have hgw : w.heap.size ≤ g13 := by have := (chain hbx.out k12).size; omega
      have hP7n := Lib.hid ((hP7.out.mono (G := fun b => b ≠ g13) fun b hb _ => by omega).keep (Kept.of_below k14))
      have hbx := Lib.hid (chain hbx.out k14)
      have hb7 := Lib.hid (hb7.out.below k14)
      have hP7 := Lib.hid (hP7.out.keep (Kept.of_below k14))
      have hC14 : ExC W14 Any_ (.bin G.data.toList (.bin F.data.toList (V 117) (V 118)) (V 119)) [.string G, .int .u32 0, .string ⟨#[]⟩, .slice (some D2) 2 2] := hC2.keep (Kept.of_below hl14)
      replace hb14 := Lib.hid hb14
      replace hC14 := Lib.hid hC14
      clear hb8 hb9 hb10 hb11 hb12 hb13 hl14 k14 k12 z12 hC1 hC2 c5 c6
      have dlt : decide ((lf : Int) < (lg : Int)) = false := decide_eq_false (by omega)
      clear hlt
      go_wp2_with fail
      refine (cL1.out _).mono ?_
      rintro e w15 ⟨rfl, rfl⟩
      go_wp2_with fail
      refine (cL2.out _).mono ?_
      rintro e w15 ⟨rfl, rfl⟩
      clear u0 u1 u2 u3 f0 f1 f2 f3 hW13 hg13 hW14
      obtain ⟨x0, x1, x2, _, _, _⟩ := pg_box hb7.out
      obtain ⟨y0, y1, y2, y3, _, _, _, _⟩ := ex_box hb14.out
      have hlt7 := hb7.out.lt
      have hlt14 := hb14.out.lt
      have ld0 : ∀ W, Below W14.heap.size W14 W → W.cell? ⟨g6, 0, none⟩ = some (.slice Va 0 cv) := fun W h => (h.cell (p := ⟨g6, 0, none⟩) hlt7).trans x0
      have ld1 : ∀ W, Below W14.heap.size W14 W → W.cell? ⟨g6, 1, none⟩ = some (.slice Aa 0 ca) := fun W h => (h.cell (p := ⟨g6, 1, none⟩) hlt7).trans x1
      have ld2 : ∀ W, Below W14.heap.size W14 W → W.cell? ⟨g6, 2, none⟩ = some (.slice Ea 1 ce) := fun W h => (h.cell (p := ⟨g6, 2, none⟩) hlt7).trans x2
      have le0 : ∀ W, Below W14.heap.size W14 W → W.cell? ⟨g13, 0, none⟩ = some (.string G) := fun W h => (h.cell (p := ⟨g13, 0, none⟩) hlt14).trans y0
      have le1 : ∀ W, Below W14.heap.size W14 W → W.cell? ⟨g13, 1, none⟩ = some (.int .u32 0) := fun W h => (h.cell (p := ⟨g13, 1, none⟩) hlt14).trans y1
      have le2 : ∀ W, Below W14.heap.size W14 W → W.cell? ⟨g13, 2, none⟩ = some (.string ⟨#[]⟩) := fun W h => (h.cell (p := ⟨g13, 2, none⟩) hlt14).trans y2
      have le3 : ∀ W, Below W14.heap.size W14 W → W.cell? ⟨g13, 3, none⟩ = some (.slice (some D2) 2 2) := fun W h => (h.cell (p := ⟨g13, 3, none⟩) hlt14).trans y3
      have cA := Lib.hid (fun (W : World) (h : Below W14.heap.size W14 W) => lassigned_any W (hC14.out.keep (Kept.of_below h)))
      have cE := Lib.hid (fun (W : World) (D : Addr) (hd : PgM W Any_ (assigned (.bin G.data.toList (.bin F.data.toList (V 117) (V 118)) (V 119))) none none (some D) 0 0 1) (h : Below W14.heap.size W14 W) => Equal_use (hP7.out.keep (Kept.of_below h)) hd hwf (lv := 0) (la := 0) (lf := 1) rfl rfl rfl)
      have keep0 := Below.refl W14.heap.size W14
      have keep1 : ∀ W, Below W14.heap.size W14 W → Below W14.heap.size W14 (World.drew W) := fun W h => h.drew
      clear hb7 hb14 hP7 hC14 x0 x1 x2 y0 y1 y2 y3 hlt7 hlt14
      go_wp2_with fail
      go_region_held3 (fun W => Below W14.heap.size W14 W) (first | exact keep0 | exact keep1 _ keep0 | assumption | exact keep1 _ ‹_› | exact chain keep0 ‹_› | exact chain (keep1 _ keep0) ‹_› | exact chain ‹_› ‹_›) (first | (go_at_call 27; (with_reducible refine (cA.out _ (by first | exact keep0 | exact keep1 _ keep0 | assumption | exact keep1 _ ‹_›)).mono ?_); rintro e w30 ⟨D5, rfl, hP30, hb30⟩) | (go_at_call 18; (with_reducible refine (cE.out _ _ (by first | assumption | exact pg_drew ‹_›) (by first | assumption | exact keep1 _ ‹_› | exact chain keep0 ‹_› | exact chain (keep1 _ keep0) ‹_› | exact chain ‹_› ‹_›)).mono ?_); rintro e w31 ⟨rfl, hb31⟩))
      have hfin := Lib.hid (chain hbx.out (show Below W14.heap.size W14 w31 by first | assumption | exact chain ‹_› ‹_›))
      go_wp2
      first | go_ret | go_ret2 | skip
      exact ⟨rfl, hfin.out⟩
/-- The same at what the reading says. -/
theorem row_prec (x z : Int) (w : World) (hL : Laid w) (q0 : (Lit.int .u8 x).wf = true) (q1 : (Lit.int .u8 z).wf = true) : Calls Tryz.prog 8 #[.int .u8 x, .int .u8 z] w fun e w' => e = .returned (.bool true) ∧ Below w.heap.size w w' := by
  have h0 : 0 ≤ x ∧ x ≤ 255 := (Lit.wf_int_iff .u8 _).1 q0
  have h1 : 0 ≤ z ∧ z ≤ 255 := (Lit.wf_int_iff .u8 _).1 q1
  obtain ⟨a, rfl⟩ : ∃ a : Nat, x = (a : Int) := ⟨x.toNat, by omega⟩
  obtain ⟨b, rfl⟩ : ∃ b : Nat, z = (b : Int) := ⟨z.toNat, by omega⟩
  exact walk_prec a b (by omega) (by omega) w hL
end Go.Proofs.YtpbcncfbfbghcaaGreatDoor.L20
