/- Equal expressions, as the landed code finds out (layer 20). Equal statements, as the landed code finds out (layer 20). Equal programs, as the landed code finds out (layer 20). -/
import Derived.Test.YtpbcncfbfbghcaaGreatDoorP20O
import Derived.Test.YtpbcncfbfbghcaaGreatDoorP20N
import Derived.Laws.StructEq
import Derived.BigQuiet
import Derived.Deep.QuietTactic
namespace Go.Proofs.YtpbcncfbfbghcaaGreatDoor.L20
set_option maxRecDepth 100000
open Go.RowKit Mem L19
set_option linter.unusedVariables false
set_option linter.unusedSimpArgs false

set_option maxHeartbeats 4000000 in
theorem eqLists_of {a b : Value} {w : World} {Q : Ending → World → Prop} (hQ : ∀ e w', Q e w' → ∃ v, e = .returned v) (h : Calls Tryz.prog 168 #[a, b, .func (Go.Fn.func 169) #[] #[]] w Q) : Calls Tryz.prog 141 #[a, b] w Q := by
  replace h := Lib.hid h
  replace hQ := Lib.hid hQ
  go_enter Tryz.func141, Tryz.ntmps141
  go_wp2_with fail
  refine (h.out).mono ?_
  intro e w' hq
  obtain ⟨v, rfl⟩ := hQ.out e w' hq
  replace hq := Lib.hid hq
  go_wp2
  exact hq.out
set_option maxHeartbeats 4000000 in
theorem eqExpr_of {S1 V1 S3 V3 : ByteArray} {zx zy : Int} {A B : Option Addr} {la lb ca cb : Nat} {w : World} {c1 c2 c3 bk : Bool} (h1 : (S1.toList == V1.toList) = c1) (h2 : (zx == zy) = c2) (h3 : (S3.toList == V3.toList) = c3)
    (hk : ∀ W, Below w.heap.size w W → Calls Tryz.prog 141 #[.slice A la ca, .slice B lb cb] W fun e w' => e = .returned (.bool bk) ∧ Below W.heap.size W w') :
    Calls Tryz.prog 169 #[.agg #[.string S1, .int .u32 zx, .string S3, .slice A la ca], .agg #[.string V1, .int .u32 zy, .string V3, .slice B lb cb]] w fun e w' => e = .returned (.bool (c1 && (c2 && (c3 && bk)))) ∧ Below w.heap.size w w' := by
  obtain ⟨W2, g2, hW2, hg2, hb2, hl2⟩ := box_new w [.string S1, .int .u32 zx, .string S3, .slice A la ca] 51
  obtain ⟨W3, g3, hW3, hg3, hb3, hl3⟩ := box_new W2 [.string V1, .int .u32 zy, .string V3, .slice B lb cb] 51
  have hl := chain hl2 hl3
  have hb2 := hb2.below hl3
  have x0 := hb2.cell 0
  have x1 := hb2.cell 1
  have x2 := hb2.cell 2
  have x3 := hb2.cell 3
  have y0 := hb3.cell 0
  have y1 := hb3.cell 1
  have y2 := hb3.cell 2
  have y3 := hb3.cell 3
  simp only [List.getElem?_cons_zero, List.getElem?_cons_succ] at x0 x1 x2 x3 y0 y1 y2 y3
  have c := Lib.hid (hk W3 hl)
  have fin := Lib.hid (fun W (h : Below W3.heap.size W3 W) => chain hl h)
  have fin0 := Lib.hid hl
  clear hk hl hl2 hl3 hb2 hb3
  cases c1 <;> cases c2 <;> cases c3
  case true.true.true =>
    go_enter Tryz.func169, Tryz.ntmps169
    go_wp2_with fail
    refine (c.out).mono ?_
    rintro e w' ⟨rfl, hb⟩
    go_wp2
    go_ret
    exact ⟨by simp, fin.out _ hb⟩
  all_goals
    go_enter Tryz.func169, Tryz.ntmps169
    go_wp2
    go_ret
    exact ⟨by simp, fin0.out⟩
set_option maxHeartbeats 8000000 in
theorem eqExprs_of {A B : Option Addr} {ca cb : Nat} {F G : Nat → Prop} {l r : List Exp} {w : World} (hA : Exs w F l A ca) (hB : Exs w G r B cb) {n m : Nat} (hn : l.length = n) (hm : r.length = m) {bq : Bool} (hbq : bq = true ↔ l = r)
    (one : ∀ (k : Nat) (x y : Exp), l[k]? = some x → r[k]? = some y → ∃ bk : Bool, (bk = true ↔ x = y) ∧ ∀ (A' B' : Option Addr) (ca' cb' : Nat) W, Below w.heap.size w W → Exs w F x.kids A' ca' → Exs w G y.kids B' cb' →
      Calls Tryz.prog 169 #[.agg #[strV x.opS, .int .u32 (x.numI : Int), strV x.nam, .slice A' x.kids.length ca'], .agg #[strV y.opS, .int .u32 (y.numI : Int), strV y.nam, .slice B' y.kids.length cb']] W fun e w' => e = .returned (.bool bk) ∧ Below W.heap.size W w') :
    Calls Tryz.prog 168 #[.slice A n ca, .slice B m cb, .func (Go.Fn.func 169) #[] #[]] w fun e w' => e = .returned (.bool bq) ∧ Below w.heap.size w w' := by
  have hml : maxLen = 9223372036854775807 := rfl
  have hle := Exs.le hA
  have hle3 := Exs.le hB
  rw [hml] at hle hle3
  by_cases e : n = m
  · subst e
    have hga := Lib.hid (fun (k : Nat) (x : Exp) (hk : l[k]? = some x) => Exs.at hA hk)
    have hgb := Lib.hid (fun (k : Nat) (x : Exp) (hk : r[k]? = some x) => Exs.at hB hk)
    have hyes := Lib.hid (fun (h : l.take n = r.take n) => show bq = true by rw [hbq]; exact take_eq h hn hm)
    have hno := Lib.hid (fun (k : Nat) (x y : Exp) (h1 : l[k]? = some x) (h2 : r[k]? = some y) (h : x ≠ y) => show bq = false by rw [← Bool.not_eq_true, hbq]; exact take_diff h1 h2 h)
    have d0 : ((n : Int) != (n : Int)) = false := by simp
    clear hA hB hbq
    replace one := Lib.hid one
    go_enter Tryz.func168, Tryz.ntmps168
    go_wp2
    go_loopw [17] (fun iv wr => ∃ (k : Nat), iv = .int .i64 (k : Int) ∧ k ≤ n ∧ Hid (l.take k = r.take k) ∧ Hid (Below w.heap.size w wr)) (fun iv _ => n - (intOf iv).toNat)
    case atStart => exact ⟨0, rfl, Nat.zero_le _, Lib.hid (by simp), Lib.hid (Below.refl _ _)⟩
    case round =>
      obtain ⟨k, rfl, hk, hI, hw⟩ := hrel
      by_cases hlt : k < n
      · have dk : decide ((k : Int) < (n : Int)) = true := decide_eq_true (by omega)
        have k0 : (0 : Int) ≤ (k : Int) := by omega
        have k1 : (k : Int) < (n : Int) := by omega
        have k2 : (k : Int) + 1 ≤ 9223372036854775807 := by omega
        obtain ⟨x, hT⟩ : ∃ x, l[k]? = some x := ⟨_, List.getElem?_eq_getElem (by omega)⟩
        obtain ⟨y, hU⟩ : ∃ x, r[k]? = some x := ⟨_, List.getElem?_eq_getElem (by omega)⟩
        obtain ⟨b1, o1, A', ca', rfl, _, hl1', kx, p1, p2, p3, p4⟩ := hga.out k _ hT
        obtain ⟨b2, o2, B', cb', rfl, _, hl2', ky, q1, q2, q3, q4⟩ := hgb.out k _ hU
        have hs : x = y → l.take (k + 1) = r.take (k + 1) := fun h => take_same hI.out hT (by rw [hU, h])
        have hn' : x ≠ y → bq = false := hno.out k _ _ hT hU
        obtain ⟨bk, hbk, hone⟩ := one.out k x y hT hU
        replace hone := fun W hW => hone A' B' ca' cb' W hW kx ky
        unfold strV at p1 q1 p3 q3 hone
        obtain ⟨S1, hS1⟩ : ∃ S : ByteArray, ⟨x.opS.toArray⟩ = S := ⟨_, rfl⟩
        obtain ⟨V1, hV1⟩ : ∃ S : ByteArray, ⟨y.opS.toArray⟩ = S := ⟨_, rfl⟩
        obtain ⟨S3, hS3⟩ : ∃ S : ByteArray, ⟨x.nam.toArray⟩ = S := ⟨_, rfl⟩
        obtain ⟨V3, hV3⟩ : ∃ S : ByteArray, ⟨y.nam.toArray⟩ = S := ⟨_, rfl⟩
        obtain ⟨zx, hzx⟩ : ∃ z : Int, (x.numI : Int) = z := ⟨_, rfl⟩
        obtain ⟨zy, hzy⟩ : ∃ z : Int, (y.numI : Int) = z := ⟨_, rfl⟩
        obtain ⟨lx, hlx⟩ : ∃ lx, x.kids.length = lx := ⟨_, rfl⟩
        obtain ⟨ly, hly⟩ : ∃ lx, y.kids.length = lx := ⟨_, rfl⟩
        rw [hS1] at p1
        rw [hV1] at q1
        rw [hzx] at p2
        rw [hzy] at q2
        rw [hS3] at p3
        rw [hV3] at q3
        rw [hlx] at p4
        rw [hly] at q4
        rw [hS1, hV1, hS3, hV3, hzx, hzy, hlx, hly] at hone
        clear hS1 hV1 hS3 hV3 hzx hzy hlx hly
        obtain ⟨W2, g2, hW2, hg2, hb2, hl2⟩ := box_new wr [.string S1, .int .u32 zx, .string S3, .slice A' lx ca'] 51
        obtain ⟨W3, g3, hW3, hg3, hb3, hl3⟩ := box_new W2 [.string V1, .int .u32 zy, .string V3, .slice B' ly cb'] 51
        have mv : ∀ (b o : Nat) (v : Value), b < w.heap.size → w.cell? ⟨b, o, none⟩ = some v → wr.cell? ⟨b, o, none⟩ = some v := fun b o v hb h => ((Kept.of_below (F := fun _ => True) hw.out).cell trivial hb).trans h
        have mv2 : ∀ (b o : Nat) (v : Value), b < w.heap.size → w.cell? ⟨b, o, none⟩ = some v → W2.cell? ⟨b, o, none⟩ = some v := fun b o v hb h => ((Kept.of_below (F := fun _ => True) hl2).cell trivial (Nat.lt_of_lt_of_le hb hw.out.size)).trans (mv b o v hb h)
        have p1 := mv _ _ _ hl1' p1
        have p2 := mv _ _ _ hl1' p2
        have p3 := mv _ _ _ hl1' p3
        have p4 := mv _ _ _ hl1' p4
        have q1 := mv2 _ _ _ hl2' q1
        have q2 := mv2 _ _ _ hl2' q2
        have q3 := mv2 _ _ _ hl2' q3
        have q4 := mv2 _ _ _ hl2' q4
        have hl := chain hl2 hl3
        have hlw := Lib.hid (chain hw.out hl)
        have c := Lib.hid (hone W3 hlw.out)
        have hb2 := hb2.below hl3
        have x0 := hb2.cell 0
        have y0 := hb3.cell 0
        have x1 := hb2.cell 1
        have y1 := hb3.cell 1
        have x2 := hb2.cell 2
        have y2 := hb3.cell 2
        have x3 := hb2.cell 3
        have y3 := hb3.cell 3
        simp only [List.getElem?_cons_zero, List.getElem?_cons_succ] at x0 x1 x2 x3 y0 y1 y2 y3
        clear mv mv2 hga hgb hno hI hT hU hb2 hb3 hl hl2 hl3 hone kx ky
        rcases bk with _ | _
        · have hfin := Lib.hid (hn' (fun h => by have := hbk.2 h; cases this))
          clear hs hn' hbk hyes
          go_wp2_with fail
          refine (c.out).mono ?_
          rintro e w' ⟨rfl, hb⟩
          replace hlw := Lib.hid (chain hlw.out hb)
          clear c hb
          go_wp2
          go_ret
          exact ⟨ret_bool hfin.out.symm, hlw.out⟩
        · have hs2 := Lib.hid (hs (hbk.1 rfl))
          clear hs hn' hbk hyes
          go_wp2_with fail
          refine (c.out).mono ?_
          rintro e w' ⟨rfl, hb⟩
          replace hlw := Lib.hid (chain hlw.out hb)
          clear c hb
          go_wp2
          go_roundw
          case rel => exact ⟨k + 1, by go_num, by omega, hs2, hlw⟩
          case measure => simp [intOf]; omega
      · obtain rfl : k = n := by omega
        have dk : decide ((k : Int) < (k : Int)) = false := decide_eq_false (by omega)
        have hfin := Lib.hid (hyes.out hI.out)
        clear hyes hno hga hgb hI
        go_wp2
        go_ret
        exact ⟨ret_bool hfin.out.symm, hw.out⟩
  · have t1 : ((n : Int) != (m : Int)) = true := bne_iff_ne.2 (by omega)
    have hne : Hid (bq = false) := Lib.hid (by rw [← Bool.not_eq_true, hbq]; exact fun h => e (by rw [← hn, ← hm, h]))
    clear hA hB e hbq one
    go_enter Tryz.func168, Tryz.ntmps168
    go_wp2
    go_ret
    exact ⟨ret_bool hne.out.symm, Below.refl _ _⟩
theorem eqExprs : ∀ (d : Nat) {A B : Option Addr} {ca cb : Nat} {F G : Nat → Prop} {l r : List Exp} {w : World} (hd : szL l < d) (hA : Exs w F l A ca) (hB : Exs w G r B cb) (wl : WfL l) (wr' : WfL r) {n m : Nat} (hn : l.length = n) (hm : r.length = m) {bq : Bool} (hbq : bq = true ↔ l = r),
    Calls Tryz.prog 168 #[.slice A n ca, .slice B m cb, .func (Go.Fn.func 169) #[] #[]] w fun e w' => e = .returned (.bool bq) ∧ Below w.heap.size w w' := by
  intro d
  induction d with
  | zero => intro A B ca cb F G l r w hd; omega
  | succ d ih =>
  intro A B ca cb F G l r w hd hA hB wl wr' n m hn hm bq hbq
  refine eqExprs_of hA hB hn hm hbq fun k x y hx hy => ?_
  have wx := wl x (List.mem_of_getElem? hx)
  have wy := wr' y (List.mem_of_getElem? hy)
  have hsz := sz_mem l k x hx
  have hsk := sz_kids x
  obtain ⟨bk, hbk⟩ := ex_bool (x.kids = y.kids)
  refine ⟨decide (x.opS = y.opS) && (decide (x.numI = y.numI) && (decide (x.nam = y.nam) && bk)), ?_, fun A' B' ca' cb' W hW kx ky => ?_⟩
  · rw [Bool.and_eq_true, Bool.and_eq_true, Bool.and_eq_true, decide_eq_true_iff, decide_eq_true_iff, decide_eq_true_iff, hbk]
    exact ⟨fun h => opS_inj wx wy h.1 h.2.1 h.2.2.1 h.2.2.2, fun h => by subst h; exact ⟨rfl, rfl, rfl, rfl⟩⟩
  · refine eqExpr_of (str_inj2 _ _) (by rw [Bool.eq_iff_iff, beq_iff_eq, decide_eq_true_iff]; omega) (str_inj2 _ _) fun W2 hW2 => ?_
    have hb := chain hW hW2
    exact eqLists_of (fun e w' h => ⟨_, h.1⟩) (ih (by omega) (kx.keep (Kept.of_below hb)) (ky.keep (Kept.of_below hb)) (wf_kids wx) (wf_kids wy) rfl rfl hbk)
end Go.Proofs.YtpbcncfbfbghcaaGreatDoor.L20
namespace Go.Proofs.YtpbcncfbfbghcaaGreatDoor.L20
set_option maxRecDepth 100000
open Go.RowKit Mem L19
set_option linter.unusedVariables false
set_option linter.unusedSimpArgs false

set_option maxHeartbeats 4000000 in
theorem eqBlocks_of {a b : Value} {w : World} {Q : Ending → World → Prop} (hQ : ∀ e w', Q e w' → ∃ v, e = .returned v) (h : Calls Tryz.prog 114 #[a, b, .func (Go.Fn.func 115) #[] #[]] w Q) : Calls Tryz.prog 75 #[a, b] w Q := by
  replace h := Lib.hid h
  replace hQ := Lib.hid hQ
  go_enter Tryz.func75, Tryz.ntmps75
  go_wp2_with fail
  refine (h.out).mono ?_
  intro e w' hq
  obtain ⟨v, rfl⟩ := hQ.out e w' hq
  replace hq := Lib.hid hq
  go_wp2
  exact hq.out
set_option maxHeartbeats 4000000 in
theorem eqStmt_of {S1 V1 : ByteArray} {zx zy : Int} {I I2 : Option Addr} {lI cI mI dI : Nat} {V V2 : Option Addr} {lV cV mV dV : Nat} {T T2 : Option Addr} {lT cT mT dT : Nat} {E E2 : Option Addr} {lE cE mE dE : Nat} {c1 c2 bI bV bT bE : Bool} {w : World}
    (h1 : (zx == zy) = c1) (h2 : (S1.toList == V1.toList) = c2)
    (kI : ∀ W, Below w.heap.size w W → Calls Tryz.prog 141 #[.slice I lI cI, .slice I2 mI dI] W fun e w' => e = .returned (.bool bI) ∧ Below W.heap.size W w')
    (kV : ∀ W, Below w.heap.size w W → Calls Tryz.prog 141 #[.slice V lV cV, .slice V2 mV dV] W fun e w' => e = .returned (.bool bV) ∧ Below W.heap.size W w')
    (kT : ∀ W, Below w.heap.size w W → Calls Tryz.prog 75 #[.slice T lT cT, .slice T2 mT dT] W fun e w' => e = .returned (.bool bT) ∧ Below W.heap.size W w')
    (kE : ∀ W, Below w.heap.size w W → Calls Tryz.prog 75 #[.slice E lE cE, .slice E2 mE dE] W fun e w' => e = .returned (.bool bE) ∧ Below W.heap.size W w') :
    Calls Tryz.prog 115 #[.agg #[.int .i64 zx, .string S1, .slice I lI cI, .slice V lV cV, .slice T lT cT, .slice E lE cE], .agg #[.int .i64 zy, .string V1, .slice I2 mI dI, .slice V2 mV dV, .slice T2 mT dT, .slice E2 mE dE]] w fun e w' => e = .returned (.bool (c1 && (c2 && (bI && (bV && (bT && bE)))))) ∧ Below w.heap.size w w' := by
  obtain ⟨W2, g2, hW2, hg2, hb2, hl2⟩ := box_new w [.int .i64 zx, .string S1, .slice I lI cI, .slice V lV cV, .slice T lT cT, .slice E lE cE] 104
  obtain ⟨W3, g3, hW3, hg3, hb3, hl3⟩ := box_new W2 [.int .i64 zy, .string V1, .slice I2 mI dI, .slice V2 mV dV, .slice T2 mT dT, .slice E2 mE dE] 104
  have hl := chain hl2 hl3
  have hb2 := hb2.below hl3
  have x0 := hb2.cell 0
  have y0 := hb3.cell 0
  have x1 := hb2.cell 1
  have y1 := hb3.cell 1
  have x2 := hb2.cell 2
  have y2 := hb3.cell 2
  have x3 := hb2.cell 3
  have y3 := hb3.cell 3
  have x4 := hb2.cell 4
  have y4 := hb3.cell 4
  have x5 := hb2.cell 5
  have y5 := hb3.cell 5
  simp only [List.getElem?_cons_zero, List.getElem?_cons_succ] at x0 y0 x1 y1 x2 y2 x3 y3 x4 y4 x5 y5
  replace kI := Lib.hid kI
  replace kV := Lib.hid kV
  replace kT := Lib.hid kT
  replace kE := Lib.hid kE
  have h0 := Lib.hid hl
  have l2 : g2 < W3.heap.size := hb2.lt
  have l3 : g3 < W3.heap.size := hb3.lt
  clear hl hl2 hl3 hb2 hb3
  cases c1
  case false =>
    go_enter Tryz.func115, Tryz.ntmps115
    go_wp2
    go_ret
    exact ⟨by simp, h0.out⟩
  cases c2
  case false =>
    go_enter Tryz.func115, Tryz.ntmps115
    go_wp2
    go_ret
    exact ⟨by simp, h0.out⟩
  go_enter Tryz.func115, Tryz.ntmps115
  go_wp2_with fail
  refine (kI.out _ h0.out).mono ?_
  rintro e w4 ⟨rfl, hb⟩
  have h1 := Lib.hid (chain h0.out hb)
  have kb := Kept.of_below (F := fun _ => True) hb
  have x0 := (kb.cell trivial l2).trans x0
  have y0 := (kb.cell trivial l3).trans y0
  have x1 := (kb.cell trivial l2).trans x1
  have y1 := (kb.cell trivial l3).trans y1
  have x2 := (kb.cell trivial l2).trans x2
  have y2 := (kb.cell trivial l3).trans y2
  have x3 := (kb.cell trivial l2).trans x3
  have y3 := (kb.cell trivial l3).trans y3
  have x4 := (kb.cell trivial l2).trans x4
  have y4 := (kb.cell trivial l3).trans y4
  have x5 := (kb.cell trivial l2).trans x5
  have y5 := (kb.cell trivial l3).trans y5
  replace l2 := Nat.lt_of_lt_of_le l2 hb.size
  replace l3 := Nat.lt_of_lt_of_le l3 hb.size
  clear hb kb h0 kI
  cases bI
  case false =>
    go_wp2
    go_ret
    exact ⟨by simp, h1.out⟩
  go_wp2_with fail
  refine (kV.out _ h1.out).mono ?_
  rintro e w5 ⟨rfl, hb⟩
  have h2 := Lib.hid (chain h1.out hb)
  have kb := Kept.of_below (F := fun _ => True) hb
  have x0 := (kb.cell trivial l2).trans x0
  have y0 := (kb.cell trivial l3).trans y0
  have x1 := (kb.cell trivial l2).trans x1
  have y1 := (kb.cell trivial l3).trans y1
  have x2 := (kb.cell trivial l2).trans x2
  have y2 := (kb.cell trivial l3).trans y2
  have x3 := (kb.cell trivial l2).trans x3
  have y3 := (kb.cell trivial l3).trans y3
  have x4 := (kb.cell trivial l2).trans x4
  have y4 := (kb.cell trivial l3).trans y4
  have x5 := (kb.cell trivial l2).trans x5
  have y5 := (kb.cell trivial l3).trans y5
  replace l2 := Nat.lt_of_lt_of_le l2 hb.size
  replace l3 := Nat.lt_of_lt_of_le l3 hb.size
  clear hb kb h1 kV
  cases bV
  case false =>
    go_wp2
    go_ret
    exact ⟨by simp, h2.out⟩
  go_wp2_with fail
  refine (kT.out _ h2.out).mono ?_
  rintro e w6 ⟨rfl, hb⟩
  have h3 := Lib.hid (chain h2.out hb)
  have kb := Kept.of_below (F := fun _ => True) hb
  have x0 := (kb.cell trivial l2).trans x0
  have y0 := (kb.cell trivial l3).trans y0
  have x1 := (kb.cell trivial l2).trans x1
  have y1 := (kb.cell trivial l3).trans y1
  have x2 := (kb.cell trivial l2).trans x2
  have y2 := (kb.cell trivial l3).trans y2
  have x3 := (kb.cell trivial l2).trans x3
  have y3 := (kb.cell trivial l3).trans y3
  have x4 := (kb.cell trivial l2).trans x4
  have y4 := (kb.cell trivial l3).trans y4
  have x5 := (kb.cell trivial l2).trans x5
  have y5 := (kb.cell trivial l3).trans y5
  replace l2 := Nat.lt_of_lt_of_le l2 hb.size
  replace l3 := Nat.lt_of_lt_of_le l3 hb.size
  clear hb kb h2 kT
  cases bT
  case false =>
    go_wp2
    go_ret
    exact ⟨by simp, h3.out⟩
  go_wp2_with fail
  refine (kE.out _ h3.out).mono ?_
  rintro e w7 ⟨rfl, hb⟩
  have h4 := Lib.hid (chain h3.out hb)
  clear hb h3 kE
  go_wp2
  go_ret
  exact ⟨by simp, h4.out⟩
set_option maxHeartbeats 8000000 in
theorem eqStmts_of {A B : Option Addr} {ca cb : Nat} {F G : Nat → Prop} {l r : List Sta} {w : World} (hA : Sts w F l A ca) (hB : Sts w G r B cb) {n m : Nat} (hn : l.length = n) (hm : r.length = m) {bq : Bool} (hbq : bq = true ↔ l = r)
    (one : ∀ (k : Nat) (x y : Sta), l[k]? = some x → r[k]? = some y → ∃ bk : Bool, (bk = true ↔ x = y) ∧ ∀ (I V T E I2 V2 T2 E2 : Option Addr) (cI cV cT cE cI2 cV2 cT2 cE2 : Nat) W, Below w.heap.size w W → Exs w F x.idx I cI → Exs w F x.val V cV → Sts w F x.thn T cT → Sts w F x.els E cE → Exs w G y.idx I2 cI2 → Exs w G y.val V2 cV2 → Sts w G y.thn T2 cT2 → Sts w G y.els E2 cE2 →
      Calls Tryz.prog 115 #[.agg #[.int .i64 (x.kind : Int), strV x.nam, .slice I x.idx.length cI, .slice V x.val.length cV, .slice T x.thn.length cT, .slice E x.els.length cE], .agg #[.int .i64 (y.kind : Int), strV y.nam, .slice I2 y.idx.length cI2, .slice V2 y.val.length cV2, .slice T2 y.thn.length cT2, .slice E2 y.els.length cE2]] W fun e w' => e = .returned (.bool bk) ∧ Below W.heap.size W w') :
    Calls Tryz.prog 114 #[.slice A n ca, .slice B m cb, .func (Go.Fn.func 115) #[] #[]] w fun e w' => e = .returned (.bool bq) ∧ Below w.heap.size w w' := by
  have hml : maxLen = 9223372036854775807 := rfl
  have hle := Sts.le hA
  have hle3 := Sts.le hB
  rw [hml] at hle hle3
  by_cases e : n = m
  · subst e
    have hga := Lib.hid (fun (k : Nat) (x : Sta) (hk : l[k]? = some x) => Sts.at hA hk)
    have hgb := Lib.hid (fun (k : Nat) (x : Sta) (hk : r[k]? = some x) => Sts.at hB hk)
    have hyes := Lib.hid (fun (h : l.take n = r.take n) => show bq = true by rw [hbq]; exact take_eq h hn hm)
    have hno := Lib.hid (fun (k : Nat) (x y : Sta) (h1 : l[k]? = some x) (h2 : r[k]? = some y) (h : x ≠ y) => show bq = false by rw [← Bool.not_eq_true, hbq]; exact take_diff h1 h2 h)
    have d0 : ((n : Int) != (n : Int)) = false := by simp
    clear hA hB hbq
    replace one := Lib.hid one
    go_enter Tryz.func114, Tryz.ntmps114
    go_wp2
    go_loopw [17] (fun iv wr => ∃ (k : Nat), iv = .int .i64 (k : Int) ∧ k ≤ n ∧ Hid (l.take k = r.take k) ∧ Hid (Below w.heap.size w wr)) (fun iv _ => n - (intOf iv).toNat)
    case atStart => exact ⟨0, rfl, Nat.zero_le _, Lib.hid (by simp), Lib.hid (Below.refl _ _)⟩
    case round =>
      obtain ⟨k, rfl, hk, hI, hw⟩ := hrel
      by_cases hlt : k < n
      · have dk : decide ((k : Int) < (n : Int)) = true := decide_eq_true (by omega)
        have k0 : (0 : Int) ≤ (k : Int) := by omega
        have k1 : (k : Int) < (n : Int) := by omega
        have k2 : (k : Int) + 1 ≤ 9223372036854775807 := by omega
        obtain ⟨x, hT⟩ : ∃ x, l[k]? = some x := ⟨_, List.getElem?_eq_getElem (by omega)⟩
        obtain ⟨y, hU⟩ : ∃ x, r[k]? = some x := ⟨_, List.getElem?_eq_getElem (by omega)⟩
        obtain ⟨b1, o1, I, V, T, E, cI, cV, cT, cE, rfl, _, hl1', kx1, kx2, kx3, kx4, g⟩ := hga.out k _ hT
        obtain ⟨b2, o2, I2, V2, T2, E2, cI2, cV2, cT2, cE2, rfl, _, hl2', ky1, ky2, ky3, ky4, g'⟩ := hgb.out k _ hU
        have hs : x = y → l.take (k + 1) = r.take (k + 1) := fun h => take_same hI.out hT (by rw [hU, h])
        have hn' : x ≠ y → bq = false := hno.out k _ _ hT hU
        obtain ⟨bk, hbk, hone⟩ := one.out k x y hT hU
        replace hone := fun W hW => hone I V T E I2 V2 T2 E2 cI cV cT cE cI2 cV2 cT2 cE2 W hW kx1 kx2 kx3 kx4 ky1 ky2 ky3 ky4
        have p0 := g 0 _ rfl
        have q0 := g' 0 _ rfl
        have p1 := g 1 _ rfl
        have q1 := g' 1 _ rfl
        have p2 := g 2 _ rfl
        have q2 := g' 2 _ rfl
        have p3 := g 3 _ rfl
        have q3 := g' 3 _ rfl
        have p4 := g 4 _ rfl
        have q4 := g' 4 _ rfl
        have p5 := g 5 _ rfl
        have q5 := g' 5 _ rfl
        simp only [← Nat.add_assoc, Nat.add_zero] at p0 q0 p1 q1 p2 q2 p3 q3 p4 q4 p5 q5
        unfold strV at p1 q1 hone
        obtain ⟨S1, hS1⟩ : ∃ S : ByteArray, ⟨x.nam.toArray⟩ = S := ⟨_, rfl⟩
        obtain ⟨V1, hV1⟩ : ∃ S : ByteArray, ⟨y.nam.toArray⟩ = S := ⟨_, rfl⟩
        obtain ⟨zx, hzx⟩ : ∃ z : Int, (x.kind : Int) = z := ⟨_, rfl⟩
        obtain ⟨zy, hzy⟩ : ∃ z : Int, (y.kind : Int) = z := ⟨_, rfl⟩
        obtain ⟨lI, hlI⟩ : ∃ z, x.idx.length = z := ⟨_, rfl⟩
        obtain ⟨mI, hmI⟩ : ∃ z, y.idx.length = z := ⟨_, rfl⟩
        obtain ⟨lV, hlV⟩ : ∃ z, x.val.length = z := ⟨_, rfl⟩
        obtain ⟨mV, hmV⟩ : ∃ z, y.val.length = z := ⟨_, rfl⟩
        obtain ⟨lT, hlT⟩ : ∃ z, x.thn.length = z := ⟨_, rfl⟩
        obtain ⟨mT, hmT⟩ : ∃ z, y.thn.length = z := ⟨_, rfl⟩
        obtain ⟨lE, hlE⟩ : ∃ z, x.els.length = z := ⟨_, rfl⟩
        obtain ⟨mE, hmE⟩ : ∃ z, y.els.length = z := ⟨_, rfl⟩
        rw [hzx] at p0
        rw [hzy] at q0
        rw [hS1] at p1
        rw [hV1] at q1
        rw [hlI] at p2
        rw [hmI] at q2
        rw [hlV] at p3
        rw [hmV] at q3
        rw [hlT] at p4
        rw [hmT] at q4
        rw [hlE] at p5
        rw [hmE] at q5
        rw [hzx, hzy, hS1, hV1, hlI, hmI, hlV, hmV, hlT, hmT, hlE, hmE] at hone
        clear hzx hzy hS1 hV1 hlI hmI hlV hmV hlT hmT hlE hmE g g'
        obtain ⟨W2, g2, hW2, hg2, hb2, hl2⟩ := box_new wr [.int .i64 zx, .string S1, .slice I lI cI, .slice V lV cV, .slice T lT cT, .slice E lE cE] 104
        obtain ⟨W3, g3, hW3, hg3, hb3, hl3⟩ := box_new W2 [.int .i64 zy, .string V1, .slice I2 mI cI2, .slice V2 mV cV2, .slice T2 mT cT2, .slice E2 mE cE2] 104
        have mv : ∀ (b o : Nat) (v : Value), b < w.heap.size → w.cell? ⟨b, o, none⟩ = some v → wr.cell? ⟨b, o, none⟩ = some v := fun b o v hb h => ((Kept.of_below (F := fun _ => True) hw.out).cell trivial hb).trans h
        have mv2 : ∀ (b o : Nat) (v : Value), b < w.heap.size → w.cell? ⟨b, o, none⟩ = some v → W2.cell? ⟨b, o, none⟩ = some v := fun b o v hb h => ((Kept.of_below (F := fun _ => True) hl2).cell trivial (Nat.lt_of_lt_of_le hb hw.out.size)).trans (mv b o v hb h)
        have p0 := mv _ _ _ hl1' p0
        have p1 := mv _ _ _ hl1' p1
        have p2 := mv _ _ _ hl1' p2
        have p3 := mv _ _ _ hl1' p3
        have p4 := mv _ _ _ hl1' p4
        have p5 := mv _ _ _ hl1' p5
        have q0 := mv2 _ _ _ hl2' q0
        have q1 := mv2 _ _ _ hl2' q1
        have q2 := mv2 _ _ _ hl2' q2
        have q3 := mv2 _ _ _ hl2' q3
        have q4 := mv2 _ _ _ hl2' q4
        have q5 := mv2 _ _ _ hl2' q5
        have hl := chain hl2 hl3
        have hlw := Lib.hid (chain hw.out hl)
        have c := Lib.hid (hone W3 hlw.out)
        have hb2 := hb2.below hl3
        have x0 := hb2.cell 0
        have y0 := hb3.cell 0
        have x1 := hb2.cell 1
        have y1 := hb3.cell 1
        have x2 := hb2.cell 2
        have y2 := hb3.cell 2
        have x3 := hb2.cell 3
        have y3 := hb3.cell 3
        have x4 := hb2.cell 4
        have y4 := hb3.cell 4
        have x5 := hb2.cell 5
        have y5 := hb3.cell 5
        simp only [List.getElem?_cons_zero, List.getElem?_cons_succ] at x0 y0 x1 y1 x2 y2 x3 y3 x4 y4 x5 y5
        clear mv mv2 hga hgb hno hI hT hU hb2 hb3 hl hl2 hl3 hone kx1 kx2 kx3 kx4 ky1 ky2 ky3 ky4
        rcases bk with _ | _
        · have hfin := Lib.hid (hn' (fun h => by have := hbk.2 h; cases this))
          clear hs hn' hbk hyes
          go_wp2_with fail
          refine (c.out).mono ?_
          rintro e w' ⟨rfl, hb⟩
          replace hlw := Lib.hid (chain hlw.out hb)
          clear c hb
          go_wp2
          go_ret
          exact ⟨ret_bool hfin.out.symm, hlw.out⟩
        · have hs2 := Lib.hid (hs (hbk.1 rfl))
          clear hs hn' hbk hyes
          go_wp2_with fail
          refine (c.out).mono ?_
          rintro e w' ⟨rfl, hb⟩
          replace hlw := Lib.hid (chain hlw.out hb)
          clear c hb
          go_wp2
          go_roundw
          case rel => exact ⟨k + 1, by go_num, by omega, hs2, hlw⟩
          case measure => simp [intOf]; omega
      · obtain rfl : k = n := by omega
        have dk : decide ((k : Int) < (k : Int)) = false := decide_eq_false (by omega)
        have hfin := Lib.hid (hyes.out hI.out)
        clear hyes hno hga hgb hI
        go_wp2
        go_ret
        exact ⟨ret_bool hfin.out.symm, hw.out⟩
  · have t1 : ((n : Int) != (m : Int)) = true := bne_iff_ne.2 (by omega)
    have hne : Hid (bq = false) := Lib.hid (by rw [← Bool.not_eq_true, hbq]; exact fun h => e (by rw [← hn, ← hm, h]))
    clear hA hB e hbq one
    go_enter Tryz.func114, Tryz.ntmps114
    go_wp2
    go_ret
    exact ⟨ret_bool hne.out.symm, Below.refl _ _⟩
theorem eqStmts : ∀ (d : Nat) {A B : Option Addr} {ca cb : Nat} {F G : Nat → Prop} {l r : List Sta} {w : World} (hd : szT l < d) (hA : Sts w F l A ca) (hB : Sts w G r B cb) (wl : WfT l) (wr' : WfT r) {n m : Nat} (hn : l.length = n) (hm : r.length = m) {bq : Bool} (hbq : bq = true ↔ l = r),
    Calls Tryz.prog 114 #[.slice A n ca, .slice B m cb, .func (Go.Fn.func 115) #[] #[]] w fun e w' => e = .returned (.bool bq) ∧ Below w.heap.size w w' := by
  intro d
  induction d with
  | zero => intro A B ca cb F G l r w hd; omega
  | succ d ih =>
  intro A B ca cb F G l r w hd hA hB wl wr' n m hn hm bq hbq
  refine eqStmts_of hA hB hn hm hbq fun k x y hx hy => ?_
  have wx := wf_sub (wl x (List.mem_of_getElem? hx))
  have wy := wf_sub (wr' y (List.mem_of_getElem? hy))
  have hsz := sz_smem l k x hx
  have hsk := sz_sub x
  obtain ⟨bI, hbI⟩ := ex_bool (x.idx = y.idx)
  obtain ⟨bV, hbV⟩ := ex_bool (x.val = y.val)
  obtain ⟨bT, hbT⟩ := ex_bool (x.thn = y.thn)
  obtain ⟨bE, hbE⟩ := ex_bool (x.els = y.els)
  refine ⟨decide (x.kind = y.kind) && (decide (x.nam = y.nam) && (bI && (bV && (bT && bE)))), ?_, fun I V T E I2 V2 T2 E2 cI cV cT cE cI2 cV2 cT2 cE2 W hW k1 k2 k3 k4 k5 k6 k7 k8 => ?_⟩
  · rw [Bool.and_eq_true, Bool.and_eq_true, Bool.and_eq_true, Bool.and_eq_true, Bool.and_eq_true, decide_eq_true_iff, decide_eq_true_iff, hbI, hbV, hbT, hbE]
    exact ⟨fun h => sta_inj h.1 h.2.1 h.2.2.1 h.2.2.2.1 h.2.2.2.2.1 h.2.2.2.2.2, fun h => by subst h; exact ⟨rfl, rfl, rfl, rfl, rfl, rfl⟩⟩
  · refine eqStmt_of (by rw [Bool.eq_iff_iff, beq_iff_eq, decide_eq_true_iff]; omega) (str_inj2 _ _) (fun W2 hW2 => ?_) (fun W2 hW2 => ?_) (fun W2 hW2 => ?_) (fun W2 hW2 => ?_)
    · have hb := chain hW hW2
      exact eqLists_of (fun e w' h => ⟨_, h.1⟩) (eqExprs _ (Nat.lt_succ_self _) (k1.keep (Kept.of_below hb)) (k5.keep (Kept.of_below hb)) wx.1 wy.1 rfl rfl hbI)
    · have hb := chain hW hW2
      exact eqLists_of (fun e w' h => ⟨_, h.1⟩) (eqExprs _ (Nat.lt_succ_self _) (k2.keep (Kept.of_below hb)) (k6.keep (Kept.of_below hb)) wx.2.1 wy.2.1 rfl rfl hbV)
    · have hb := chain hW hW2
      exact eqBlocks_of (fun e w' h => ⟨_, h.1⟩) (ih (by omega) (k3.keep (Kept.of_below hb)) (k7.keep (Kept.of_below hb)) wx.2.2.1 wy.2.2.1 rfl rfl hbT)
    · have hb := chain hW hW2
      exact eqBlocks_of (fun e w' h => ⟨_, h.1⟩) (ih (by omega) (k4.keep (Kept.of_below hb)) (k8.keep (Kept.of_below hb)) wx.2.2.2 wy.2.2.2 rfl rfl hbE)
end Go.Proofs.YtpbcncfbfbghcaaGreatDoor.L20
namespace Go.Proofs.YtpbcncfbfbghcaaGreatDoor.L20
set_option maxRecDepth 100000
open Go.RowKit Mem L19
set_option linter.unusedVariables false
set_option linter.unusedSimpArgs false

theorem FnsF.le {w : World} {F : Nat → Prop} {l : List Fn} {A : Option Addr} {cap : Nat} (h : FnsF w F l A cap) : l.length ≤ cap ∧ cap ≤ maxLen := by
  obtain ⟨css, h1, _⟩ := h
  exact ⟨h1.le, h1.capm⟩
theorem calls_weak {f : Nat} {args : Array Value} {w : World} {b : Bool} (h : Calls Tryz.prog f args w fun e w' => e = .returned (.bool b) ∧ ∃ q, w' = w.drewN q) : Calls Tryz.prog f args w fun e w' => e = .returned (.bool b) ∧ Below w.heap.size w w' := by
  refine h.mono fun e w' hh => ?_
  obtain ⟨he, q, rfl⟩ := hh
  exact ⟨he, chainN (Below.refl _ _) q⟩
theorem fn_ext {x y : Fn} (h1 : x.name = y.name) (h2 : x.params = y.params) (h3 : x.locals = y.locals) (h4 : x.body = y.body) : x = y := by
  cases x; cases y
  simp_all
theorem prog_ext {x y : Prog} (h1 : x.vars = y.vars) (h2 : x.arrays = y.arrays) (h3 : x.funcs = y.funcs) : x = y := by
  cases x; cases y
  simp_all
set_option maxHeartbeats 4000000 in
theorem eqFn_of {S1 V1 : ByteArray} {P P2 : Option Addr} {lP cP mP dP : Nat} {L L2 : Option Addr} {lL cL mL dL : Nat} {B B2 : Option Addr} {lB cB mB dB : Nat} {c1 bP bL bB : Bool} {w : World}
    (h1 : (S1.toList == V1.toList) = c1)
    (kP : ∀ W, Below w.heap.size w W → Calls Tryz.prog 50 #[.slice P lP cP, .slice P2 mP dP] W fun e w' => e = .returned (.bool bP) ∧ Below W.heap.size W w')
    (kL : ∀ W, Below w.heap.size w W → Calls Tryz.prog 50 #[.slice L lL cL, .slice L2 mL dL] W fun e w' => e = .returned (.bool bL) ∧ Below W.heap.size W w')
    (kB : ∀ W, Below w.heap.size w W → Calls Tryz.prog 75 #[.slice B lB cB, .slice B2 mB dB] W fun e w' => e = .returned (.bool bB) ∧ Below W.heap.size W w') :
    Calls Tryz.prog 53 #[.agg #[.string S1, .slice P lP cP, .slice L lL cL, .slice B lB cB], .agg #[.string V1, .slice P2 mP dP, .slice L2 mL dL, .slice B2 mB dB]] w fun e w' => e = .returned (.bool (c1 && (bP && (bL && bB)))) ∧ Below w.heap.size w w' := by
  obtain ⟨W2, g2, hW2, hg2, hb2, hl2⟩ := box_new w [.string S1, .slice P lP cP, .slice L lL cL, .slice B lB cB] 44
  obtain ⟨W3, g3, hW3, hg3, hb3, hl3⟩ := box_new W2 [.string V1, .slice P2 mP dP, .slice L2 mL dL, .slice B2 mB dB] 44
  have hl := chain hl2 hl3
  have hb2 := hb2.below hl3
  have x0 := hb2.cell 0
  have y0 := hb3.cell 0
  have x1 := hb2.cell 1
  have y1 := hb3.cell 1
  have x2 := hb2.cell 2
  have y2 := hb3.cell 2
  have x3 := hb2.cell 3
  have y3 := hb3.cell 3
  simp only [List.getElem?_cons_zero, List.getElem?_cons_succ] at x0 y0 x1 y1 x2 y2 x3 y3
  replace kP := Lib.hid kP
  replace kL := Lib.hid kL
  replace kB := Lib.hid kB
  have h0 := Lib.hid hl
  have l2 : g2 < W3.heap.size := hb2.lt
  have l3 : g3 < W3.heap.size := hb3.lt
  clear hl hl2 hl3 hb2 hb3
  cases c1
  case false =>
    go_enter Tryz.func53, Tryz.ntmps53
    go_wp2
    go_ret
    exact ⟨by simp, h0.out⟩
  go_enter Tryz.func53, Tryz.ntmps53
  go_wp2_with fail
  refine (kP.out _ h0.out).mono ?_
  rintro e w4 ⟨rfl, hb⟩
  have h1 := Lib.hid (chain h0.out hb)
  have kb := Kept.of_below (F := fun _ => True) hb
  have x0 := (kb.cell trivial l2).trans x0
  have y0 := (kb.cell trivial l3).trans y0
  have x1 := (kb.cell trivial l2).trans x1
  have y1 := (kb.cell trivial l3).trans y1
  have x2 := (kb.cell trivial l2).trans x2
  have y2 := (kb.cell trivial l3).trans y2
  have x3 := (kb.cell trivial l2).trans x3
  have y3 := (kb.cell trivial l3).trans y3
  replace l2 := Nat.lt_of_lt_of_le l2 hb.size
  replace l3 := Nat.lt_of_lt_of_le l3 hb.size
  clear hb kb h0 kP
  cases bP
  case false =>
    go_wp2
    go_ret
    exact ⟨by simp, h1.out⟩
  go_wp2_with fail
  refine (kL.out _ h1.out).mono ?_
  rintro e w5 ⟨rfl, hb⟩
  have h2 := Lib.hid (chain h1.out hb)
  have kb := Kept.of_below (F := fun _ => True) hb
  have x0 := (kb.cell trivial l2).trans x0
  have y0 := (kb.cell trivial l3).trans y0
  have x1 := (kb.cell trivial l2).trans x1
  have y1 := (kb.cell trivial l3).trans y1
  have x2 := (kb.cell trivial l2).trans x2
  have y2 := (kb.cell trivial l3).trans y2
  have x3 := (kb.cell trivial l2).trans x3
  have y3 := (kb.cell trivial l3).trans y3
  replace l2 := Nat.lt_of_lt_of_le l2 hb.size
  replace l3 := Nat.lt_of_lt_of_le l3 hb.size
  clear hb kb h1 kL
  cases bL
  case false =>
    go_wp2
    go_ret
    exact ⟨by simp, h2.out⟩
  go_wp2_with fail
  refine (kB.out _ h2.out).mono ?_
  rintro e w6 ⟨rfl, hb⟩
  have h3 := Lib.hid (chain h2.out hb)
  clear hb h2 kB
  go_wp2
  go_ret
  exact ⟨by simp, h3.out⟩
set_option maxHeartbeats 4000000 in
theorem eqPg_of {P P2 : Option Addr} {lP cP mP dP : Nat} {L L2 : Option Addr} {lL cL mL dL : Nat} {B B2 : Option Addr} {lB cB mB dB : Nat} {bP bL bB : Bool} {w : World}
    (kP : ∀ W, Below w.heap.size w W → Calls Tryz.prog 50 #[.slice P lP cP, .slice P2 mP dP] W fun e w' => e = .returned (.bool bP) ∧ Below W.heap.size W w')
    (kL : ∀ W, Below w.heap.size w W → Calls Tryz.prog 51 #[.slice L lL cL, .slice L2 mL dL] W fun e w' => e = .returned (.bool bL) ∧ Below W.heap.size W w')
    (kB : ∀ W, Below w.heap.size w W → Calls Tryz.prog 52 #[.slice B lB cB, .slice B2 mB dB, .func (Go.Fn.func 53) #[] #[]] W fun e w' => e = .returned (.bool bB) ∧ Below W.heap.size W w') :
    Calls Tryz.prog 18 #[.agg #[.slice P lP cP, .slice L lL cL, .slice B lB cB], .agg #[.slice P2 mP dP, .slice L2 mL dL, .slice B2 mB dB]] w fun e w' => e = .returned (.bool (bP && (bL && bB))) ∧ Below w.heap.size w w' := by
  obtain ⟨W2, g2, hW2, hg2, hb2, hl2⟩ := box_new w [.slice P lP cP, .slice L lL cL, .slice B lB cB] 27
  obtain ⟨W3, g3, hW3, hg3, hb3, hl3⟩ := box_new W2 [.slice P2 mP dP, .slice L2 mL dL, .slice B2 mB dB] 27
  have hl := chain hl2 hl3
  have hb2 := hb2.below hl3
  have x0 := hb2.cell 0
  have y0 := hb3.cell 0
  have x1 := hb2.cell 1
  have y1 := hb3.cell 1
  have x2 := hb2.cell 2
  have y2 := hb3.cell 2
  simp only [List.getElem?_cons_zero, List.getElem?_cons_succ] at x0 y0 x1 y1 x2 y2
  replace kP := Lib.hid kP
  replace kL := Lib.hid kL
  replace kB := Lib.hid kB
  have h0 := Lib.hid hl
  have l2 : g2 < W3.heap.size := hb2.lt
  have l3 : g3 < W3.heap.size := hb3.lt
  clear hl hl2 hl3 hb2 hb3
  go_enter Tryz.func18, Tryz.ntmps18
  go_wp2_with fail
  refine (kP.out _ h0.out).mono ?_
  rintro e w4 ⟨rfl, hb⟩
  have h1 := Lib.hid (chain h0.out hb)
  have kb := Kept.of_below (F := fun _ => True) hb
  have x0 := (kb.cell trivial l2).trans x0
  have y0 := (kb.cell trivial l3).trans y0
  have x1 := (kb.cell trivial l2).trans x1
  have y1 := (kb.cell trivial l3).trans y1
  have x2 := (kb.cell trivial l2).trans x2
  have y2 := (kb.cell trivial l3).trans y2
  replace l2 := Nat.lt_of_lt_of_le l2 hb.size
  replace l3 := Nat.lt_of_lt_of_le l3 hb.size
  clear hb kb h0 kP
  cases bP
  case false =>
    go_wp2
    go_ret
    exact ⟨by simp, h1.out⟩
  go_wp2_with fail
  refine (kL.out _ h1.out).mono ?_
  rintro e w5 ⟨rfl, hb⟩
  have h2 := Lib.hid (chain h1.out hb)
  have kb := Kept.of_below (F := fun _ => True) hb
  have x0 := (kb.cell trivial l2).trans x0
  have y0 := (kb.cell trivial l3).trans y0
  have x1 := (kb.cell trivial l2).trans x1
  have y1 := (kb.cell trivial l3).trans y1
  have x2 := (kb.cell trivial l2).trans x2
  have y2 := (kb.cell trivial l3).trans y2
  replace l2 := Nat.lt_of_lt_of_le l2 hb.size
  replace l3 := Nat.lt_of_lt_of_le l3 hb.size
  clear hb kb h1 kL
  cases bL
  case false =>
    go_wp2
    go_ret
    exact ⟨by simp, h2.out⟩
  go_wp2_with fail
  refine (kB.out _ h2.out).mono ?_
  rintro e w6 ⟨rfl, hb⟩
  have h3 := Lib.hid (chain h2.out hb)
  clear hb h2 kB
  go_wp2
  go_ret
  exact ⟨by simp, h3.out⟩
set_option maxHeartbeats 8000000 in
theorem eqFns_of {A B : Option Addr} {ca cb : Nat} {F G : Nat → Prop} {l r : List Fn} {w : World} (hA : FnsF w F l A ca) (hB : FnsF w G r B cb) {n m : Nat} (hn : l.length = n) (hm : r.length = m) {bq : Bool} (hbq : bq = true ↔ l = r)
    (one : ∀ (k : Nat) (x y : Fn), l[k]? = some x → r[k]? = some y → ∃ bk : Bool, (bk = true ↔ x = y) ∧ ∀ (P L B P2 L2 B2 : Option Addr) (cP cL cB cP2 cL2 cB2 : Nat) W, Below w.heap.size w W → StrsF w F x.params P cP → StrsF w F x.locals L cL → Sts w F x.body B cB → StrsF w G y.params P2 cP2 → StrsF w G y.locals L2 cL2 → Sts w G y.body B2 cB2 →
      Calls Tryz.prog 53 #[.agg #[strV x.name, .slice P x.params.length cP, .slice L x.locals.length cL, .slice B x.body.length cB], .agg #[strV y.name, .slice P2 y.params.length cP2, .slice L2 y.locals.length cL2, .slice B2 y.body.length cB2]] W fun e w' => e = .returned (.bool bk) ∧ Below W.heap.size W w') :
    Calls Tryz.prog 52 #[.slice A n ca, .slice B m cb, .func (Go.Fn.func 53) #[] #[]] w fun e w' => e = .returned (.bool bq) ∧ Below w.heap.size w w' := by
  have hml : maxLen = 9223372036854775807 := rfl
  have hle := FnsF.le hA
  have hle3 := FnsF.le hB
  rw [hml] at hle hle3
  by_cases e : n = m
  · subst e
    have hga := Lib.hid (fun (k : Nat) (x : Fn) (hk : l[k]? = some x) => FnsF.at hA hk)
    have hgb := Lib.hid (fun (k : Nat) (x : Fn) (hk : r[k]? = some x) => FnsF.at hB hk)
    have hyes := Lib.hid (fun (h : l.take n = r.take n) => show bq = true by rw [hbq]; exact take_eq h hn hm)
    have hno := Lib.hid (fun (k : Nat) (x y : Fn) (h1 : l[k]? = some x) (h2 : r[k]? = some y) (h : x ≠ y) => show bq = false by rw [← Bool.not_eq_true, hbq]; exact take_diff h1 h2 h)
    have d0 : ((n : Int) != (n : Int)) = false := by simp
    clear hA hB hbq
    replace one := Lib.hid one
    go_enter Tryz.func52, Tryz.ntmps52
    go_wp2
    go_loopw [17] (fun iv wr => ∃ (k : Nat), iv = .int .i64 (k : Int) ∧ k ≤ n ∧ Hid (l.take k = r.take k) ∧ Hid (Below w.heap.size w wr)) (fun iv _ => n - (intOf iv).toNat)
    case atStart => exact ⟨0, rfl, Nat.zero_le _, Lib.hid (by simp), Lib.hid (Below.refl _ _)⟩
    case round =>
      obtain ⟨k, rfl, hk, hI, hw⟩ := hrel
      by_cases hlt : k < n
      · have dk : decide ((k : Int) < (n : Int)) = true := decide_eq_true (by omega)
        have k0 : (0 : Int) ≤ (k : Int) := by omega
        have k1 : (k : Int) < (n : Int) := by omega
        have k2 : (k : Int) + 1 ≤ 9223372036854775807 := by omega
        obtain ⟨x, hT⟩ : ∃ x, l[k]? = some x := ⟨_, List.getElem?_eq_getElem (by omega)⟩
        obtain ⟨y, hU⟩ : ∃ x, r[k]? = some x := ⟨_, List.getElem?_eq_getElem (by omega)⟩
        obtain ⟨b1, o1, P, L, B', cP, cL, cB, rfl, _, hl1', kx1, kx2, kx3, g⟩ := hga.out k _ hT
        obtain ⟨b2, o2, P2, L2, B2, cP2, cL2, cB2, rfl, _, hl2', ky1, ky2, ky3, g'⟩ := hgb.out k _ hU
        have hs : x = y → l.take (k + 1) = r.take (k + 1) := fun h => take_same hI.out hT (by rw [hU, h])
        have hn' : x ≠ y → bq = false := hno.out k _ _ hT hU
        obtain ⟨bk, hbk, hone⟩ := one.out k x y hT hU
        replace hone := fun W hW => hone P L B' P2 L2 B2 cP cL cB cP2 cL2 cB2 W hW kx1 kx2 kx3 ky1 ky2 ky3
        have p0 := g 0 _ rfl
        have q0 := g' 0 _ rfl
        have p1 := g 1 _ rfl
        have q1 := g' 1 _ rfl
        have p2 := g 2 _ rfl
        have q2 := g' 2 _ rfl
        have p3 := g 3 _ rfl
        have q3 := g' 3 _ rfl
        simp only [← Nat.add_assoc, Nat.add_zero] at p0 q0 p1 q1 p2 q2 p3 q3
        unfold strV at p0 q0 hone
        obtain ⟨S1, hS1⟩ : ∃ S : ByteArray, ⟨x.name.toArray⟩ = S := ⟨_, rfl⟩
        obtain ⟨V1, hV1⟩ : ∃ S : ByteArray, ⟨y.name.toArray⟩ = S := ⟨_, rfl⟩
        obtain ⟨lP, hlP⟩ : ∃ z, x.params.length = z := ⟨_, rfl⟩
        obtain ⟨mP, hmP⟩ : ∃ z, y.params.length = z := ⟨_, rfl⟩
        obtain ⟨lL, hlL⟩ : ∃ z, x.locals.length = z := ⟨_, rfl⟩
        obtain ⟨mL, hmL⟩ : ∃ z, y.locals.length = z := ⟨_, rfl⟩
        obtain ⟨lB, hlB⟩ : ∃ z, x.body.length = z := ⟨_, rfl⟩
        obtain ⟨mB, hmB⟩ : ∃ z, y.body.length = z := ⟨_, rfl⟩
        rw [hS1] at p0
        rw [hV1] at q0
        rw [hlP] at p1
        rw [hmP] at q1
        rw [hlL] at p2
        rw [hmL] at q2
        rw [hlB] at p3
        rw [hmB] at q3
        rw [hS1, hV1, hlP, hmP, hlL, hmL, hlB, hmB] at hone
        clear hS1 hV1 hlP hmP hlL hmL hlB hmB g g'
        obtain ⟨W2, g2, hW2, hg2, hb2, hl2⟩ := box_new wr [.string S1, .slice P lP cP, .slice L lL cL, .slice B' lB cB] 44
        obtain ⟨W3, g3, hW3, hg3, hb3, hl3⟩ := box_new W2 [.string V1, .slice P2 mP cP2, .slice L2 mL cL2, .slice B2 mB cB2] 44
        have mv : ∀ (b o : Nat) (v : Value), b < w.heap.size → w.cell? ⟨b, o, none⟩ = some v → wr.cell? ⟨b, o, none⟩ = some v := fun b o v hb h => ((Kept.of_below (F := fun _ => True) hw.out).cell trivial hb).trans h
        have mv2 : ∀ (b o : Nat) (v : Value), b < w.heap.size → w.cell? ⟨b, o, none⟩ = some v → W2.cell? ⟨b, o, none⟩ = some v := fun b o v hb h => ((Kept.of_below (F := fun _ => True) hl2).cell trivial (Nat.lt_of_lt_of_le hb hw.out.size)).trans (mv b o v hb h)
        have p0 := mv _ _ _ hl1' p0
        have p1 := mv _ _ _ hl1' p1
        have p2 := mv _ _ _ hl1' p2
        have p3 := mv _ _ _ hl1' p3
        have q0 := mv2 _ _ _ hl2' q0
        have q1 := mv2 _ _ _ hl2' q1
        have q2 := mv2 _ _ _ hl2' q2
        have q3 := mv2 _ _ _ hl2' q3
        have hl := chain hl2 hl3
        have hlw := Lib.hid (chain hw.out hl)
        have c := Lib.hid (hone W3 hlw.out)
        have hb2 := hb2.below hl3
        have x0 := hb2.cell 0
        have y0 := hb3.cell 0
        have x1 := hb2.cell 1
        have y1 := hb3.cell 1
        have x2 := hb2.cell 2
        have y2 := hb3.cell 2
        have x3 := hb2.cell 3
        have y3 := hb3.cell 3
        simp only [List.getElem?_cons_zero, List.getElem?_cons_succ] at x0 y0 x1 y1 x2 y2 x3 y3
        clear mv mv2 hga hgb hno hI hT hU hb2 hb3 hl hl2 hl3 hone kx1 kx2 kx3 ky1 ky2 ky3
        rcases bk with _ | _
        · have hfin := Lib.hid (hn' (fun h => by have := hbk.2 h; cases this))
          clear hs hn' hbk hyes
          go_wp2_with fail
          refine (c.out).mono ?_
          rintro e w' ⟨rfl, hb⟩
          replace hlw := Lib.hid (chain hlw.out hb)
          clear c hb
          go_wp2
          go_ret
          exact ⟨ret_bool hfin.out.symm, hlw.out⟩
        · have hs2 := Lib.hid (hs (hbk.1 rfl))
          clear hs hn' hbk hyes
          go_wp2_with fail
          refine (c.out).mono ?_
          rintro e w' ⟨rfl, hb⟩
          replace hlw := Lib.hid (chain hlw.out hb)
          clear c hb
          go_wp2
          go_roundw
          case rel => exact ⟨k + 1, by go_num, by omega, hs2, hlw⟩
          case measure => simp [intOf]; omega
      · obtain rfl : k = n := by omega
        have dk : decide ((k : Int) < (k : Int)) = false := decide_eq_false (by omega)
        have hfin := Lib.hid (hyes.out hI.out)
        clear hyes hno hga hgb hI
        go_wp2
        go_ret
        exact ⟨ret_bool hfin.out.symm, hw.out⟩
  · have t1 : ((n : Int) != (m : Int)) = true := bne_iff_ne.2 (by omega)
    have hne : Hid (bq = false) := Lib.hid (by rw [← Bool.not_eq_true, hbq]; exact fun h => e (by rw [← hn, ← hm, h]))
    clear hA hB e hbq one
    go_enter Tryz.func52, Tryz.ntmps52
    go_wp2
    go_ret
    exact ⟨ret_bool hne.out.symm, Below.refl _ _⟩
theorem eqFns {A B : Option Addr} {ca cb : Nat} {F G : Nat → Prop} {l r : List Fn} {w : World} (hA : FnsF w F l A ca) (hB : FnsF w G r B cb) (wl : ∀ f ∈ l, Wff f) (wr' : ∀ f ∈ r, Wff f) {n m : Nat} (hn : l.length = n) (hm : r.length = m) {bq : Bool} (hbq : bq = true ↔ l = r) :
    Calls Tryz.prog 52 #[.slice A n ca, .slice B m cb, .func (Go.Fn.func 53) #[] #[]] w fun e w' => e = .returned (.bool bq) ∧ Below w.heap.size w w' := by
  refine eqFns_of hA hB hn hm hbq fun k x y hx hy => ?_
  have wx := wft_of (wl x (List.mem_of_getElem? hx)).2.2.2.1
  have wy := wft_of (wr' y (List.mem_of_getElem? hy)).2.2.2.1
  obtain ⟨bB, hbB⟩ := ex_bool (x.body = y.body)
  refine ⟨decide (x.name = y.name) && (decide (x.params = y.params) && (decide (x.locals = y.locals) && bB)), ?_, fun P L B P2 L2 B2 cP cL cB cP2 cL2 cB2 W hW k1 k2 k3 k5 k6 k7 => ?_⟩
  · rw [Bool.and_eq_true, Bool.and_eq_true, Bool.and_eq_true, decide_eq_true_iff, decide_eq_true_iff, decide_eq_true_iff, hbB]
    exact ⟨fun h => fn_ext h.1 h.2.1 h.2.2.1 h.2.2.2, fun h => by subst h; exact ⟨rfl, rfl, rfl, rfl⟩⟩
  · refine eqFn_of (str_inj2 _ _) (fun W2 hW2 => ?_) (fun W2 hW2 => ?_) (fun W2 hW2 => ?_)
    · have hb := chain hW hW2
      exact calls_weak (eqNames (k1.keep (Kept.of_below hb)) (k5.keep (Kept.of_below hb)) rfl rfl)
    · have hb := chain hW hW2
      exact calls_weak (eqNames (k2.keep (Kept.of_below hb)) (k6.keep (Kept.of_below hb)) rfl rfl)
    · have hb := chain hW hW2
      exact eqBlocks_of (fun e w' h => ⟨_, h.1⟩) (eqStmts _ (Nat.lt_succ_self _) (k3.keep (Kept.of_below hb)) (k7.keep (Kept.of_below hb)) wx wy rfl rfl hbB)
/-- The landed Equal. -/
theorem Equal_any {p q : Prog} {V A E V2 A2 E2 : Option Addr} {cv ca ce dv da de : Nat} {F G : Nat → Prop} {w : World} (hp : PgM w F p V A E cv ca ce) (hq : PgM w G q V2 A2 E2 dv da de) (wp : Wfp p) (wq : Wfp q) {bq : Bool} (hbq : bq = true ↔ p = q) :
    Calls Tryz.prog 18 #[pgV p V A E cv ca ce, pgV q V2 A2 E2 dv da de] w fun e w' => e = .returned (.bool bq) ∧ Below w.heap.size w w' := by
  obtain ⟨bB, hbB⟩ := ex_bool (p.funcs = q.funcs)
  have : bq = (decide (p.vars = q.vars) && (decide (p.arrays = q.arrays) && bB)) := by
    rw [Bool.eq_iff_iff, hbq, Bool.and_eq_true, Bool.and_eq_true, decide_eq_true_iff, decide_eq_true_iff, hbB]
    exact ⟨fun h => by subst h; exact ⟨rfl, rfl, rfl⟩, fun h => prog_ext h.1 h.2.1 h.2.2⟩
  rw [this]
  unfold pgV
  refine eqPg_of (fun W hW => ?_) (fun W hW => ?_) (fun W hW => ?_)
  · exact calls_weak (eqNames (hp.vars.keep (Kept.of_below hW)) (hq.vars.keep (Kept.of_below hW)) rfl rfl)
  · exact calls_weak (eqArrs (hp.arrays.keep (Kept.of_below hW)) (hq.arrays.keep (Kept.of_below hW)) rfl rfl)
  · exact eqFns (hp.funcs.keep (Kept.of_below hW)) (hq.funcs.keep (Kept.of_below hW)) wp.2.2 wq.2.2 rfl rfl hbB
end Go.Proofs.YtpbcncfbfbghcaaGreatDoor.L20
