/- Declarations of the landed reader: variables, array (layer 20). Declarations of the landed reader: function (layer 20). Declarations of the landed reader: a program that grows (layer 20). -/
import Derived.Test.YtpbcncfbfbghcaaGreatDoorP20K
namespace Go.Proofs.YtpbcncfbfbghcaaGreatDoor.L20
set_option maxRecDepth 100000
open Go.RowKit Mem L19
set_option linter.unusedVariables false
set_option linter.unusedSimpArgs false

theorem ks_var : Ks kVar := ⟨3, .inl rfl, k_var⟩
theorem ks_array : Ks kArray := ⟨3, .inl rfl, k_array⟩
theorem ks_func : Ks kFunc := ⟨3, .inl rfl, k_func⟩
def varP (n : Nat) (ts : List Tk) : Option (Rs (List Str)) := bnd (some (want kVar ts)) fun _ ts => bnd (names n ts) fun l ts => bnd (some (want [59] ts)) fun _ ts => some (.ok l ts)
theorem var_eq {n : Nat} {ts : List Tk} (h : sg kVar ts = true) : vars n ts = varP n ts := by
  unfold vars varP
  rw [want_yes h]
  rfl
def arrP (ts : List Tk) : Option (Rs (Str × Nat)) := bnd (some (want kArray ts)) fun _ ts => bnd (some (name ts)) fun s ts => bnd (some (enter [91] 0 ts)) fun _ ts => bnd (some (number ts)) fun k ts =>
  bnd (some (want [93] ts)) fun _ ts => bnd (some (want [59] ts)) fun _ ts => some (.ok (s, k) ts)
theorem arr_eq {ts : List Tk} (h : sg kArray ts = true) : arr ts = arrP ts := by
  unfold arr arrP
  rw [want_yes h]
  rfl
def ArrR : Str × Nat → Value → World → Prop := fun x v _ => ∃ (S : ByteArray) (N : Int), v = .agg #[.string S, .int .i64 N] ∧ strV x.1 = .string S ∧ N = (x.2 : Int)
section
variable {base B k o : Nat} {l : List L19.Tok} {w : World}
set_option maxHeartbeats 4000000 in
theorem variables_any {n : Nat} (h : RdS base B l k o w) {r : Rs (List Str)} (hr : varP n (at_ l k) = some r) :
    Calls Tryz.prog 63 #[.pointer (some ⟨B, 0, none⟩)] w (Ae base B l o w (StrsR w.heap.size) r) := by
  unfold varP at hr
  have hmf : ∀ (fn : Go.Fn) (first cap : Array Value) (w : World), (Instr.makeFunc fn first cap).run Tryz.prog w = .ok (.func fn first cap) w := fun _ _ _ _ => rfl
  have c1 := Lib.hid (expect_any h ks_var (S := ⟨#[118, 97, 114]⟩) rfl)
  have hlow := h.low
  have hbig := h.big
  replace hr := Lib.hid hr
  clear h
  go_enter Tryz.func63, Tryz.ntmps63
  go_wp2_with fail
  refine (c1.out).mono ?_
  rintro e w1 (⟨a1, k1, v1, hx1, rfl, hv1, hst1, hg1⟩ | ⟨c, ts, hx1, rfl, hg1⟩)
  case inr => exact ⟨rfl, Ae.bad (bad_of hr.out hx1) hg1⟩
  unfold UnitR at hv1
  subst hv1
  obtain ⟨q2, hq2, hr2⟩ := opt_of (ok_of hr.out hx1)
  have c2 := Lib.hid (listS_any hst1 hq2)
  have hs1 := hg1.size
  replace hg1 := Lib.hid hg1
  replace hr2 := Lib.hid hr2
  clear hr c1 hx1 hst1 hq2
  go_wp2_with fail
  refine (c2.out).mono ?_
  rintro e w2 (⟨x, k2, v2, hx2, rfl, ⟨A, L, cap, rfl, hL2, hC2⟩, hst2, hg2⟩ | ⟨c, ts, hx2, rfl, hg2⟩)
  case inr => exact ⟨rfl, Ae.bad (bad_of hr2.out hx2) (hg1.out.trans hg2)⟩
  have hr3 := Lib.hid (ok_of hr2.out hx2)
  have c3 := Lib.hid (expect_any hst2 (ks_one 59 (by decide)) (S := ⟨#[59]⟩) rfl)
  have hgr2 := Lib.hid (hg1.out.trans hg2)
  replace hC2 := Lib.hid hC2
  replace hL2 := Lib.hid hL2
  clear hr2 c2 hx2 hst2 hg2 hg1
  go_wp2_with fail
  refine (c3.out).mono ?_
  rintro e w4 (⟨a4, k4, v4, hx4, rfl, hv4, hst4, hg4⟩ | ⟨c, ts, hx4, rfl, hg4⟩)
  case inr => exact ⟨rfl, Ae.bad (bad_of hr3.out hx4) (hgr2.out.trans hg4)⟩
  unfold UnitR at hv4
  subst hv4
  have hr4 : r = .ok x (at_ l k4) := by
    have := ok_of hr3.out hx4
    injection this with this
    exact this.symm
  have hC4 : StrsF w4 (fun b => w.heap.size ≤ b) x A cap := (hC2.out.keep (hg4.keptN (by omega))).mono fun b _ h => by omega
  have fin := Lib.hid (Ae.ok (R := StrsR w.heap.size) (w0 := w) hr4 ⟨A, L, cap, rfl, hL2.out, hC4⟩ hst4 (hgr2.out.trans hg4))
  clear hr3 c3 hx4 hg4 hgr2 hC2 hL2 hC4 hst4 hr4
  go_wp2
  first | go_ret | skip
  exact fin.out
theorem ar_box {W : World} {g : Nat} {c0 c1 : Value} (h : Blk 72 W g [c0, c1]) : W.cell? ⟨g, 0, none⟩ = some c0 ∧ W.cell? ⟨g, 1, none⟩ = some c1 ∧ W.frozen? ⟨g, 0, none⟩ = false ∧ W.frozen? ⟨g, 1, none⟩ = false := ⟨h.cell 0, h.cell 1, h.frz 0, h.frz 1⟩
set_option maxHeartbeats 4000000 in
theorem array_any (h : RdS base B l k 0 w) {r : Rs (Str × Nat)} (hr : arrP (at_ l k) = some r) :
    Calls Tryz.prog 64 #[.pointer (some ⟨B, 0, none⟩)] w (Ae base B l 0 w ArrR r) := by
  unfold arrP at hr
  obtain ⟨W0, g, hW0, hg0, hb0, hst0, hgr0, hbg, hgl, hgB⟩ := start_box h [.string ⟨#[]⟩, .int .i64 0] 72
  have c1 := Lib.hid (expect_any hst0 ks_array (S := ⟨#[97, 114, 114, 97, 121]⟩) rfl)
  have hwg : w.heap.size ≤ g := by omega
  replace hr := Lib.hid hr
  replace hb0 := Lib.hid hb0
  replace hgr0 := Lib.hid hgr0
  clear h hst0
  go_enter Tryz.func64, Tryz.ntmps64
  go_wp2_with fail
  refine (c1.out).mono ?_
  rintro e w1 (⟨a1, k1, v1, hx1, rfl, hv1, hst1, hg1⟩ | ⟨c, ts, hx1, rfl, hg1⟩)
  case inr => exact ⟨rfl, Ae.bad (bad_of hr.out hx1) (hgr0.out.trans hg1)⟩
  unfold UnitR at hv1
  subst hv1
  have hr1 := Lib.hid (ok_of hr.out hx1)
  have c2 := Lib.hid (name_any hst1)
  have hgr1 := Lib.hid (hgr0.out.trans hg1)
  have hb1 := Lib.hid (hg1.blk hb0.out hgB)
  have hs1 := hg1.size
  clear hr c1 hx1 hst1 hg1 hgr0 hb0 hW0
  go_wp2_with fail
  refine (c2.out).mono ?_
  rintro e w2 (⟨s, k2, v2, hx2, rfl, hv2, hst2, hg2⟩ | ⟨c, ts, hx2, rfl, hg2⟩)
  case inr => exact ⟨rfl, Ae.bad (bad_of hr1.out hx2) (hgr1.out.trans hg2)⟩
  obtain ⟨X, hX⟩ : ∃ X, strV s = .string X := ⟨_, rfl⟩
  unfold StrR at hv2
  rw [hX] at hv2
  subst hv2
  have hr2 := Lib.hid (ok_of hr1.out hx2)
  have hs2 := hg2.size
  obtain ⟨W3, g3, hW3, hg3, hb3, hst3, hgr3, hbg3, hgl3, hgB3⟩ := start_box hst2 [.string X, .int .i64 0] 72
  have hbl3 : Below w2.heap.size w2 W3 := by rw [← hW3]; exact boxed w2 _
  have c3 := Lib.hid (begin_any hst3 (ks_one 91 (by decide)) (S := ⟨#[91]⟩) rfl)
  have hgr2 := Lib.hid (Gr.below (hgr1.out.trans hg2) hbl3)
  have hb2 := Lib.hid ((hg2.blk hb1.out hgB).below hbl3)
  have hgg : g ≠ g3 := by omega
  have hw3 : w.heap.size ≤ g3 := by omega
  replace hb3 := Lib.hid hb3
  clear hr1 c2 hx2 hst2 hg2 hgr1 hb1 hst3 hgr3 hbl3
  subst hW3
  go_wp2_with fail
  refine (c3.out).mono ?_
  rintro e w4 (⟨a4, k4, v4, hx4, rfl, hv4, hst4, hg4⟩ | ⟨c, ts, hx4, rfl, hg4⟩)
  case inr => exact ⟨rfl, Ae.bad (bad_of hr2.out hx4) (hgr2.out.trans hg4)⟩
  unfold UnitR at hv4
  subst hv4
  have hr4 := Lib.hid (ok_of hr2.out hx4)
  have c5 := Lib.hid (number_any hst4)
  have hgr4 := Lib.hid (hgr2.out.trans hg4)
  have hb4 := Lib.hid (hg4.blk hb2.out hgB)
  have hb34 := Lib.hid (hg4.blk hb3.out hgB3)
  have hgood := hst4.ok.goodAt k4
  clear hr2 c3 hx4 hst4 hg4 hgr2 hb2 hb3
  go_wp2_with fail
  refine (c5.out).mono ?_
  rintro e w5 (⟨v, k5, v5, hx5, rfl, hv5, hst5, hg5⟩ | ⟨c, ts, hx5, rfl, hg5⟩)
  case inr => exact ⟨rfl, Ae.bad (bad_of hr4.out hx5) (hgr4.out.trans hg5)⟩
  unfold NumR at hv5
  subst hv5
  have hmax : v ≤ 4294967295 := by
    unfold number at hx5
    split at hx5
    · rename_i hk
      injection hx5 with h1 _
      rw [← h1]
      exact tk_num (kd_tk hk hgood)
    · cases hx5
  have hr5 := Lib.hid (ok_of hr4.out hx5)
  have hb35 := hg5.blk hb34.out hgB3
  obtain ⟨x0, x1, e0, e1⟩ := ar_box hb35
  obtain ⟨vi, hvi⟩ : ∃ vi : Int, (v : Int) = vi := ⟨_, rfl⟩
  have v0 : 0 ≤ vi := by omega
  have v1 : vi ≤ 4294967295 := by omega
  obtain ⟨W6, hW6⟩ : ∃ W, w5.setCell ⟨g3, 1, none⟩ (.int .i64 vi) = W := ⟨_, rfl⟩
  have hb36 : Blk 72 W6 g3 [.string X, .int .i64 vi] := by rw [← hW6]; exact hb35.set 1 _
  have hb6 := Blk.other (hg5.blk hb4.out hgB) hgg (i := 1) (.int .i64 vi)
  rw [hW6] at hb6
  have hst6 : RdS base B l k5 1 W6 := by rw [← hW6]; exact hst5.set hbg3 1 _
  have hgr6 : Gr B w W6 := by rw [← hW6]; exact Gr.set (hgr4.out.trans hg5) hw3 _
  have c6 := Lib.hid (end_any hst6 (ks_one 93 (by decide)) (S := ⟨#[93]⟩) rfl)
  replace hb36 := Lib.hid hb36
  replace hb6 := Lib.hid hb6
  replace hgr6 := Lib.hid hgr6
  rw [hvi]
  clear hr4 c5 hx5 hst5 hg5 hgr4 hb4 hb34 hb35 hst6 hgood hmax
  go_wp2_with fail
  refine (c6.out).mono ?_
  rintro e w7 (⟨a7, k7, v7, hx7, rfl, hv7, hst7, hg7⟩ | ⟨c, ts, hx7, rfl, hg7⟩)
  case inr => exact ⟨rfl, Ae.bad (bad_of hr5.out hx7) (hgr6.out.trans hg7)⟩
  unfold UnitR at hv7
  subst hv7
  have hr7 := Lib.hid (ok_of hr5.out hx7)
  have c8 := Lib.hid (expect_any hst7 (ks_one 59 (by decide)) (S := ⟨#[59]⟩) rfl)
  have hgr7 := Lib.hid (hgr6.out.trans hg7)
  have hb7 := Lib.hid (hg7.blk hb6.out hgB)
  have hb37 := Lib.hid (hg7.blk hb36.out hgB3)
  clear hr5 c6 hx7 hst7 hg7 hgr6 hb6 hb36 x0 x1 e0 e1 hW6
  go_wp2_with fail
  refine (c8.out).mono ?_
  rintro e w8 (⟨a8, k8, v8, hx8, rfl, hv8, hst8, hg8⟩ | ⟨c, ts, hx8, rfl, hg8⟩)
  case inr => exact ⟨rfl, Ae.bad (bad_of hr7.out hx8) (hgr7.out.trans hg8)⟩
  unfold UnitR at hv8
  subst hv8
  have hr8 : r = .ok (s, v) (at_ l k8) := by
    have := ok_of hr7.out hx8
    injection this with this
    exact this.symm
  have hb8 := hg8.blk hb7.out hgB
  obtain ⟨x0, x1, _, _⟩ := ar_box (hg8.blk hb37.out hgB3)
  obtain ⟨u0, u1, f0, f1⟩ := ar_box hb8
  have hend := Ae.ok (R := ArrR) (w0 := w) hr8 ⟨X, vi, rfl, hX, hvi.symm⟩ ((hst8.set hbg 0 (.string X)).set hbg 1 (.int .i64 vi)) (Gr.set (Gr.set (hgr7.out.trans hg8) hwg (.string X)) hwg (.int .i64 vi))
  have hbe := (hb8.set 0 (.string X)).set 1 (.int .i64 vi)
  replace hend := Lib.hid hend
  replace hbe := Lib.hid hbe
  clear hr7 c8 hx8 hst8 hg8 hgr7 hb7 hb37 hb8 hr8
  go_wp2
  exact ret_cell (cs := [.string X, .int .i64 vi]) rfl Tryz.underlying72 (by kernel_rfl) (by simp) hbe.out hend.out
end
end Go.Proofs.YtpbcncfbfbghcaaGreatDoor.L20
namespace Go.Proofs.YtpbcncfbfbghcaaGreatDoor.L20
set_option maxRecDepth 100000
open Go.RowKit Mem L19
set_option linter.unusedVariables false
set_option linter.unusedSimpArgs false

/-- 'append' as one operation of a region whose order is drawn. -/
theorem wp_append_at {P : Program} {w : World} {o : Oper} {a : Act} {K : Act → World → Prop} {Q : Exit → Act → World → Prop} (s x : Operand) (t : TypeId)
    (ho : o.op = .call { callee := .builtin .append, args := #[s, x], argTypes := #[t, t] })
    (base : Nat) (e : TypeId) (i : TypeInfo) (z : Value) (size bytes : Nat) (ht : P.underlying t = some (.slice e)) (hi : P.info? e = some i) (hz : i.zero = some z)
    (hsize : i.size = size) (hby : i.bytes = bytes) (hzs : z.cells.size = size) (hsz : 0 < size)
    (v : Value) (n : Nat) (xs : List Value) (hs : a.eval s = v) (hown : w.ownsRow base e size v n xs)
    (ad : Addr) (m c : Nat) (news : List Value) (hx : a.eval x = .slice (some ad) m c) (hl : news.length = m * size) (hnews : ∀ j u, news[j]? = some u → w.cell? (ad.add j) = some u) (h1 : ∀ u ∈ news, u.oneCell' = true)
    (h63 : n + m ≤ maxLen) (hbytes : (n + m) * bytes ≤ 140737488355328) (hbase : base ≤ w.heap.size)
    (h : ∀ v' w', w'.ownsRow base e size v' (n + m) (xs ++ news) → w.grownBy w' v.ownBlock → (v'.ownBlock = v.ownBlock ∨ v'.ownBlock = some w.heap.size) → K (a.put o.dst v') w') :
    Oper.wp P o a w K Q := by
  obtain ⟨v', w', hr, h2, h3, h4, h5⟩ := run_append_own_at (P := P) w base t o.type e i z size bytes ht hi hz hsize hby hzs hsz v n xs hown ad m c news hl hnews h1 h63 hbytes hbase
  unfold Oper.wp execOp
  simp only [ho, resolve, invoke, builtin, Sem.run_bind, Sem.run_pure, Result.andThen_ok, List.map_toArray, List.map_cons, List.map_nil, hs, hx, hr]
  exact h v' w' h2 h3 h5
theorem add_off (b o j : Nat) : (⟨b, o, none⟩ : Addr).add j = ⟨b, o + j, none⟩ := by
  by_cases h : j = 0
  · subst h; rfl
  · simp [Addr.add, h]
/-- A row of strings that is read, as an append's new cells. -/
theorem StrsF.news {w : World} {F : Nat → Prop} {l : List Str} {A : Option Addr} {cap : Nat} (h : StrsF w F l A cap) (hne : l ≠ []) : ∃ ad, A = some ad ∧ ∀ j u, (strVs l)[j]? = some u → w.cell? (ad.add j) = some u := by
  obtain ⟨s, r, rfl⟩ : ∃ s r, l = s :: r := by cases l with
    | nil => exact absurd rfl hne
    | cons s r => exact ⟨s, r, rfl⟩
  obtain ⟨b, o, rfl, _, _, _⟩ := h.at (i := 0) (s := s) rfl
  refine ⟨_, rfl, fun j u hu => ?_⟩
  unfold strVs at hu
  rw [List.getElem?_map] at hu
  cases e : (s :: r)[j]? with
  | none => rw [e] at hu; cases hu
  | some t =>
    rw [e] at hu
    injection hu with hu
    obtain ⟨b', o', e1, _, _, e2⟩ := h.at e
    injection e1 with e1
    injection e1 with e3 e4
    subst e3 e4
    rw [add_off, e2, hu]
theorem strVs_cells : ∀ l : List Str, (l.map fun s => [strV s]).flatten = strVs l
  | [] => rfl
  | s :: r => by rw [List.map_cons, List.flatten_cons, strVs_cells r]; rfl
/-- A row of strings of one's own, read. -/
theorem strs_own {w : World} {b0 : Nat} {T : TypeId} {v : Value} {l : List Str} (h : w.ownsRow b0 T 1 v l.length (strVs l)) : ∃ A cap, v = .slice A l.length cap ∧ StrsF w (fun b => b0 ≤ b) l A cap := by
  rw [← strVs_cells] at h
  exact RowA.of_own h (by decide) (by rw [List.length_map]) (fun c hc => by obtain ⟨s, _, rfl⟩ := List.mem_map.1 hc; rfl)
theorem strVs_one (l : List Str) : ∀ u ∈ strVs l, u.oneCell' = true := fun u hu => by
  obtain ⟨s, _, rfl⟩ := List.mem_map.1 hu
  rfl
theorem strVs_app (a b : List Str) : strVs (a ++ b) = strVs a ++ strVs b := List.map_append
theorem own_kept {w w1 : World} {b0 e s n : Nat} {v : Value} {xs : List Value} (h : w.ownsRow b0 e s v n xs) (k : Kept (fun b => b0 ≤ b) w w1) : w1.ownsRow b0 e s v n xs := by
  refine ⟨h.1, ?_⟩
  rcases h.2 with h0 | ⟨g, cap, cur, rfl, hg, hh, e1, e2, e3, e4⟩
  · exact .inl h0
  · have hlt := (h.lt g rfl).2
    exact .inr ⟨g, cap, cur, rfl, hg, (k.2 g hg hlt).trans hh, e1, e2, e3, e4⟩
theorem lcls_stop {n : Nat} {ts : List Tk} {r : Rs (List Str)} (hs : sg kVar ts = false) (h : lcls n ts = some r) : r = .ok [] ts := by
  cases n with
  | zero => rw [lcls] at h; cases h
  | succ n => rw [lcls, hs] at h; injection h with h; exact h.symm
theorem lcls_step {n : Nat} {ts : List Tk} {r : Rs (List Str)} (hs : sg kVar ts = true) (h : lcls n ts = some r) : ∃ m q, n = m + 1 ∧ varP m ts = some q ∧ (match q with | .bad c us => r = .bad c us | .ok x us => ∃ r', lcls m us = some r' ∧ r = catR x r') := by
  cases n with
  | zero => rw [lcls] at h; cases h
  | succ n =>
    rw [lcls, hs, if_pos rfl, var_eq hs] at h
    obtain ⟨q, hq, h2⟩ := opt_of h
    refine ⟨n, q, rfl, hq, ?_⟩
    cases q with
    | bad c us => injection h2 with h2; exact h2.symm
    | ok x us =>
      dsimp only
      rw [bnd_okk] at h2
      cases e2 : lcls n us with
      | none => simp only [bnd, e2] at h2; cases h2
      | some v =>
        refine ⟨v, rfl, ?_⟩
        cases v <;> (simp only [bnd, e2] at h2; injection h2 with h2; exact h2.symm)
def funcP (n : Nat) (ts : List Tk) : Option (Rs Fn) := bnd (some (want kFunc ts)) fun _ ts => bnd (some (name ts)) fun s ts => bnd (some (enter [40] 0 ts)) fun _ ts => bnd (prms n ts) fun p ts =>
  bnd (some (want [41] ts)) fun _ ts => bnd (some (enter [123] 0 ts)) fun _ ts => bnd (lcls n ts) fun l ts => bnd (stms n 1 ts) fun b ts => bnd (some (want [125] ts)) fun _ ts => some (.ok ⟨s, p, l, b⟩ ts)
theorem func_eq {n : Nat} {ts : List Tk} (h : sg kFunc ts = true) : func n ts = funcP n ts := by
  unfold func funcP
  rw [want_yes h]
  rfl
def FnR (F : Nat → Prop) : Fn → Value → World → Prop := fun x v w' => ∃ (S : ByteArray) (P L C : Option Addr) (lp cp ll cl lc cc : Nat), v = .agg #[.string S, .slice P lp cp, .slice L ll cl, .slice C lc cc] ∧ FnC w' F x [.string S, .slice P lp cp, .slice L ll cl, .slice C lc cc]
theorem fn_box4 {W : World} {g : Nat} {c0 c1 c2 c3 : Value} (h : Blk 44 W g [c0, c1, c2, c3]) : W.cell? ⟨g, 0, none⟩ = some c0 ∧ W.cell? ⟨g, 1, none⟩ = some c1 ∧ W.cell? ⟨g, 2, none⟩ = some c2 ∧ W.cell? ⟨g, 3, none⟩ = some c3 ∧
    W.frozen? ⟨g, 0, none⟩ = false ∧ W.frozen? ⟨g, 1, none⟩ = false ∧ W.frozen? ⟨g, 2, none⟩ = false ∧ W.frozen? ⟨g, 3, none⟩ = false := ⟨h.cell 0, h.cell 1, h.cell 2, h.cell 3, h.frz 0, h.frz 1, h.frz 2, h.frz 3⟩
section
variable {base B k o : Nat} {l : List L19.Tok} {w : World}
set_option maxHeartbeats 8000000 in
theorem function_any {n : Nat} (h : RdS base B l k 0 w) {r : Rs Fn} (hr : funcP n (at_ l k) = some r) :
    Calls Tryz.prog 65 #[.pointer (some ⟨B, 0, none⟩)] w (Ae base B l 0 w (FnR fun b => w.heap.size ≤ b) r) := by
  unfold funcP at hr
  obtain ⟨i0, hi, hi0, hi1, hi2⟩ := info_parts info_string
  have hSt := (all_sta base B l n).2.1
  have hmf : ∀ (fn : Go.Fn) (first cap : Array Value) (w : World), (Instr.makeFunc fn first cap).run Tryz.prog w = .ok (.func fn first cap) w := fun _ _ _ _ => rfl
  obtain ⟨W0, g, hW0, hg0, hb0, hst0, hgr0, hbg, hgl, hgB⟩ := start_box h [.string ⟨#[]⟩, .slice none 0 0, .slice none 0 0, .slice none 0 0] 44
  have c1 := Lib.hid (expect_any hst0 ks_func (S := ⟨#[102, 117, 110, 99]⟩) rfl)
  have hwg : w.heap.size ≤ g := by omega
  have hlow := h.low
  have hok := h.ok
  replace hr := Lib.hid hr
  replace hb0 := Lib.hid hb0
  replace hgr0 := Lib.hid hgr0
  replace hSt := Lib.hid hSt
  replace hok := Lib.hid hok
  clear h hst0
  go_enter Tryz.func65, Tryz.ntmps65
  go_wp2_with fail
  refine (c1.out).mono ?_
  rintro e w1 (⟨a1, k1, v1, hx1, rfl, hv1, hst1, hg1⟩ | ⟨c, ts, hx1, rfl, hg1⟩)
  case inr => exact ⟨rfl, Ae.bad (bad_of hr.out hx1) (hgr0.out.trans hg1)⟩
  unfold UnitR at hv1
  subst hv1
  have hr1 := Lib.hid (ok_of hr.out hx1)
  have c2 := Lib.hid (name_any hst1)
  have hgr1 := Lib.hid (hgr0.out.trans hg1)
  have hb1 := Lib.hid (hg1.blk hb0.out hgB)
  have hs1 := hg1.size
  clear hr c1 hx1 hst1 hg1 hgr0 hb0 hW0
  go_wp2_with fail
  refine (c2.out).mono ?_
  rintro e w2 (⟨s, k2, v2, hx2, rfl, hv2, hst2, hg2⟩ | ⟨c, ts, hx2, rfl, hg2⟩)
  case inr => exact ⟨rfl, Ae.bad (bad_of hr1.out hx2) (hgr1.out.trans hg2)⟩
  obtain ⟨X, hX⟩ : ∃ X, strV s = .string X := ⟨_, rfl⟩
  unfold StrR at hv2
  rw [hX] at hv2
  subst hv2
  have hr2 := Lib.hid (ok_of hr1.out hx2)
  have hs2 := hg2.size
  obtain ⟨W3, g3, hW3, hg3, hb3, hst3, hgr3, hbg3, hgl3, hgB3⟩ := start_box hst2 [.string X, .slice none 0 0, .slice none 0 0, .slice none 0 0] 44
  have hbl3 : Below w2.heap.size w2 W3 := by rw [← hW3]; exact boxed w2 _
  have c3 := Lib.hid (begin_any hst3 (ks_one 40 (by decide)) (S := ⟨#[40]⟩) rfl)
  have hgr2 := Lib.hid (Gr.below (hgr1.out.trans hg2) hbl3)
  have hb2 := Lib.hid ((hg2.blk hb1.out hgB).below hbl3)
  have hgg : g ≠ g3 := by omega
  have hw3 : w.heap.size ≤ g3 := by omega
  have hgg3 : g < g3 := by omega
  replace hb3 := Lib.hid hb3
  clear hr1 c2 hx2 hst2 hg2 hgr1 hb1 hst3 hgr3 hbl3
  subst hW3
  go_wp2_with fail
  refine (c3.out).mono ?_
  rintro e w4 (⟨a4, k4, v4, hx4, rfl, hv4, hst4, hg4⟩ | ⟨c, ts, hx4, rfl, hg4⟩)
  case inr => exact ⟨rfl, Ae.bad (bad_of hr2.out hx4) (hgr2.out.trans hg4)⟩
  unfold UnitR at hv4
  subst hv4
  have hr4 := ok_of hr2.out hx4
  have hgr4 := Lib.hid (hgr2.out.trans hg4)
  have hb4 := Lib.hid (hg4.blk hb2.out hgB)
  have hb34 := Lib.hid (hg4.blk hb3.out hgB3)
  have hz4 : g3 < w4.heap.size := by have := hg4.size; omega
  have cN := Lib.hid (isNext_any hst4 (ks_one 41 (by decide)) (S := ⟨#[41]⟩) rfl)
  obtain ⟨f, hf⟩ : ∃ f : List Str → List Tk → Option (Rs Fn), f = fun p ts => bnd (some (want [41] ts)) fun _ ts => bnd (some (enter [123] 0 ts)) fun _ ts => bnd (lcls n ts) fun l ts => bnd (stms n 1 ts) fun b ts => bnd (some (want [125] ts)) fun _ ts => some (.ok ⟨s, p, l, b⟩ ts) := ⟨_, rfl⟩
  replace hr4 : bnd (prms n (at_ l k4)) f = some r := by rw [hf]; exact hr4
  replace hf := Lib.hid hf
  replace hst4 := Lib.hid hst4
  replace hr4 := Lib.hid hr4
  clear hr2 c3 hx4 hg4 hgr2 hb2 hb3
  obtain ⟨bb, hbb⟩ : ∃ bb, sg [41] (at_ l k4) = bb := ⟨_, rfl⟩
  rw [hbb] at cN
  replace hbb := Lib.hid hbb
  go_wp2_with fail
  refine (cN.out).mono ?_
  rintro e w5 ⟨rfl, hb5⟩
  go_upto_if 13 with fail
  go_cut [3] from 14 to 18 (fun p3 W => ∃ (ps : List Str) (k5 : Nat) (A : Option Addr) (L cap : Nat), p3 = .pointer (some ⟨g3, 0, none⟩) ∧ Hid (f ps (at_ l k5) = some r) ∧ Hid (RdS base B l k5 1 W) ∧ Hid (Gr B w W) ∧ Hid (Blk 44 W g [.string ⟨#[]⟩, .slice none 0 0, .slice none 0 0, .slice none 0 0]) ∧
    Hid (Blk 44 W g3 [.string X, .slice A L cap, .slice none 0 0, .slice none 0 0]) ∧ Hid (ps.length = L) ∧ Hid (StrsF W (fun b => g3 < b ∧ b < W.heap.size) ps A cap) ∧ g3 < W.heap.size)
  case first =>
    have hr4' := hr4.out
    unfold prms at hr4'
    have hbb' := hbb.out
    rcases hs : bb with _ | _
    all_goals rw [hs] at hbb'
    all_goals subst hs
    · rw [hbb', if_neg Bool.false_ne_true] at hr4'
      obtain ⟨q5, hq5, hr5⟩ := opt_of hr4'
      have cL := Lib.hid (fun W (hW : Below w4.heap.size w4 W) => listS_any (hst4.out.below hW) hq5)
      replace hr5 := Lib.hid hr5
      clear hr4 hr4' hq5 hst4
      have cl := Lib.hid (cL.out w5 hb5)
      have hgr5 := Lib.hid (Gr.below hgr4.out hb5)
      have hbg5 := Lib.hid (hb4.out.below hb5)
      have hb35 := Lib.hid (hb34.out.below hb5)
      have hz5 := hb5.size
      clear hgr4 hb4 hb34 hb5 cL cN
      go_wp2_with fail
      refine (cl.out).mono ?_
      rintro e w6 (⟨ps, k6, v6, hx6, rfl, ⟨A, L, cap, rfl, hL6, hC6⟩, hst6, hg6⟩ | ⟨c, ts, hx6, rfl, hg6⟩)
      case inr => exact ⟨rfl, Ae.bad (bad_of hr5.out hx6) (hgr5.out.trans hg6)⟩
      have hr6 := ok_of hr5.out hx6
      have hb36 := hg6.blk hb35.out hgB3
      obtain ⟨y0, y1, y2, y3, f0, f1, f2, f3⟩ := fn_box4 hb36
      have hz6 := hg6.size
      obtain ⟨W7, hW7⟩ : ∃ W, w6.setCell ⟨g3, 1, none⟩ (.slice A L cap) = W := ⟨_, rfl⟩
      have j1 : RdS base B l k6 1 W7 := by rw [← hW7]; exact hst6.set hbg3 1 _
      have j2 : Gr B w W7 := by rw [← hW7]; exact Gr.set (hgr5.out.trans hg6) hw3 _
      have j3 := Blk.other (hg6.blk hbg5.out hgB) hgg (i := 1) (.slice A L cap)
      rw [hW7] at j3
      have j4 : Blk 44 W7 g3 [.string X, .slice A L cap, .slice none 0 0, .slice none 0 0] := by rw [← hW7]; exact hb36.set 1 _
      have j5 : StrsF W7 (fun b => g3 < b ∧ b < W7.heap.size) ps A cap := by
        rw [← hW7]
        refine (hC6.keep (Kept.set w6 (by show ¬ w5.heap.size ≤ g3; omega) _)).mono fun b hb h => ⟨by have : w5.heap.size ≤ b := h; omega, hb⟩
      have j6 : g3 < W7.heap.size := j4.lt
      replace hr6 := Lib.hid hr6
      replace j1 := Lib.hid j1
      replace j2 := Lib.hid j2
      replace j3 := Lib.hid j3
      replace j4 := Lib.hid j4
      replace j5 := Lib.hid j5
      replace hL6 := Lib.hid hL6
      clear hg6 hst6 hC6 hb36 hgr5 hbg5 hb35 hx6 hr5 cl
      go_wp2_with fail
      go_meet
      case rel => exact ⟨ps, k6, A, L, cap, rfl, hr6, j1, j2, j3, j4, hL6, j5, j6⟩
    · rw [hbb', if_pos rfl] at hr4'
      replace hr4' := Lib.hid hr4'
      clear hr4
      have j0 := Lib.hid (ok_of hr4'.out rfl)
      have j1 := Lib.hid (hst4.out.below hb5)
      have j2 := Lib.hid (Gr.below hgr4.out hb5)
      have j3 := Lib.hid (hb4.out.below hb5)
      have j4 := Lib.hid (hb34.out.below hb5)
      have j5 := Lib.hid (StrsF.nil w5 (fun b => g3 < b ∧ b < w5.heap.size))
      have j6 : g3 < w5.heap.size := by have := hb5.size; omega
      clear hgr4 hb4 hb34 hb5 hst4 cN hr4'
      go_wp2_with fail
      go_meet
      case rel => exact ⟨[], k4, none, 0, 0, rfl, j0, j1, j2, j3, j4, Lib.hid rfl, j5, j6⟩
  case rest =>
    clear hr4 hst4 hgr4 hb4 hb34 cN hb5 hbb
    obtain ⟨ps, k5, A, L, cap, hp3, i1, i2, i3, i4, i5, i6, i7, hz5⟩ := hcut
    subst hp3
    have hr5 := i1.out
    rw [hf.out] at hr5
    have c6 := Lib.hid (end_any i2.out (ks_one 41 (by decide)) (S := ⟨#[41]⟩) rfl)
    replace hr5 := Lib.hid hr5
    clear i1 hf i2
    go_wp2_with fail
    refine (c6.out).mono ?_
    rintro e w6 (⟨a6, k6, v6, hx6, rfl, hv6, hst6, hg6⟩ | ⟨c, ts, hx6, rfl, hg6⟩)
    case inr => exact ⟨rfl, Ae.bad (bad_of hr5.out hx6) (i3.out.trans hg6)⟩
    unfold UnitR at hv6
    subst hv6
    have hr6 := Lib.hid (ok_of hr5.out hx6)
    have c7 := Lib.hid (begin_any hst6 (ks_one 123 (by decide)) (S := ⟨#[123]⟩) rfl)
    have hgr6 := Lib.hid (i3.out.trans hg6)
    have hb6 := Lib.hid (hg6.blk i4.out hgB)
    have hb36 := Lib.hid (hg6.blk i5.out hgB3)
    have hps6 := Lib.hid (i7.out.keep (Gr.kept hg6 fun b h => by have := h.1; omega))
    have hz6 := hg6.size
    clear hr5 hx6 hst6 hg6 i3 i4 i5 i7 c6
    go_wp2_with fail
    refine (c7.out).mono ?_
    rintro e w7 (⟨a7, k7, v7, hx7, rfl, hv7, hst7, hg7⟩ | ⟨c, ts, hx7, rfl, hg7⟩)
    case inr => exact ⟨rfl, Ae.bad (bad_of hr6.out hx7) (hgr6.out.trans hg7)⟩
    unfold UnitR at hv7
    subst hv7
    obtain ⟨f2, hf2⟩ : ∃ f2 : List Str → List Tk → Option (Rs Fn), f2 = fun q ts => bnd (stms n 1 ts) fun b ts => bnd (some (want [125] ts)) fun _ ts => some (.ok ⟨s, ps, q, b⟩ ts) := ⟨_, rfl⟩
    have hr7 : bnd (lcls n (at_ l k7)) f2 = some r := by rw [hf2]; exact ok_of hr6.out hx7
    obtain ⟨q7, hq7, hr8⟩ := opt_of hr7
    have hgr7 := Lib.hid (hgr6.out.trans hg7)
    have hb7 := Lib.hid (hg7.blk hb6.out hgB)
    have hb37 := Lib.hid (hg7.blk hb36.out hgB3)
    have hz7 := hg7.size
    have hk7 := hst7.kn
    obtain ⟨z, hz⟩ : ∃ z, w7.heap.size = z := ⟨_, rfl⟩
    have hps7 : StrsF w7 (fun b => g3 < b ∧ b < z) ps A cap := (hps6.out.keep (Gr.kept hg7 fun b h => by have := h.1; omega)).mono fun b _ h => ⟨h.1, by have := h.2; omega⟩
    have hstart : Hid (∃ m q, m ≤ n ∧ lcls m (at_ l k7) = some q ∧ bnd (some (catR [] q)) f2 = some r) := Lib.hid ⟨n, q7, Nat.le_refl _, hq7, by rw [show catR [] q7 = q7 by cases q7 <;> rfl]; exact hr8⟩
    have hown7 := Lib.hid (A18.own_none w7 z 9 1)
    have hzB : B < z := by omega
    have hzg : g3 < z := by omega
    have hzb : base ≤ z := by omega
    replace hps7 := Lib.hid hps7
    replace hst7 := Lib.hid hst7
    replace hf2 := Lib.hid hf2
    have hz0 : z ≤ w7.heap.size := Nat.le_of_eq hz.symm
    clear hr6 hx7 hg7 hgr6 hb6 hb36 hps6 c7 hr7 hq7 hr8 hz
    go_wp2
    go_loopw [24] (fun _ wr => ∃ (k' : Nat) (acc : List Str) (v : Value), k' ≤ l.length ∧ acc.length ≤ k' ∧ Hid (∃ m q, m ≤ n ∧ lcls m (at_ l k') = some q ∧ bnd (some (catR acc q)) f2 = some r) ∧ Hid (RdS base B l k' 1 wr) ∧ Hid (Gr B w wr) ∧
      Hid (Blk 44 wr g [.string ⟨#[]⟩, .slice none 0 0, .slice none 0 0, .slice none 0 0]) ∧ Hid (Blk 44 wr g3 [.string X, .slice A L cap, v, .slice none 0 0]) ∧ Hid (StrsF wr (fun b => g3 < b ∧ b < z) ps A cap) ∧ Hid (wr.ownsRow z 9 1 v acc.length (strVs acc)) ∧ z ≤ wr.heap.size) (fun _ wr => l.length - placeOf wr B)
    case atStart => exact ⟨k7, [], _, hk7, Nat.zero_le _, hstart, hst7, hgr7, hb7, hb37, hps7, hown7, hz0⟩
    case round =>
      clear hstart hst7 hgr7 hb7 hb37 hps7 hown7 hz0 hk7 hz7 hz6 hz5
      obtain ⟨k', acc, v, hk', hac, hq, hst, hgr, hbg', hb3', hps, hown, hzr⟩ := hrel
      have cN := Lib.hid (isNext_any hst.out ks_var (S := ⟨#[118, 97, 114]⟩) rfl)
      rcases hs : sg kVar (at_ l k') with _ | _
      · rw [hs] at cN
        have hr9 : f2 acc (at_ l k') = some r := by
          obtain ⟨m, q, _, h1, h2⟩ := hq.out
          rw [lcls_stop hs h1] at h2
          simp only [catR, List.append_nil] at h2
          exact h2
        rw [hf2.out] at hr9
        obtain ⟨q9, hq9, hr10⟩ := opt_of hr9
        have cS := Lib.hid (fun W (hW : Below wr.heap.size wr W) => hSt.out n (Nat.le_refl _) 1 k' W q9 (hst.out.below hW) hq9)
        obtain ⟨Av, capv, rfl, hsv⟩ := strs_own hown.out
        replace hr10 := Lib.hid hr10
        replace hsv := Lib.hid hsv
        clear hs hq hr9 hq9 hst hown hSt
        go_wp2_with fail
        refine (cN.out).mono ?_
        rintro e w8 ⟨rfl, hb8⟩
        have cs := Lib.hid (cS.out w8 hb8)
        have hgr8 := Lib.hid (Gr.below hgr.out hb8)
        have hbg8 := Lib.hid (hbg'.out.below hb8)
        have hb38 := Lib.hid (hb3'.out.below hb8)
        have hps8 := Lib.hid (hps.out.keep (Kept.of_below hb8))
        have hsv8 := Lib.hid (hsv.out.keep (Kept.of_below hb8))
        have hz8 := hb8.size
        clear hgr hbg' hb3' hps hsv hb8 cN cS
        go_wp2_with fail
        refine (cs.out).mono ?_
        rintro e w9 (⟨lb, k9, v9, hx9, rfl, ⟨A9, L9, cap9, rfl, hL9, hC9⟩, hst9, hg9⟩ | ⟨c, ts, hx9, rfl, hg9⟩)
        case inr => exact ⟨rfl, Ae.bad (bad_of hr10.out hx9) (hgr8.out.trans hg9)⟩
        have hr11 := Lib.hid (ok_of hr10.out hx9)
        have hb39 := hg9.blk hb38.out hgB3
        obtain ⟨y0, y1, y2, y3, f0, f1, ff2, f3⟩ := fn_box4 hb39
        obtain ⟨W10, hW10⟩ : ∃ W, w9.setCell ⟨g3, 3, none⟩ (.slice A9 L9 cap9) = W := ⟨_, rfl⟩
        have j1 : RdS base B l k9 1 W10 := by rw [← hW10]; exact hst9.set hbg3 3 _
        have j2 : Gr B w W10 := by rw [← hW10]; exact Gr.set (hgr8.out.trans hg9) hw3 _
        have j3 := Blk.other (hg9.blk hbg8.out hgB) hgg (i := 3) (.slice A9 L9 cap9)
        rw [hW10] at j3
        have j4 : Blk 44 W10 g3 [.string X, .slice A L cap, .slice Av acc.length capv, .slice A9 L9 cap9] := by rw [← hW10]; exact hb39.set 3 _
        have hk10 : Kept (fun b => g3 < b) w9 W10 := by rw [← hW10]; exact Kept.set w9 (by show ¬ g3 < g3; omega) _
        have hps10 : StrsF W10 (fun b => g3 < b) ps A cap := ((hps8.out.keep (Gr.kept hg9 fun b h => by have := h.1; omega)).mono fun b _ h => h.1).keep hk10
        have hsv10 : StrsF W10 (fun b => g3 < b) acc Av capv := ((hsv8.out.keep (Gr.kept hg9 fun b h => by have : z ≤ b := h; omega)).mono (G := fun b => g3 < b) fun b _ h => by have : z ≤ b := h; omega).keep hk10
        have hC10 : Sts W10 (fun b => g3 < b) lb A9 cap9 := (hC9.mono (G := fun b => g3 < b) fun b _ h => by have : w8.heap.size ≤ b := h; omega).keep hk10
        have c11 := Lib.hid (end_any j1 (ks_one 125 (by decide)) (S := ⟨#[125]⟩) rfl)
        replace j2 := Lib.hid j2
        replace j3 := Lib.hid j3
        replace j4 := Lib.hid j4
        replace hps10 := Lib.hid hps10
        replace hsv10 := Lib.hid hsv10
        replace hC10 := Lib.hid hC10
        clear hr10 hx9 hg9 hst9 hC9 hgr8 hbg8 hb38 hps8 hsv8 hb39 hk10 j1 cs
        go_wp2_with fail
        refine (c11.out).mono ?_
        rintro e w11 (⟨a11, k11, v11, hx11, rfl, hv11, hst11, hg11⟩ | ⟨c, ts, hx11, rfl, hg11⟩)
        case inr => exact ⟨rfl, Ae.bad (bad_of hr11.out hx11) (j2.out.trans hg11)⟩
        unfold UnitR at hv11
        subst hv11
        have hr12 : r = .ok ⟨s, ps, acc, lb⟩ (at_ l k11) := by
          have := ok_of hr11.out hx11
          injection this with this
          exact this.symm
        have hbx := hg11.blk j3.out hgB
        obtain ⟨x0, x1, x2, x3, _, _, _, _⟩ := fn_box4 (hg11.blk j4.out hgB3)
        obtain ⟨u0, u1, u2, u3, e0, e1, e2, e3⟩ := fn_box4 hbx
        have kB : Kept (fun b => g3 < b) (j2.out.trans hg11 |> fun _ => W10) w11 := Gr.kept hg11 fun b h => by have : g3 < b := h; omega
        have kE : ∀ W (i : Nat) (u : Value), Kept (fun b => g3 < b) W (W.setCell ⟨g, i, none⟩ u) := fun W i u => Kept.set W (by show ¬ g3 < g; omega) u
        obtain ⟨WE, hWE⟩ : ∃ W, (((w11.setCell ⟨g, 0, none⟩ (.string X)).setCell ⟨g, 1, none⟩ (.slice A L cap)).setCell ⟨g, 2, none⟩ (.slice Av acc.length capv)).setCell ⟨g, 3, none⟩ (.slice A9 L9 cap9) = W := ⟨_, rfl⟩
        have kA : Kept (fun b => g3 < b) w11 WE := by rw [← hWE]; exact (((kE _ 0 _).trans (kE _ 1 _)).trans (kE _ 2 _)).trans (kE _ 3 _)
        have hFn : FnC WE (fun b => w.heap.size ≤ b) ⟨s, ps, acc, lb⟩ [.string X, .slice A L cap, .slice Av acc.length capv, .slice A9 L9 cap9] := by
          refine ⟨A, Av, A9, cap, capv, cap9, ?_, ((hps10.out.keep kB).keep kA).mono fun b _ h => (by have : g3 < b := h; omega), ((hsv10.out.keep kB).keep kA).mono fun b _ h => (by have : g3 < b := h; omega), ((hC10.out.keep kB).keep kA).mono fun b _ h => (by have : g3 < b := h; omega)⟩
          unfold fCells
          rw [show strV (Fn.mk s ps acc lb).name = _ from hX, show (Fn.mk s ps acc lb).params.length = L from i6.out, show (Fn.mk s ps acc lb).body.length = L9 from hL9]
        have hend : Ae base B l 0 w (FnR fun b => w.heap.size ≤ b) r (.returned (.agg #[.string X, .slice A L cap, .slice Av acc.length capv, .slice A9 L9 cap9])) WE := by
          refine Ae.ok hr12 ⟨X, A, Av, A9, L, cap, _, capv, L9, cap9, rfl, hFn⟩ ?_ ?_
          · rw [← hWE]; exact (((hst11.set hbg 0 _).set hbg 1 _).set hbg 2 _).set hbg 3 _
          · rw [← hWE]; exact Gr.set (Gr.set (Gr.set (Gr.set (j2.out.trans hg11) hwg _) hwg _) hwg _) hwg _
        have hbe : Blk 44 WE g [.string X, .slice A L cap, .slice Av acc.length capv, .slice A9 L9 cap9] := by rw [← hWE]; exact (((hbx.set 0 _).set 1 _).set 2 _).set 3 _
        replace hend := Lib.hid hend
        replace hbe := Lib.hid hbe
        clear kB kE kA hFn hr12 hbx hst11 hg11 hx11 hr11 j2 j3 j4 hps10 hsv10 hC10 c11 hW10 y0 y1 y2 y3 f0 f1 ff2 f3
        go_wp2
        exact ret_cell (cs := [.string X, .slice A L cap, .slice Av acc.length capv, .slice A9 L9 cap9]) rfl Tryz.underlying44 (by kernel_rfl) (by simp) hbe.out hend.out
      · rw [hs] at cN
        obtain ⟨m1, q, hm1, hvp, hq2⟩ : ∃ m1 q, m1 + 1 ≤ n ∧ varP m1 (at_ l k') = some q ∧ (match q with | .bad c us => r = .bad c us | .ok x us => ∃ q', lcls m1 us = some q' ∧ bnd (some (catR (acc ++ x) q')) f2 = some r) := by
          obtain ⟨m, q0, hm, h1, h2⟩ := hq.out
          obtain ⟨m1, q, e1, e2, e3⟩ := lcls_step hs h1
          refine ⟨m1, q, by omega, e2, ?_⟩
          cases q with
          | bad c us => dsimp only at e3 ⊢; subst e3; exact bad_of h2 rfl
          | ok x us =>
            dsimp only at e3 ⊢
            obtain ⟨q', e4, e5⟩ := e3
            exact ⟨q', e4, by rw [catR_cat, ← e5]; exact h2⟩
        have hplace := hst.out.place
        have hvars : vars m1 (at_ l k') = some q := by rw [var_eq hs]; exact hvp
        have hne0 := sg_nnil hs
        obtain ⟨A1, c1, hvv, hv1, hv2, hv3⟩ := A18.own2_slice hown.out
        clear hv1 hv2 hv3
        subst hvv
        have cV : ∀ W, Below wr.heap.size wr W → Calls Tryz.prog 63 #[.pointer (some ⟨B, 0, none⟩)] W (fun e w7 => (∃ (lx : List Str) (k8 : Nat) (A5 : Option Addr) (L5 cap5 : Nat), e = .returned (.slice A5 L5 cap5) ∧
            Hid (∃ m q, m ≤ n ∧ lcls m (at_ l k8) = some q ∧ bnd (some (catR (acc ++ lx) q)) f2 = some r) ∧ Hid (RdS base B l k8 1 w7) ∧ Hid (Gr B w w7) ∧ Hid (Blk 44 w7 g [.string ⟨#[]⟩, .slice none 0 0, .slice none 0 0, .slice none 0 0]) ∧
            Hid (Blk 44 w7 g3 [.string X, .slice A L cap, .slice A1 acc.length c1, .slice none 0 0]) ∧ Hid (StrsF w7 (fun b => g3 < b ∧ b < z) ps A cap) ∧ Hid (w7.ownsRow z 9 1 (.slice A1 acc.length c1) acc.length (strVs acc)) ∧
            Hid ((∃ ad, A5 = some ad ∧ ∀ j u, (strVs lx)[j]? = some u → w7.cell? (ad.add j) = some u) ∧ lx.length = L5 ∧ acc.length + L5 ≤ 60000) ∧ Hid (k' < k8 ∧ acc.length + lx.length ≤ k8) ∧ wr.heap.size ≤ w7.heap.size) ∨ (∃ c ts, e = .panicked [fl (lnAt l ts) c] ∧ Hid (Ae base B l 0 w (FnR fun b => w.heap.size ≤ b) r (.panicked [fl (lnAt l ts) c]) w7))) := fun W hW => by
          refine (variables_any (hst.out.below hW) hvp).mono ?_
          rintro e w7 (⟨lx, k8, v8, hx8, rfl, ⟨A5, L5, cap5, rfl, hL5, hC5⟩, hst8, hg8⟩ | ⟨c, ts, hx8, rfl, hg8⟩)
          · subst hx8
            have hrd := read_vars (hok.out.goodAt k') hne0 hvars
            have hk8 := hst8.kn
            have hlen := hok.out.len
            obtain ⟨_, hd1, hd2, _⟩ := hrd
            rw [at_len l hk', at_len l hk8] at hd1
            have hle : lx ≠ [] → 1 ≤ lx.length := fun h => List.length_pos_iff.2 h
            have hle2 := hle hd2
            have hws := hW.size
            have hgs := hg8.size
            exact .inl ⟨lx, k8, A5, L5, cap5, rfl, Lib.hid (by obtain ⟨q', e1, e2⟩ := hq2; exact ⟨m1, q', by omega, e1, e2⟩), Lib.hid hst8, Lib.hid ((Gr.below hgr.out hW).trans hg8), Lib.hid (hg8.blk (hbg'.out.below hW) hgB), Lib.hid (hg8.blk (hb3'.out.below hW) hgB3),
              Lib.hid ((hps.out.keep (Kept.of_below hW)).keep (Gr.kept hg8 fun b h => by have := h.1; omega)), Lib.hid (own_kept (own_kept hown.out (Kept.of_below hW)) (Gr.kept hg8 fun b h => by have : z ≤ b := h; omega)), Lib.hid ⟨hC5.news hd2, hL5, by omega⟩, Lib.hid ⟨by omega, by omega⟩, by omega⟩
          · have := hq2
            subst hx8
            exact .inr ⟨c, ts, rfl, Lib.hid (Ae.bad this ((Gr.below hgr.out hW).trans hg8))⟩
        replace cV := Lib.hid cV
        replace hb3' := Lib.hid hb3'.out
        clear hs hq hq2 hvp hvars hne0 hst hgr hbg' hps hown
        go_wp2_with fail
        refine (cN.out).mono ?_
        rintro e w6 ⟨rfl, hb6⟩
        have hb36 := hb3'.out.below hb6
        obtain ⟨Wd, hWd⟩ : ∃ W, w6.drew = W := ⟨_, rfl⟩
        have keep0 : Blk 44 w6.drew g3 [.string X, .slice A L cap, .slice A1 acc.length c1, .slice none 0 0] := hb36
        have hKd : Hid (Blk 44 Wd g3 [.string X, .slice A L cap, .slice A1 acc.length c1, .slice none 0 0]) := Lib.hid (by rw [← hWd]; exact keep0)
        have cVd := cV.out Wd (by rw [← hWd]; exact below_drewB hb6)
        replace cV := Lib.hid cVd
        replace hWd := Lib.hid hWd
        clear cVd hb3' hb6 hb36 cN
        go_wp2_with fail
        refine wp_region_held_drew (S := fun _ => True) (by kernel_rfl) trivial (fun hHeld => ?_)
        rw [hWd.out]
        refine wpAnyH_take (i := 0) (v := .pointer (some ⟨g3, 2, none⟩)) rfl (by kernel_rfl) (by kernel_rfl) (by kernel_rfl) (fun _ _ _ h => h) (Or.inl ⟨by rfl, ?h0⟩) (by assumption) ?r0
        case h0 =>
          intro W hW
          go_simp
        simp only [Act.put, List.setIfInBounds_toArray, List.set_cons_zero, List.set_cons_succ]
        refine wpAnyH_take (i := 2) (v := .pointer (some ⟨B, 0, none⟩)) rfl (by kernel_rfl) (by kernel_rfl) (by kernel_rfl) (fun _ _ _ h => h) (Or.inl ⟨by rfl, ?h1⟩) (by assumption) ?r1
        case h1 =>
          intro W hW
          go_simp
        simp only [Act.put, List.setIfInBounds_toArray, List.set_cons_zero, List.set_cons_succ]
        refine wpAnyH_ready (rs := [1, 3]) (by kernel_rfl) (by simp) ?_
        refine AllReadyH.cons rfl (fun K hK => ?_) (AllReadyH.cons rfl (fun K hK => ?_) AllReadyH.nil)
        · obtain ⟨x0, x1, x2, x3, _, _, _, _⟩ := fn_box4 hKd.out
          go_simp
          refine Shut.out hK _ _ trivial (fun hHeld => ?_)
          try simp only [Act.put, List.setIfInBounds_toArray, List.set_cons_zero, List.set_cons_succ]
          refine wpAnyH_ready (rs := [3]) (by kernel_rfl) (by simp) ?_
          refine AllReadyH.cons rfl (fun K hK => ?_) AllReadyH.nil
          · go_simp
            refine (cV.out).mono ?_
            rintro e w7 (⟨lx, k8, A5, L5, cap5, rfl, i1, i2, i3, i4, i5, i6, i7, i8, i9, i10⟩ | ⟨c, ts, rfl, i1⟩)
            case inr => exact ⟨rfl, i1.out⟩
            refine Shut.out hK _ _ trivial (fun hHeld => ?_)
            try simp only [Act.put, List.setIfInBounds_toArray, List.set_cons_zero, List.set_cons_succ]
            refine wpAnyH_ready (rs := [4]) (by kernel_rfl) (by simp) ?_
            refine AllReadyH.cons rfl (fun K hK => ?_) AllReadyH.nil
            · obtain ⟨⟨ad, had, hnews⟩, hL5, hsum⟩ := i8.out
              subst had
              rw [if_pos (by rfl)]
              refine wp_append_at _ _ 23 rfl z 9 i0 (.string ⟨#[]⟩) 1 16 Tryz.underlying23 hi hi0 hi1 hi2 rfl (by decide) (.slice A1 acc.length c1) acc.length (strVs acc) rfl i7.out ad L5 cap5 (strVs lx) rfl (by rw [strVs_len]; omega) hnews (strVs_one lx) (by unfold maxLen; omega) (by omega) (by have := i10; omega) ?_
              intro v2 w8 hown2 hgrow hblk
              have hrow : ∀ j, (Value.slice A1 acc.length c1).ownBlock = some j → z ≤ j := fun j hj => (World.ownsRow.lt i7.out j hj).1
              have hb38 : Blk 44 w8 g3 [.string X, .slice A L cap, .slice A1 acc.length c1, .slice none 0 0] := (hgrow.block g3 i5.out.lt (fun e => by have := hrow g3 e.symm; omega)).trans i5.out
              refine Shut.out hK _ _ trivial (fun hHeld => ?_)
              try simp only [Act.put, List.setIfInBounds_toArray, List.set_cons_zero, List.set_cons_succ]
              refine wpAnyH_ready (rs := [5]) (by kernel_rfl) (by simp) ?_
              refine AllReadyH.cons rfl (fun K hK => ?_) AllReadyH.nil
              · go_simp
                refine Shut.out hK _ _ trivial (fun hHeld => ?_)
                try simp only [Act.put, List.setIfInBounds_toArray, List.set_cons_zero, List.set_cons_succ]
                refine wpAnyH_ready (rs := [6]) (by kernel_rfl) (by simp) ?_
                refine AllReadyH.cons rfl (fun K hK => ?_) AllReadyH.nil
                · obtain ⟨A2, cap2, hv2, _, _, _⟩ := A18.own2_slice hown2
                  subst hv2
                  obtain ⟨y0, y1, y2, y3, f0, f1, ff2, f3⟩ := fn_box4 hb38
                  obtain ⟨W9, hW9⟩ : ∃ W, w8.setCell ⟨g3, 2, none⟩ (.slice A2 (acc.length + L5) cap2) = W := ⟨_, rfl⟩
                  have j1 : RdS base B l k8 1 W9 := by rw [← hW9]; exact (i2.out.grow hgrow (fun j hj => Nat.le_trans hzb (hrow j hj))).set hbg3 2 _
                  have j2 : Gr B w W9 := by rw [← hW9]; exact Gr.set (Gr.grow i3.out hgrow (fun j hj => by have := hrow j hj; omega)) hw3 _
                  have j3 : Blk 44 W9 g [.string ⟨#[]⟩, .slice none 0 0, .slice none 0 0, .slice none 0 0] := by rw [← hW9]; exact Blk.other ((hgrow.block g i4.out.lt (fun e => by have := hrow g e.symm; omega)).trans i4.out) hgg _
                  have j4 : Blk 44 W9 g3 [.string X, .slice A L cap, .slice A2 (acc.length + L5) cap2, .slice none 0 0] := by rw [← hW9]; exact hb38.set 2 _
                  have j5 : StrsF W9 (fun b => g3 < b ∧ b < z) ps A cap := by
                    rw [← hW9]
                    refine (i6.out.keep ⟨hgrow.size, fun b hb hl => hgrow.block b hl (fun e => by have := hrow b e.symm; have := hb.2; omega)⟩).keep (Kept.set w8 (fun h => by have := h.1; omega) _)
                  have j6 : W9.ownsRow z 9 1 (.slice A2 (acc.length + L5) cap2) (acc ++ lx).length (strVs (acc ++ lx)) := by
                    rw [← hW9, strVs_app, List.length_append, hL5]
                    exact own_kept hown2 (Kept.set w8 (fun h => by have : z ≤ g3 := h; omega) _)
                  have j7 : z ≤ W9.heap.size := by have := hgrow.size; have := i10; rw [← hW9]; simp; omega
                  have hpl := j1.place
                  have hk8 := j1.kn
                  obtain ⟨hadv, hal⟩ := i9.out
                  have hal2 : (acc ++ lx).length ≤ k8 := by rw [List.length_append]; exact hal
                  have hkk := Blk.set hb38 2 (.slice A2 (acc.length + L5) cap2)
                  have hne3 : g3 ≠ g3 + 1 := by omega
                  replace j1 := Lib.hid j1
                  replace j2 := Lib.hid j2
                  replace j3 := Lib.hid j3
                  replace j4 := Lib.hid j4
                  replace j5 := Lib.hid j5
                  replace j6 := Lib.hid j6
                  replace hkk := Lib.hid hkk
                  go_simp
                  refine Shut.out hK _ _ trivial (fun hHeld => ?_)
                  refine wpAnyH_done (by kernel_rfl) ?_ _
                  clear hHeld hkk hb38 hown2 hgrow hblk hrow hnews hK i2 i3 i4 i5 i6 i7 i8 i9 y0 y1 y2 y3 f0 f1 ff2 f3 hne3
                  go_wp2
                  go_roundw
                  case rel => exact ⟨k8, acc ++ lx, _, hk8, hal2, i1, j1, j2, j3, j4, j5, j6, j7⟩
                  case measure => rw [hpl, hplace]; omega
        · go_simp
          refine (cV.out).mono ?_
          rintro e w7 (⟨lx, k8, A5, L5, cap5, rfl, i1, i2, i3, i4, i5, i6, i7, i8, i9, i10⟩ | ⟨c, ts, rfl, i1⟩)
          case inr => exact ⟨rfl, i1.out⟩
          refine Shut.out hK _ _ trivial (fun hHeld => ?_)
          try simp only [Act.put, List.setIfInBounds_toArray, List.set_cons_zero, List.set_cons_succ]
          refine wpAnyH_ready (rs := [1]) (by kernel_rfl) (by simp) ?_
          refine AllReadyH.cons rfl (fun K hK => ?_) AllReadyH.nil
          · obtain ⟨x0, x1, x2, x3, _, _, _, _⟩ := fn_box4 i5.out
            go_simp
            refine Shut.out hK _ _ trivial (fun hHeld => ?_)
            try simp only [Act.put, List.setIfInBounds_toArray, List.set_cons_zero, List.set_cons_succ]
            refine wpAnyH_ready (rs := [4]) (by kernel_rfl) (by simp) ?_
            refine AllReadyH.cons rfl (fun K hK => ?_) AllReadyH.nil
            · obtain ⟨⟨ad, had, hnews⟩, hL5, hsum⟩ := i8.out
              subst had
              rw [if_pos (by rfl)]
              refine wp_append_at _ _ 23 rfl z 9 i0 (.string ⟨#[]⟩) 1 16 Tryz.underlying23 hi hi0 hi1 hi2 rfl (by decide) (.slice A1 acc.length c1) acc.length (strVs acc) rfl i7.out ad L5 cap5 (strVs lx) rfl (by rw [strVs_len]; omega) hnews (strVs_one lx) (by unfold maxLen; omega) (by omega) (by have := i10; omega) ?_
              intro v2 w8 hown2 hgrow hblk
              have hrow : ∀ j, (Value.slice A1 acc.length c1).ownBlock = some j → z ≤ j := fun j hj => (World.ownsRow.lt i7.out j hj).1
              have hb38 : Blk 44 w8 g3 [.string X, .slice A L cap, .slice A1 acc.length c1, .slice none 0 0] := (hgrow.block g3 i5.out.lt (fun e => by have := hrow g3 e.symm; omega)).trans i5.out
              refine Shut.out hK _ _ trivial (fun hHeld => ?_)
              try simp only [Act.put, List.setIfInBounds_toArray, List.set_cons_zero, List.set_cons_succ]
              refine wpAnyH_ready (rs := [5]) (by kernel_rfl) (by simp) ?_
              refine AllReadyH.cons rfl (fun K hK => ?_) AllReadyH.nil
              · go_simp
                refine Shut.out hK _ _ trivial (fun hHeld => ?_)
                try simp only [Act.put, List.setIfInBounds_toArray, List.set_cons_zero, List.set_cons_succ]
                refine wpAnyH_ready (rs := [6]) (by kernel_rfl) (by simp) ?_
                refine AllReadyH.cons rfl (fun K hK => ?_) AllReadyH.nil
                · obtain ⟨A2, cap2, hv2, _, _, _⟩ := A18.own2_slice hown2
                  subst hv2
                  obtain ⟨y0, y1, y2, y3, f0, f1, ff2, f3⟩ := fn_box4 hb38
                  obtain ⟨W9, hW9⟩ : ∃ W, w8.setCell ⟨g3, 2, none⟩ (.slice A2 (acc.length + L5) cap2) = W := ⟨_, rfl⟩
                  have j1 : RdS base B l k8 1 W9 := by rw [← hW9]; exact (i2.out.grow hgrow (fun j hj => Nat.le_trans hzb (hrow j hj))).set hbg3 2 _
                  have j2 : Gr B w W9 := by rw [← hW9]; exact Gr.set (Gr.grow i3.out hgrow (fun j hj => by have := hrow j hj; omega)) hw3 _
                  have j3 : Blk 44 W9 g [.string ⟨#[]⟩, .slice none 0 0, .slice none 0 0, .slice none 0 0] := by rw [← hW9]; exact Blk.other ((hgrow.block g i4.out.lt (fun e => by have := hrow g e.symm; omega)).trans i4.out) hgg _
                  have j4 : Blk 44 W9 g3 [.string X, .slice A L cap, .slice A2 (acc.length + L5) cap2, .slice none 0 0] := by rw [← hW9]; exact hb38.set 2 _
                  have j5 : StrsF W9 (fun b => g3 < b ∧ b < z) ps A cap := by
                    rw [← hW9]
                    refine (i6.out.keep ⟨hgrow.size, fun b hb hl => hgrow.block b hl (fun e => by have := hrow b e.symm; have := hb.2; omega)⟩).keep (Kept.set w8 (fun h => by have := h.1; omega) _)
                  have j6 : W9.ownsRow z 9 1 (.slice A2 (acc.length + L5) cap2) (acc ++ lx).length (strVs (acc ++ lx)) := by
                    rw [← hW9, strVs_app, List.length_append, hL5]
                    exact own_kept hown2 (Kept.set w8 (fun h => by have : z ≤ g3 := h; omega) _)
                  have j7 : z ≤ W9.heap.size := by have := hgrow.size; have := i10; rw [← hW9]; simp; omega
                  have hpl := j1.place
                  have hk8 := j1.kn
                  obtain ⟨hadv, hal⟩ := i9.out
                  have hal2 : (acc ++ lx).length ≤ k8 := by rw [List.length_append]; exact hal
                  have hkk := Blk.set hb38 2 (.slice A2 (acc.length + L5) cap2)
                  have hne3 : g3 ≠ g3 + 1 := by omega
                  replace j1 := Lib.hid j1
                  replace j2 := Lib.hid j2
                  replace j3 := Lib.hid j3
                  replace j4 := Lib.hid j4
                  replace j5 := Lib.hid j5
                  replace j6 := Lib.hid j6
                  replace hkk := Lib.hid hkk
                  go_simp
                  refine Shut.out hK _ _ trivial (fun hHeld => ?_)
                  refine wpAnyH_done (by kernel_rfl) ?_ _
                  clear hHeld hkk hb38 hown2 hgrow hblk hrow hnews hK i2 i3 i4 i5 i6 i7 i8 i9 y0 y1 y2 y3 f0 f1 ff2 f3 hne3
                  go_wp2
                  go_roundw
                  case rel => exact ⟨k8, acc ++ lx, _, hk8, hal2, i1, j1, j2, j3, j4, j5, j6, j7⟩
                  case measure => rw [hpl, hplace]; omega
end
end Go.Proofs.YtpbcncfbfbghcaaGreatDoor.L20
namespace Go.Proofs.YtpbcncfbfbghcaaGreatDoor.L20
set_option maxRecDepth 100000
open Go.RowKit Mem L19
set_option linter.unusedVariables false
set_option linter.unusedSimpArgs false

def arCells (l : List (Str × Nat)) : List Value := l.flatMap fun a => [strV a.1, .int .i64 (a.2 : Int)]
theorem arCells_snoc (l : List (Str × Nat)) (a : Str × Nat) : arCells (l ++ [a]) = arCells l ++ [strV a.1, .int .i64 (a.2 : Int)] := by unfold arCells; rw [List.flatMap_append]; rfl
theorem arCells_cells : ∀ l : List (Str × Nat), (l.map fun a => [strV a.1, Value.int .i64 (a.2 : Int)]).flatten = arCells l
  | [] => rfl
  | a :: r => by rw [List.map_cons, List.flatten_cons, arCells_cells r]; rfl
/-- Blocks that are none of the three rows' own. -/
def Off3 (b0 : Nat) (v a f : Value) : Nat → Prop := fun b => b0 ≤ b ∧ v.ownBlock ≠ some b ∧ a.ownBlock ≠ some b ∧ f.ownBlock ≠ some b
structure P3 (b0 : Nat) (w : World) (v a f : Value) (p : Prog) : Prop where
  rv : w.ownsRow b0 9 1 v p.vars.length (strVs p.vars)
  ra : w.ownsRow b0 72 2 a p.arrays.length (arCells p.arrays)
  rf : ∃ css : List (List Value), w.ownsRow b0 44 4 f p.funcs.length css.flatten ∧ css.length = p.funcs.length ∧ ∀ (i : Nat) (y : Fn) (c : List Value), p.funcs[i]? = some y → css[i]? = some c → FnC w (Off3 b0 v a f) y c
section
variable {b0 : Nat} {w w' : World} {v a f v' : Value} {p : Prog}
theorem P3.nil (b0 : Nat) (w : World) : P3 b0 w (.slice none 0 0) (.slice none 0 0) (.slice none 0 0) Prog.nil := ⟨A18.own_none w _ _ _, A18.own_none w _ _ _, [], A18.own_none w _ _ _, rfl, fun i y c h => by simp [Prog.nil] at h⟩
theorem P3.keep (h : P3 b0 w v a f p) (k : Kept (fun b => b0 ≤ b) w w') : P3 b0 w' v a f p := by
  obtain ⟨css, h1, h2, h3⟩ := h.rf
  exact ⟨own_kept h.rv k, own_kept h.ra k, css, own_kept h1 k, h2, fun i y c hy hc => (h3 i y c hy hc).keep ⟨k.1, fun b hb hl => k.2 b hb.1 hl⟩⟩
theorem ownBlock_lt {e s n : Nat} {u : Value} {xs : List Value} (h : w.ownsRow b0 e s u n xs) : ∀ g, u.ownBlock = some g → b0 ≤ g ∧ g < w.heap.size := fun g hg => h.lt g hg
/-- The trees of the functions, behind the growth of a row. -/
theorem P3.trees {row : Option Nat} {v1 a1 f1 : Value} {y : Fn} {c : List Value} (hF : FnC w (Off3 b0 v a f) y c) (hg : w.grownBy w' row) (hr : ∀ b, Off3 b0 v a f b → some b ≠ row) (hn : ∀ b, b < w.heap.size → Off3 b0 v a f b → Off3 b0 v1 a1 f1 b) : FnC w' (Off3 b0 v1 a1 f1) y c := by
  refine ((hF.mono (G := fun b => Off3 b0 v a f b ∧ b < w.heap.size) fun b hb h => ⟨h, hb⟩).keep ⟨hg.size, fun b hb hl => hg.block b hl (hr b hb.1)⟩).mono fun b _ h => hn b h.2 h.1
theorem P3.appV (h : P3 b0 w v a f p) {lx : List Str} {m : Nat} (hm : lx.length = m) (hown : w'.ownsRow b0 9 1 v' (p.vars.length + m) (strVs p.vars ++ strVs lx)) (hg : w.grownBy w' v.ownBlock) (hb : v'.ownBlock = v.ownBlock ∨ v'.ownBlock = some w.heap.size) : P3 b0 w' v' a f { p with vars := p.vars ++ lx } := by
  obtain ⟨css, h1, h2, h3⟩ := h.rf
  refine ⟨?_, h.ra.kept hg (own_apart h.ra h.rv (by decide)), css, h1.kept hg (own_apart h1 h.rv (by decide)), h2, fun i y c hy hc => P3.trees (h3 i y c hy hc) hg (fun b hb' e => hb'.2.1 e.symm) fun b hl hF => ⟨hF.1, fun e => ?_, hF.2.2⟩⟩
  · show w'.ownsRow _ _ _ _ (p.vars ++ lx).length (strVs (p.vars ++ lx))
    rw [strVs_app, List.length_append, hm]
    exact hown
  · rcases hb with hb | hb
    · exact hF.2.1 (hb ▸ e)
    · rw [hb] at e
      injection e with e
      omega
theorem P3.appA (h : P3 b0 w v a f p) {x : Str × Nat} {a' : Value} (hown : w'.ownsRow b0 72 2 a' (p.arrays.length + 1) (arCells p.arrays ++ [strV x.1, .int .i64 (x.2 : Int)])) (hg : w.grownBy w' a.ownBlock) (hb : a'.ownBlock = a.ownBlock ∨ a'.ownBlock = some w.heap.size) : P3 b0 w' v a' f { p with arrays := p.arrays ++ [x] } := by
  obtain ⟨css, h1, h2, h3⟩ := h.rf
  refine ⟨h.rv.kept hg (own_apart h.rv h.ra (by decide)), ?_, css, h1.kept hg (own_apart h1 h.ra (by decide)), h2, fun i y c hy hc => P3.trees (h3 i y c hy hc) hg (fun b hb' e => hb'.2.2.1 e.symm) fun b hl hF => ⟨hF.1, hF.2.1, fun e => ?_, hF.2.2.2⟩⟩
  · show w'.ownsRow _ _ _ _ (p.arrays ++ [x]).length (arCells (p.arrays ++ [x]))
    rw [arCells_snoc, List.length_append]
    exact hown
  · rcases hb with hb | hb
    · exact hF.2.2.1 (hb ▸ e)
    · rw [hb] at e
      injection e with e
      omega
/-- How the functions' row takes one more. -/
structure PushF (b0 : Nat) (w : World) (v a f : Value) (p : Prog) (css : List (List Value)) : Prop where
  push : ∀ (w' : World) (f' : Value) (y : Fn) (c : List Value) (n1 : Nat), b0 ≤ n1 → n1 ≤ w.heap.size → (∀ g, v.ownBlock = some g ∨ a.ownBlock = some g ∨ f.ownBlock = some g → g < n1) → FnC w (fun b => n1 ≤ b) y c →
    w'.ownsRow b0 44 4 f' (p.funcs.length + 1) (css.flatten ++ c) → w.grownBy w' f.ownBlock → (f'.ownBlock = f.ownBlock ∨ f'.ownBlock = some w.heap.size) → P3 b0 w' v a f' { p with funcs := p.funcs ++ [y] }
theorem P3.more (h : P3 b0 w v a f p) : ∃ css : List (List Value), w.ownsRow b0 44 4 f p.funcs.length css.flatten ∧ PushF b0 w v a f p css := by
  obtain ⟨css, h1, h2, h3⟩ := h.rf
  refine ⟨css, h1, ⟨fun w' f' y c n1 hn1 hn2 hlt hF hown hg hb => ?_⟩⟩
  have hnew : ∀ b, b < w.heap.size → Off3 b0 v a f b → Off3 b0 v a f' b := fun b hl hF => ⟨hF.1, hF.2.1, hF.2.2.1, fun e => by
    rcases hb with hb | hb
    · exact hF.2.2.2 (hb ▸ e)
    · rw [hb] at e
      injection e with e
      omega⟩
  refine ⟨h.rv.kept hg (own_apart h.rv h1 (by decide)), h.ra.kept hg (own_apart h.ra h1 (by decide)), css ++ [c], ?_, by simp [h2], fun i x d hx hd => ?_⟩
  · show w'.ownsRow _ _ _ _ (p.funcs ++ [y]).length _
    rw [List.flatten_append, List.length_append]
    simpa using hown
  · have hx : (p.funcs ++ [y])[i]? = some x := hx
    rcases Nat.lt_or_ge i p.funcs.length with hi | hi
    · rw [List.getElem?_append_left hi] at hx
      rw [List.getElem?_append_left (by omega)] at hd
      exact P3.trees (h3 i x d hx hd) hg (fun b hb' e => hb'.2.2.2 e.symm) hnew
    · rw [List.getElem?_append_right hi] at hx
      rw [List.getElem?_append_right (by omega), show i - css.length = i - p.funcs.length by omega] at hd
      obtain ⟨m, hm⟩ : ∃ m, i - p.funcs.length = m := ⟨_, rfl⟩
      rw [hm] at hx hd
      match m, hx, hd with
      | 0, hx, hd =>
        injection hx with hx
        injection hd with hd
        subst hx hd
        exact P3.trees (v := v) (a := a) (f := f) (hF.mono fun b _ hb => ⟨Nat.le_trans hn1 hb, fun e => by have := hlt b (.inl e); have : n1 ≤ b := hb; omega, fun e => by have := hlt b (.inr (.inl e)); have : n1 ≤ b := hb; omega, fun e => by have := hlt b (.inr (.inr e)); have : n1 ≤ b := hb; omega⟩) hg (fun b hb' e => hb'.2.2.2 e.symm) hnew
/-- The program that was read. -/
theorem P3.pg (h : P3 b0 w v a f p) : ∃ V A E cv ca ce, v = .slice V p.vars.length cv ∧ a = .slice A p.arrays.length ca ∧ f = .slice E p.funcs.length ce ∧ PgM w (fun b => b0 ≤ b) p V A E cv ca ce := by
  obtain ⟨V, cv, hv, hV⟩ := strs_own h.rv
  have ra := h.ra
  rw [← arCells_cells] at ra
  obtain ⟨A, ca, ha, hA⟩ := RowA.of_own ra (by decide) (by rw [List.length_map]) (fun c hc => by obtain ⟨s, _, rfl⟩ := List.mem_map.1 hc; rfl)
  obtain ⟨css, h1, h2, h3⟩ := h.rf
  obtain ⟨E, ce, hf, hE⟩ := RowA.of_own h1 (by decide) h2 (fun c hc => by
    obtain ⟨i, hi, rfl⟩ := List.mem_iff_getElem.1 hc
    exact fnE.len (F := Off3 b0 v a f) (w := w) (h3 i _ _ (List.getElem?_eq_getElem (by omega)) (List.getElem?_eq_getElem hi)))
  exact ⟨V, A, E, cv, ca, ce, hv, ha, hf, hV, hA, css, hE, fun i y c hy hc => (h3 i y c hy hc).mono fun b _ hb => hb.1⟩
theorem P3.slices (h : P3 b0 w v a f p) : (∃ A cap, v = .slice A p.vars.length cap) ∧ (∃ A cap, a = .slice A p.arrays.length cap) ∧ (∃ A cap, f = .slice A p.funcs.length cap) := by
  obtain ⟨V, A, E, cv, ca, ce, hv, ha, hf, _⟩ := h.pg
  exact ⟨⟨V, cv, hv⟩, ⟨A, ca, ha⟩, ⟨E, ce, hf⟩⟩
/-- The rows' own blocks. -/
theorem P3.low (h : P3 b0 w v a f p) : ∀ g, v.ownBlock = some g ∨ a.ownBlock = some g ∨ f.ownBlock = some g → b0 ≤ g ∧ g < w.heap.size := fun g hg => by
  obtain ⟨css, h1, _⟩ := h.rf
  rcases hg with hg | hg | hg
  · exact h.rv.lt g hg
  · exact h.ra.lt g hg
  · exact h1.lt g hg
end
end Go.Proofs.YtpbcncfbfbghcaaGreatDoor.L20
