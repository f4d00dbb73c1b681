/- Facts and contracts that the walks of this layer use, merged: S14Row, S14Join, S14Fin, S14Open, S14Make, S14Ref1. -/
import Derived.Test.YtiodkllckcpinaaGreatDoorM14AT
import Derived.Test.YtiodkllckcpinaaGreatDoorM14AS
import Derived.DataShut
import Derived.Test.YtiodkllckcpinaaGreatDoorM14AM
import Derived.Test.YtiodkllckcpinaaGreatDoorM14AE
import Derived.Lib.BufferWrite
import Derived.Deep.WholeRow
import Derived.Test.YtiodkllckcpinaaGreatDoorM14AG
set_option linter.unusedVariables false
set_option linter.unusedSimpArgs false
set_option maxRecDepth 100000
namespace Go.Proofs.YtiodkllckcpinaaGreatDoor
namespace S14
open Go.RowKit Mem F13

theorem infoS : (Tryz.prog.info? 48).map (fun i => (i.zero, i.size, i.bytes)) = some (some (.agg #[.int .i64 0, .int .i64 0, .int .i64 0, .int .i64 0, .int .i64 0, .int .i64 0, .int .i64 0, .int .i64 0, .int .i64 0, .int .u32 0, .string ⟨#[]⟩, .int .i64 0, .int .i64 0, .int .i64 0]), 14, 120) := by kernel_rfl
theorem own_cells {W W' : World} {base e size n : Nat} {v : Value} {xs : List Value} (h : W.ownsRow base e size v n xs) (hc : ∀ (r : Nat) (t : TypeId) (cs : Array Value) (fz : Nat × Nat), W.heap[r]? = some (Obj.cells cs t fz) → W'.heap[r]? = some (Obj.cells cs t fz)) : W'.ownsRow base e size v n xs := by
 refine ⟨h.1, ?_⟩
 rcases h.2 with h0 | ⟨g, cap, cur, rfl, hg, hh, h1⟩
 ·exact .inl h0
 ·exact .inr ⟨g, cap, cur, rfl, hg, hc _ _ _ _ hh, h1⟩
def PsP (cs : List ByteArray) (w : World) (e : Ending) (w' : World) : Prop := ∃ (L : List (Nat × Sg)) (v : Value), Scans 0 cs L ∧ L.length ≤ 10000010 ∧ e = .returned v ∧ w'.ownsRow w.heap.size 48 14 v L.length (sgsC L) ∧ Below w.heap.size w w'
def BoxS (W : World) (B : Nat) (t : TypeId) (l : List Value) : Prop := W.heap[B]? = some (.cells l.toArray t (0, 0))
theorem BoxS.own (B : Nat) (t : TypeId) (l : List Value) (T : Nat) {W W' : World} {row : Option Nat} (h : BoxS W B t l) (hg : W.grownBy W' row) (hr : ∀ r, row = some r → T ≤ r ∧ ∃ o : Obj, W.heap[r]? = some o ∧ o.isCells = false) : BoxS W' B t l :=
 (grownBy_keeps_cells hg (fun r e => (hr r e).2) h rfl).trans h
theorem marks_own {lo hi T : Nat} {ds : List Deferred} (hT : hi ≤ T) {W W' : World} {row : Option Nat} (h : Marks lo hi W ds) (hg : W.grownBy W' row) (hr : ∀ r, row = some r → T ≤ r ∧ ∃ o : Obj, W.heap[r]? = some o ∧ o.isCells = false) : Marks lo hi W' ds :=
 h.keep fun r _ h2 h3 => (hg.block r (Array.getElem?_eq_some_iff.1 h3).1 (fun e => by have := (hr r e.symm).1; omega)).trans h3
structure Cells14 (W : World) (B : Nat) (v0 v1 v2 v3 v4 v5 v6 v7 v8 v9 va vb vc vd : Value) : Prop where
 c0 : W.cell? ⟨B, 0, none⟩ = some v0
 c1 : W.cell? ⟨B, 1, none⟩ = some v1
 c2 : W.cell? ⟨B, 2, none⟩ = some v2
 c3 : W.cell? ⟨B, 3, none⟩ = some v3
 c4 : W.cell? ⟨B, 4, none⟩ = some v4
 c5 : W.cell? ⟨B, 5, none⟩ = some v5
 c6 : W.cell? ⟨B, 6, none⟩ = some v6
 c7 : W.cell? ⟨B, 7, none⟩ = some v7
 c8 : W.cell? ⟨B, 8, none⟩ = some v8
 c9 : W.cell? ⟨B, 9, none⟩ = some v9
 ca : W.cell? ⟨B, 10, none⟩ = some va
 cb : W.cell? ⟨B, 11, none⟩ = some vb
 cc : W.cell? ⟨B, 12, none⟩ = some vc
 cd : W.cell? ⟨B, 13, none⟩ = some vd
theorem cells14 {W : World} {B : Nat} {v0 v1 v2 v3 v4 v5 v6 v7 v8 v9 va vb vc vd : Value} (h : VAt W B [v0, v1, v2, v3, v4, v5, v6, v7, v8, v9, va, vb, vc, vd]) : Cells14 W B v0 v1 v2 v3 v4 v5 v6 v7 v8 v9 va vb vc vd :=
 ⟨(h 0 (show 0 < 14 by decide)).1, (h 1 (show 1 < 14 by decide)).1, (h 2 (show 2 < 14 by decide)).1, (h 3 (show 3 < 14 by decide)).1, (h 4 (show 4 < 14 by decide)).1, (h 5 (show 5 < 14 by decide)).1, (h 6 (show 6 < 14 by decide)).1, (h 7 (show 7 < 14 by decide)).1, (h 8 (show 8 < 14 by decide)).1, (h 9 (show 9 < 14 by decide)).1, (h 10 (show 10 < 14 by decide)).1, (h 11 (show 11 < 14 by decide)).1, (h 12 (show 12 < 14 by decide)).1, (h 13 (show 13 < 14 by decide)).1⟩
theorem sgs_snoc (pre : List (Nat × Sg)) (qre : List Sg) (x : Sg) (k : Nat) : sgsC (pre ++ (qre ++ [x]).map fun s => (k, s)) = sgsC (pre ++ qre.map fun s => (k, s)) ++ sgC (k, x) := by
 rw [List.map_append, ← List.append_assoc, List.map_cons, List.map_nil, sgsC_snoc]
theorem Scan.len {c : ByteArray} {i : Nat} {l : List Sg} (h : Scan c i l) : l.length ≤ c.size - i := by
 induction h with
 | stop _ => exact Nat.zero_le _
 | hit hi _ _ _ ih => rw [List.length_cons]; omega
 | miss hi _ _ ih => omega
def PcP (c : ByteArray) (w : World) (e : Ending) (w' : World) : Prop := ∃ (l : List Sg) (v : Value), Scan c 0 l ∧ e = .returned v ∧ w'.ownsRow w.heap.size 48 14 v l.length (sgsC (l.map fun s => (0, s))) ∧ Below w.heap.size w w'
structure At14 (W : World) (b q : Nat) (p : Nat × Sg) : Prop where
 c0 : W.cell? ⟨b, q, none⟩ = some (.int .i64 (p.1 : Int))
 c1 : W.cell? ⟨b, q + 1, none⟩ = some (.int .i64 (p.2.at_ : Int))
 c2 : W.cell? ⟨b, q + 2, none⟩ = some (.int .i64 p.2.f.kind)
 c3 : W.cell? ⟨b, q + 3, none⟩ = some (.int .i64 p.2.f.reel)
 c4 : W.cell? ⟨b, q + 4, none⟩ = some (.int .i64 p.2.f.sess)
 c5 : W.cell? ⟨b, q + 5, none⟩ = some (.int .i64 p.2.f.idx)
 c6 : W.cell? ⟨b, q + 6, none⟩ = some (.int .i64 p.2.f.len)
 c7 : W.cell? ⟨b, q + 7, none⟩ = some (.int .i64 p.2.f.data)
 c8 : W.cell? ⟨b, q + 8, none⟩ = some (.int .i64 p.2.f.spare)
 c9 : W.cell? ⟨b, q + 9, none⟩ = some (.int .u32 (p.2.f.arch.toNat : Int))
 ca : W.cell? ⟨b, q + 10, none⟩ = some (.string p.2.f.pay)
 cb : W.cell? ⟨b, q + 11, none⟩ = some (.int .i64 p.2.d)
 cc : W.cell? ⟨b, q + 12, none⟩ = some (.int .i64 p.2.u)
 cd : W.cell? ⟨b, q + 13, none⟩ = some (.int .i64 p.2.n)
theorem At14.below {W W1 : World} {b q B : Nat} {p : Nat × Sg} (h : At14 W b q p) (k : Below B W W1) (hb : b < B) : At14 W1 b q p :=
 ⟨(k.cell (p := ⟨b, q, none⟩) hb).trans h.c0, (k.cell (p := ⟨b, q + 1, none⟩) hb).trans h.c1, (k.cell (p := ⟨b, q + 2, none⟩) hb).trans h.c2, (k.cell (p := ⟨b, q + 3, none⟩) hb).trans h.c3, (k.cell (p := ⟨b, q + 4, none⟩) hb).trans h.c4, (k.cell (p := ⟨b, q + 5, none⟩) hb).trans h.c5, (k.cell (p := ⟨b, q + 6, none⟩) hb).trans h.c6, (k.cell (p := ⟨b, q + 7, none⟩) hb).trans h.c7, (k.cell (p := ⟨b, q + 8, none⟩) hb).trans h.c8, (k.cell (p := ⟨b, q + 9, none⟩) hb).trans h.c9, (k.cell (p := ⟨b, q + 10, none⟩) hb).trans h.ca, (k.cell (p := ⟨b, q + 11, none⟩) hb).trans h.cb, (k.cell (p := ⟨b, q + 12, none⟩) hb).trans h.cc, (k.cell (p := ⟨b, q + 13, none⟩) hb).trans h.cd⟩
theorem own_at {w : World} {base n : Nat} {e : TypeId} {v : Value} {L : List (Nat × Sg)} (h : w.ownsRow base e 14 v n (sgsC L)) : n = L.length ∧ ∃ A cap, v = .slice A n cap ∧ n ≤ cap ∧ cap ≤ maxLen ∧ (A = none → n = 0) ∧ ∀ k (hk : k < L.length), ∃ g, A = some ⟨g, 0, none⟩ ∧ base ≤ g ∧ g < w.heap.size ∧ At14 w g (k * 14) L[k] := by
 have hn : n = L.length := by have := h.1; rw [sgsC_len] at this; omega
 obtain ⟨A, cap, e1, e2, e3, e4, e5⟩ := own_rd h
 refine ⟨hn, A, cap, e1, e2, e3, e4, fun k hk => ?_⟩
 rcases A with _ | ⟨g, o, sp⟩
 ·have := e4 rfl
  omega
 ·obtain ⟨rfl, rfl, h1, h2, h3⟩ := e5 g o sp rfl
  have hg := fun (j : Nat) (hj : j < 14) (u : Value) (hu : (sgC L[k])[j]? = some u) => h3 (k * 14 + j) u ((sgsC_get L k j hk hj).trans hu)
  exact ⟨g, rfl, h1, h2, hg 0 (by decide) _ rfl, hg 1 (by decide) _ rfl, hg 2 (by decide) _ rfl, hg 3 (by decide) _ rfl, hg 4 (by decide) _ rfl, hg 5 (by decide) _ rfl, hg 6 (by decide) _ rfl, hg 7 (by decide) _ rfl, hg 8 (by decide) _ rfl, hg 9 (by decide) _ rfl, hg 10 (by decide) _ rfl, hg 11 (by decide) _ rfl, hg 12 (by decide) _ rfl, hg 13 (by decide) _ rfl⟩
end S14
namespace S14
open Go.RowKit Mem F13

def clL (W : ByteArray) : List UInt8 := M12.mk ++ (bodyC W).data.toList
theorem clL_len {W : ByteArray} (h : W.size = 52) : (clL W).length = 852 := by
 unfold clL
 rw [List.length_append, body_len h]
 rfl
theorem size_list (c : ByteArray) : c.data.toList.length = c.size := by simp
theorem body_at {c W : ByteArray} {P R : List UInt8} (hW : W.size = 52) (h : c.data.toList = P ++ (clL W ++ R)) : bodyAt c P.length = bodyC W := by
 have hl := clL_len hW
 have hb := body_len hW
 have hs : c.size = P.length + (852 + R.length) := by rw [← size_list, h, List.length_append, List.length_append, hl]
 refine F13.str_eq ?_
 unfold bodyAt
 rw [F13.ext_list, h, Nat.min_eq_left (by omega)]
 have e1 : (P ++ (clL W ++ R)).take (P.length + 852) = P ++ clL W := by
  rw [← List.append_assoc, List.take_left' (by rw [List.length_append, hl])]
 rw [e1]
 unfold clL
 rw [← List.append_assoc, List.drop_left' (by rw [List.length_append]; rfl)]
theorem read_body {W : ByteArray} (hW : W.size = 52) : readN (bodyC W).data.toList = 836 := by
 rw [readN_all (body_bits W), body_len hW]
theorem cand_at {c W : ByteArray} {P R : List UInt8} (hW : W.size = 52) (h : c.data.toList = P ++ (clL W ++ R)) : candB c P.length = true := by
 unfold candB
 rw [body_at hW h, read_body hW, h]
 have e : P ++ (clL W ++ R) = P ++ M12.mk ++ ((bodyC W).data.toList ++ R) := by
  unfold clL
  simp
 rw [e, M12.ds_mid P M12.mk _ rfl, ds_mark]
 rfl
theorem Scan.frame {c W : ByteArray} {f : Fr} {P R : List UInt8} {l : List Sg} (hv : Valid f) (hW : Word f W) (h : c.data.toList = P ++ (clL W ++ R)) (hs : Scan c P.length l) : ∃ l', l = ⟨P.length, f, 0, 0, 0⟩ :: l' ∧ Scan c (P.length + 852) l' := by
 have hw := hW.size hv
 have hl := clL_len hw
 have hz : c.size = P.length + (852 + R.length) := by rw [← size_list, h, List.length_append, List.length_append, hl]
 have hb := body_at hw h
 cases hs with
 | stop h1 => omega
 | hit h1 h2 h3 h4 =>
  rw [hb] at h3
  obtain ⟨rfl, rfl, rfl, rfl, _⟩ := dec_body hv hW h3
  exact ⟨_, rfl, h4⟩
 | miss h1 h2 h3 =>
  obtain ⟨F, d, u, n, k, h4, h5⟩ := h2 (cand_at hw h)
  rw [hb] at h4
  exact absurd (dec_body hv hW h4).2.2.2.2 h5
def sgs : Nat → List Fr → List Sg
 | _, [] => []
 | i, f :: fs => ⟨i, f, 0, 0, 0⟩ :: sgs (i + 852) fs
theorem Scan.join {c : ByteArray} : ∀ (fs : List (Fr × ByteArray)) (P : List UInt8) (l : List Sg), (∀ x ∈ fs, Valid x.1 ∧ Word x.1 x.2) → c.data.toList = P ++ fs.flatMap (fun x => clL x.2) → Scan c P.length l → l = sgs P.length (fs.map (·.1))
 | [], P, l, _, h, hs => by
  have hz : c.size = P.length := by rw [← size_list, h]; simp
  cases hs with
  | stop _ => rfl
  | hit h1 _ _ _ => omega
  | miss h1 _ _ => omega
 | x :: fs, P, l, hx, h, hs => by
  obtain ⟨hv, hW⟩ := hx x List.mem_cons_self
  rw [List.flatMap_cons] at h
  obtain ⟨l', rfl, hs'⟩ := Scan.frame hv hW h hs
  have hl := clL_len (hW.size hv)
  have hs2 : Scan c (P ++ clL x.2).length l' := by rw [List.length_append, hl]; exact hs'
  have := Scan.join fs (P ++ clL x.2) l' (fun y hy => hx y (List.mem_cons_of_mem _ hy)) (by rw [h, List.append_assoc]) hs2
  rw [List.length_append, hl] at this
  rw [this]
  rfl
theorem Scan.single {c : ByteArray} {f : Fr} {l : List Sg} (hs : 16 ≤ c.size) (h8 : c.size < 868) (hc : candB c 0 = true) (hd : ∀ F d u n k, DcQ (bodyAt c 0) F d u n k → F = f ∧ k = 0) (h : Scan c 0 l) : ∃ d u n, l = [⟨0, f, d, u, n⟩] ∧ DcQ (bodyAt c 0) f d u n 0 := by
 cases h with
 | stop h1 => omega
 | hit h1 h2 h3 h4 =>
  obtain ⟨rfl, _⟩ := hd _ _ _ _ _ h3
  refine ⟨_, _, _, ?_, h3⟩
  cases h4 with
  | stop _ => rfl
  | hit h5 _ _ _ => omega
  | miss h5 _ _ => omega
 | miss h1 h2 h3 =>
  obtain ⟨F, d, u, n, k, h4, h5⟩ := h2 hc
  exact absurd (hd _ _ _ _ _ h4).2 h5
end S14
namespace S14
open Go.RowKit Mem F13

/-! ### frames joined -/
def firstE : List Fr → Int
 | [] => 0
 | f :: fs => if ckE f = 0 then firstE fs else ckE f
def Join0 (fs : List Fr) (S : List UInt8) : Prop := ∃ xs : List (Fr × ByteArray), xs.map (·.1) = fs ∧ (∀ x ∈ xs, Valid x.1 ∧ Word x.1 x.2) ∧ S = xs.flatMap fun x => clL x.2
theorem Join0.nil : Join0 [] [] := ⟨[], rfl, fun x h => (by cases h), rfl⟩
theorem Join0.snoc {fs : List Fr} {S : List UInt8} {f : Fr} {W : ByteArray} (h : Join0 fs S) (hv : Valid f) (hW : Word f W) : Join0 (fs ++ [f]) (S ++ clL W) := by
 obtain ⟨xs, rfl, h2, rfl⟩ := h
 refine ⟨xs ++ [(f, W)], by simp, fun x hx => ?_, by simp⟩
 rcases List.mem_append.1 hx with hx | hx
 ·exact h2 x hx
 ·rw [List.mem_singleton.1 hx]; exact ⟨hv, hW⟩
theorem join_only : ∀ (xs ys : List (Fr × ByteArray)), (∀ x ∈ xs, Valid x.1 ∧ Word x.1 x.2) → (∀ x ∈ ys, Valid x.1 ∧ Word x.1 x.2) → xs.map (·.1) = ys.map (·.1) → xs = ys
 | [], [], _, _, _ => rfl
 | [], _ :: _, _, _, h => by simp at h
 | _ :: _, [], _, _, h => by simp at h
 |(f, W) :: xs, (g, V) :: ys, h1, h2, h => by
  simp only [List.map_cons, List.cons.injEq] at h
  obtain ⟨rfl, h⟩ := h
  obtain ⟨a1, a2⟩ := h1 _ List.mem_cons_self
  obtain ⟨b1, b2⟩ := h2 _ List.mem_cons_self
  have := a2.only a1 b2
  dsimp only at this
  rw [this, join_only xs ys (fun x hx => h1 x (List.mem_cons_of_mem _ hx)) (fun x hx => h2 x (List.mem_cons_of_mem _ hx)) h]
theorem Join0.only {fs : List Fr} {S S' : List UInt8} (h : Join0 fs S) (h' : Join0 fs S') : S = S' := by
 obtain ⟨xs, h1, h2, rfl⟩ := h
 obtain ⟨ys, h1', h2', rfl⟩ := h'
 rw [join_only xs ys h2 h2' (h1.trans h1'.symm)]
theorem Join0.len {fs : List Fr} {S : List UInt8} (h : Join0 fs S) : S.length = 852 * fs.length := by
 obtain ⟨xs, rfl, h2, rfl⟩ := h
 rw [List.length_map]
 induction xs with
 | nil => rfl
 | cons x xs ih =>
  obtain ⟨hv, hW⟩ := h2 x List.mem_cons_self
  rw [List.flatMap_cons, List.length_append, clL_len (hW.size hv), ih fun y hy => h2 y (List.mem_cons_of_mem _ hy), List.length_cons]
  omega
structure JoinQ (fs : List Fr) (S : ByteArray) (k : Int) : Prop where
 err : k = firstE fs
 yes : k = 0 → Join0 fs S.data.toList
 no : k ≠ 0 → S = ⟨#[]⟩
theorem JoinQ.only {fs : List Fr} {S S' : ByteArray} {k k' : Int} (h : JoinQ fs S k) (h' : JoinQ fs S' k') : S = S' ∧ k = k' := by
 have e : k = k' := h.err.trans h'.err.symm
 subst e
 refine ⟨?_, rfl⟩
 by_cases hk : k = 0
 ·exact F13.str_eq ((h.yes hk).only (h'.yes hk))
 ·rw [h.no hk, h'.no hk]
structure JoinTo (fs : List Fr) (k : Nat) (acc : List UInt8) : Prop where
 acc : Join0 (fs.take k) acc
 err : firstE fs = firstE (fs.drop k)
theorem JoinTo.start (fs : List Fr) : JoinTo fs 0 [] := ⟨by rw [List.take_zero]; exact Join0.nil, by rw [List.drop_zero]⟩
theorem JoinTo.step {fs : List Fr} {k : Nat} {acc : List UInt8} (h : JoinTo fs k acc) (hk : k < fs.length) {S : ByteArray} (he : EncQ fs[k] S) (h0 : ckE fs[k] = 0) : JoinTo fs (k + 1) (acc ++ S.data.toList) ∧ S.size = 852 := by
 obtain ⟨W, hW, rfl⟩ := he.1 h0
 have hv := (valid_iff _).1 h0
 have e : (M12.mkB ++ bodyC W).data.toList = clL W := by rw [app_list]; rfl
 refine ⟨⟨?_, ?_⟩, ?_⟩
 ·rw [e, List.take_succ_eq_append_getElem hk]
  exact h.acc.snoc hv hW
 ·rw [h.err, List.drop_eq_getElem_cons hk]
  show (if ckE fs[k] = 0 then _ else _) = _
  rw [if_pos h0]
 ·rw [← size_list, e, clL_len (hW.size hv)]
theorem JoinTo.bad {fs : List Fr} {k : Nat} {acc : List UInt8} (h : JoinTo fs k acc) (hk : k < fs.length) (h0 : ckE fs[k] ≠ 0) : JoinQ fs ⟨#[]⟩ (ckE fs[k]) := by
 refine ⟨?_, fun e => absurd e h0, fun _ => rfl⟩
 rw [h.err, List.drop_eq_getElem_cons hk]
 show _ = (if ckE fs[k] = 0 then _ else _)
 rw [if_neg h0]
theorem JoinTo.done {fs : List Fr} {acc : List UInt8} {k : Nat} (h : JoinTo fs k acc) (hk : fs.length ≤ k) : JoinQ fs ⟨acc.toArray⟩ 0 := by
 refine ⟨?_, fun _ => ?_, fun e => absurd rfl e⟩
 ·rw [h.err, List.drop_of_length_le hk]
  rfl
 ·have := h.acc
  rw [List.take_of_length_le hk] at this
  exact this
theorem JoinTo.len {fs : List Fr} {k : Nat} {acc : List UInt8} (h : JoinTo fs k acc) : acc.length ≤ 852 * k := by
 rw [h.acc.len, List.length_take]
 omega
theorem scan_join {fs : List Fr} {c : ByteArray} (h : Join0 fs c.data.toList) {l : List Sg} (hs : Scan c 0 l) : l = sgs 0 fs := by
 obtain ⟨xs, rfl, h2, h3⟩ := h
 exact Scan.join xs [] l h2 (by rw [h3, List.nil_append]) hs
theorem sgs_len : ∀ (fs : List Fr) (i : Nat), (sgs i fs).length = fs.length
 | [], _ => rfl
 | f :: fs, i => by
  show (sgs (i + 852) fs).length + 1 = fs.length + 1
  rw [sgs_len fs]
theorem sgs_get : ∀ (fs : List Fr) (i k : Nat) (h : k < (sgs i fs).length) (h' : k < fs.length), (sgs i fs)[k] = ⟨i + k * 852, fs[k], 0, 0, 0⟩
 | f :: fs, i, 0, _, _ => by
  show (⟨i, f, 0, 0, 0⟩ : Sg) = ⟨i + 0 * 852, f, 0, 0, 0⟩
  rw [Nat.zero_mul, Nat.add_zero]
 | f :: fs, i, k + 1, h, h' => by
  have := sgs_get fs (i + 852) k (by rw [sgs_len]; simpa using h') (by simpa using h')
  show (sgs (i + 852) fs)[k]'_ = (⟨i + (k + 1) * 852, fs[k]'_, 0, 0, 0⟩ : Sg)
  rw [this]
  congr 1
  omega
/-! ### one frame, damaged -/
theorem bodyAt_front {c : ByteArray} {m b : List UInt8} (hm : m.length = 16) (hb : b.length ≤ 836) (h : c.data.toList = m ++ b) : (bodyAt c 0).data.toList = b := by
 have hs : c.size = 16 + b.length := by rw [← size_list, h, List.length_append, hm]
 unfold bodyAt
 rw [F13.ext_list, h, Nat.min_eq_right (by omega), Nat.zero_add, List.take_of_length_le (by rw [List.length_append, hm]; omega), List.drop_left' hm]
theorem one_sighting {c : ByteArray} {f : Fr} {m b : List UInt8} {l : List Sg} (hm : m.length = 16) (hb : b.length ≤ 836) (h : c.data.toList = m ++ b) (hd : M12.ds m 0 ≤ 2) (hr : 400 ≤ readN b) (hq : ∀ F d u n k, DcQ ⟨b.toArray⟩ F d u n k → F = f ∧ k = 0) (hs : Scan c 0 l) :
  ∃ d u n, l = [⟨0, f, d, u, n⟩] ∧ DcQ ⟨b.toArray⟩ f d u n 0 := by
 have hz : c.size = 16 + b.length := by rw [← size_list, h, List.length_append, hm]
 have hba := bodyAt_front hm hb h
 have hbe : bodyAt c 0 = ⟨b.toArray⟩ := F13.str_eq hba
 have hc : candB c 0 = true := by
  unfold candB
  rw [hba, h]
  show (decide (M12.ds (m ++ b) 0 ≤ 2) && decide (400 ≤ readN b)) = true
  rw [ds_front hm, decide_eq_true hd, decide_eq_true hr]
  rfl
 rw [← hbe] at hq ⊢
 exact Scan.single (by omega) (by omega) hc hq hs
structure Dmg (C X : List UInt8) (a n : Nat) : Prop where
 len : X.length = C.length
 ok : X.all C9.okC = true
 rest : ∀ p, X.getD p 0 ≠ C.getD p 0 → a ≤ p ∧ p < a + n
theorem Dmg.refl {C : List UInt8} (h : C.all C9.okC = true) (a : Nat) : Dmg C C a 0 := ⟨rfl, h, fun p hp => absurd rfl hp⟩
theorem Dmg.step {C X : List UInt8} {a n : Nat} (h : Dmg C X a n) {y : UInt8} (hy : C9.okC y = true) : Dmg C (X.set (a + n) y) a (n + 1) := by
 refine ⟨by rw [List.length_set]; exact h.len, ?_, fun p hp => ?_⟩
 ·rw [List.all_eq_true]
  intro x hx
  rcases List.mem_or_eq_of_mem_set hx with hx | rfl
  ·exact List.all_eq_true.1 h.ok x hx
  ·exact hy
 ·by_cases e : p = a + n
  ·omega
  ·rw [List.getD_eq_getElem?_getD, List.getElem?_set_ne (by omega), ← List.getD_eq_getElem?_getD] at hp
   have := h.rest p hp
   omega
theorem Dmg.more {C X : List UInt8} {a n m : Nat} (h : Dmg C X a n) (hm : n ≤ m) : Dmg C X a m := ⟨h.len, h.ok, fun p hp => by have := h.rest p hp; omega⟩
theorem damaged_dec {f : Fr} {W : ByteArray} {X : List UInt8} {a n : Nat} (hv : Valid f) (hW : Word f W) (h : Dmg (bodyC W).data.toList X a n) (hn : n ≤ 90) : X.length = 836 ∧ 400 ≤ readN X ∧ ∀ F d u e k, DcQ ⟨X.toArray⟩ F d u e k → F = f ∧ k = 0 := by
 have hl : X.length = 836 := by rw [h.len, body_len (hW.size hv)]
 refine ⟨hl, ?_, fun F d u e k hD => ?_⟩
 ·have := readN_burst h.len (body_bits W) a fun p _ hne => by have := h.rest p hne; omega
  omega
 ·refine dec_near (c := ⟨X.toArray⟩) hv hW (by show X.length ≤ 836; omega) h.ok a (fun p hp hne => ?_) hD
  rw [show (⟨X.toArray⟩ : ByteArray).data.toList = X from rfl, padL_full hl] at hne
  have := h.rest p hne
  omega
theorem unr_app (a b : List UInt8) : C1.unr (a ++ b) = C1.unr a + C1.unr b := by unfold C1.unr; rw [List.filter_append, List.length_append]
theorem unr_rep (n : Nat) : C1.unr (List.replicate n 63) = n := by
 unfold C1.unr
 rw [List.filter_eq_self.2, List.length_replicate]
 intro x hx
 rw [(List.mem_replicate.1 hx).2]
 rfl
theorem unr_bits {l : List UInt8} (h : ∀ x ∈ l, x = 48 ∨ x = 49) : C1.unr l = 0 := by
 unfold C1.unr
 rw [List.length_eq_zero_iff, List.filter_eq_nil_iff]
 intro x hx
 rcases h x hx with rfl | rfl <;> decide
theorem unr_dl14 (l : List UInt8) : C1.unr (I11.dl 8 l) = C1.unr l := by
 unfold C1.unr
 have h := (I11.perm_il (r := 8) (by decide) (I11.dl 8 l))
 rw [I11.il_dl (by decide)] at h
 exact (h.filter (· == 63)).length_eq.symm
theorem torn_dec {f : Fr} {W : ByteArray} {n : Nat} (hv : Valid f) (hW : Word f W) (hn : n ≤ 90) {F : Fr} {d u e k : Int} (hD : DcQ ⟨((bodyC W).data.toList.take (836 - n)).toArray⟩ F d u e k) : F = f ∧ u = (n : Int) ∧ k = 0 := by
 have hb := body_len (hW.size hv)
 obtain ⟨c, hc⟩ : ∃ c : ByteArray, c = ⟨((bodyC W).data.toList.take (836 - n)).toArray⟩ := ⟨_, rfl⟩
 rw [← hc] at hD
 have hcl : c.data.toList = (bodyC W).data.toList.take (836 - n) := by rw [hc]
 have hl : c.data.toList.length = 836 - n := by rw [hcl, List.length_take]; omega
 have hs : c.size = 836 - n := by simpa using hl
 have hck : C1.chk c.data.toList = 0 := by
  rw [chk_okC, hcl, List.all_eq_true]
  exact fun x hx => List.all_eq_true.1 (body_ok W) x (List.mem_of_mem_take hx)
 have hI := (hD.2 hck).2 (by omega)
 have ha : Apart (xB c).data.toList (C9.enc (bitsOf W)) := by
  rw [xB_list]
  refine burst (encL W (hW.size hv)) (padL_len (by omega)) (836 - n) fun p hp hne => ?_
  by_cases h7 : p < 836 - n
  ·refine absurd ?_ hne
   rw [← bodyC_list]
   unfold padL
   rw [List.getD_eq_getElem?_getD, List.getD_eq_getElem?_getD, List.getElem?_append_left (by omega), hcl, List.getElem?_take_of_lt h7]
  ·omega
 obtain ⟨e1, _, e3, _, e5⟩ := inner hv hW (xB_size (by omega)) (xB_ok hck) ha hI
 refine ⟨e1, ?_, e5⟩
 rw [e3, xB_list, unr_dl14]
 unfold padL
 rw [unr_app, unr_rep, hl, hcl, unr_bits fun x hx => body_bits W x (List.mem_of_mem_take hx)]
 omega
end S14
namespace S14
open Go.RowKit Mem F13 Go.ChangeShapes Go.WideShapes Go.ChangeAt

structure IsFrames (w : World) (A : Option Addr) (n cap : Nat) (fs : List Fr) : Prop where
 len : fs.length = n
 le : n ≤ cap
 capm : cap ≤ maxLen
 nil : A = none → cap = 0
 fit : ∀ f ∈ fs, FitB f
 rd : Rd w A (fs.flatMap fun f => f.cells.toList)
theorem IsFrames.below {w w1 : World} {A : Option Addr} {n cap : Nat} {fs : List Fr} (h : IsFrames w A n cap fs) (k : Below w.heap.size w w1) : IsFrames w1 A n cap fs := ⟨h.len, h.le, h.capm, h.nil, h.fit, h.rd.below k⟩
structure At9 (W : World) (b q : Nat) (f : Fr) : Prop where
 c0 : W.cell? ⟨b, q, none⟩ = some (.int .i64 f.kind)
 c1 : W.cell? ⟨b, q + 1, none⟩ = some (.int .i64 f.reel)
 c2 : W.cell? ⟨b, q + 2, none⟩ = some (.int .i64 f.sess)
 c3 : W.cell? ⟨b, q + 3, none⟩ = some (.int .i64 f.idx)
 c4 : W.cell? ⟨b, q + 4, none⟩ = some (.int .i64 f.len)
 c5 : W.cell? ⟨b, q + 5, none⟩ = some (.int .i64 f.data)
 c6 : W.cell? ⟨b, q + 6, none⟩ = some (.int .i64 f.spare)
 c7 : W.cell? ⟨b, q + 7, none⟩ = some (.int .u32 (f.arch.toNat : Int))
 c8 : W.cell? ⟨b, q + 8, none⟩ = some (.string f.pay)
theorem At9.below {W W1 : World} {b q B : Nat} {f : Fr} (h : At9 W b q f) (k : Below B W W1) (hb : b < B) : At9 W1 b q f :=
 ⟨(k.cell (p := ⟨b, q, none⟩) hb).trans h.c0, (k.cell (p := ⟨b, q + 1, none⟩) hb).trans h.c1, (k.cell (p := ⟨b, q + 2, none⟩) hb).trans h.c2, (k.cell (p := ⟨b, q + 3, none⟩) hb).trans h.c3, (k.cell (p := ⟨b, q + 4, none⟩) hb).trans h.c4, (k.cell (p := ⟨b, q + 5, none⟩) hb).trans h.c5, (k.cell (p := ⟨b, q + 6, none⟩) hb).trans h.c6, (k.cell (p := ⟨b, q + 7, none⟩) hb).trans h.c7, (k.cell (p := ⟨b, q + 8, none⟩) hb).trans h.c8⟩
theorem IsFrames.get {w : World} {A : Option Addr} {n cap : Nat} {fs : List Fr} (h : IsFrames w A n cap fs) {k : Nat} (hk : k < fs.length) : ∃ b o : Nat, A = some ⟨b, o, none⟩ ∧ b < w.heap.size ∧ At9 w b (o + k * 9) fs[k] := by
 obtain ⟨b, o, e, hb, hc⟩ := Rd.struct (s := 9) (enc := fun f : Fr => f.cells.toList) (fun _ => rfl) h.rd (by decide) hk
 exact ⟨b, o, e, hb, hc 0 _ rfl, hc 1 _ rfl, hc 2 _ rfl, hc 3 _ rfl, hc 4 _ rfl, hc 5 _ rfl, hc 6 _ rfl, hc 7 _ rfl, hc 8 _ rfl⟩
structure Pt where
 front : ByteArray
 reel : Int
 idx : Int
 data : ByteArray
 at_ : Int
 len : Int
 by_ : Int
def Pt.cells (p : Pt) : List Value := [.string p.front, .int .u8 p.reel, .int .u16 p.idx, .string p.data, .int .u16 p.at_, .int .u16 p.len, .int .u8 p.by_]
structure PtB (p : Pt) : Prop where
 front : p.front.size ≤ maxLen
 reel : (Lit.int .u8 p.reel).wf = true
 idx : (Lit.int .u16 p.idx).wf = true
 data : p.data.size ≤ maxLen
 at_ : (Lit.int .u16 p.at_).wf = true
 len : (Lit.int .u16 p.len).wf = true
 by_ : (Lit.int .u8 p.by_).wf = true
structure IsParts (w : World) (A : Option Addr) (n cap : Nat) (ps : List Pt) : Prop where
 len : ps.length = n
 le : n ≤ cap
 capm : cap ≤ maxLen
 nil : A = none → cap = 0
 fit : ∀ p ∈ ps, PtB p
 rd : Rd w A (ps.flatMap Pt.cells)
structure At7 (W : World) (b q : Nat) (p : Pt) : Prop where
 c0 : W.cell? ⟨b, q, none⟩ = some (.string p.front)
 c1 : W.cell? ⟨b, q + 1, none⟩ = some (.int .u8 p.reel)
 c2 : W.cell? ⟨b, q + 2, none⟩ = some (.int .u16 p.idx)
 c3 : W.cell? ⟨b, q + 3, none⟩ = some (.string p.data)
 c4 : W.cell? ⟨b, q + 4, none⟩ = some (.int .u16 p.at_)
 c5 : W.cell? ⟨b, q + 5, none⟩ = some (.int .u16 p.len)
 c6 : W.cell? ⟨b, q + 6, none⟩ = some (.int .u8 p.by_)
theorem At7.below {W W1 : World} {b q B : Nat} {p : Pt} (h : At7 W b q p) (k : Below B W W1) (hb : b < B) : At7 W1 b q p :=
 ⟨(k.cell (p := ⟨b, q, none⟩) hb).trans h.c0, (k.cell (p := ⟨b, q + 1, none⟩) hb).trans h.c1, (k.cell (p := ⟨b, q + 2, none⟩) hb).trans h.c2, (k.cell (p := ⟨b, q + 3, none⟩) hb).trans h.c3, (k.cell (p := ⟨b, q + 4, none⟩) hb).trans h.c4, (k.cell (p := ⟨b, q + 5, none⟩) hb).trans h.c5, (k.cell (p := ⟨b, q + 6, none⟩) hb).trans h.c6⟩
theorem IsParts.get {w : World} {A : Option Addr} {n cap : Nat} {ps : List Pt} (h : IsParts w A n cap ps) {k : Nat} (hk : k < ps.length) : ∃ b o : Nat, A = some ⟨b, o, none⟩ ∧ b < w.heap.size ∧ At7 w b (o + k * 7) ps[k] := by
 obtain ⟨b, o, e, hb, hc⟩ := Rd.struct (s := 7) (enc := Pt.cells) (fun _ => rfl) h.rd (by decide) hk
 exact ⟨b, o, e, hb, hc 0 _ rfl, hc 1 _ rfl, hc 2 _ rfl, hc 3 _ rfl, hc 4 _ rfl, hc 5 _ rfl, hc 6 _ rfl⟩
theorem cells_part : Tryz.prog.cellsOf 65 = 7 := by kernel_rfl
theorem cells_damage : Tryz.prog.cellsOf 51 = 14 := by kernel_rfl
theorem cells_p8 : Tryz.prog.cellsOf 5 = 1 := by kernel_rfl
theorem cells_p16 : Tryz.prog.cellsOf 23 = 1 := by kernel_rfl
theorem cells_p2 : Tryz.prog.cellsOf 49 = 2 := by kernel_rfl

section
variable {H : Type} {enc : TypeId × Value → H} {w : World} {base : Nat} {spare : Nat → Bool} {held : Bool} {r : Reach} {b0 : Nat}
theorem open_frames {fuel : Nat} {c : Value} {x : DataW H × List MemPlace} (h : DataW.trod enc Tryz.prog w base spare held fuel 35 [c] = some x) : ∃ A n cap fs, c = .slice A n cap ∧ IsFrames w A n cap fs := by
 rcases Go.Deep.open_slice Tryz.underlying35 h with ⟨hc, _⟩ | ⟨a, len, cap, m, k, D, Pl, hc, _, hl, hm, hmm, _, hx⟩
 ·injection hc with hc _
  exact ⟨none, 0, 0, [], hc, rfl, Nat.le_refl _, by decide, fun _ => rfl, fun f h => (by cases h), fun j h => (by simp at h)⟩
 ·injection hc with hc _
  rw [cells_frame] at hx
  have hle : len ≤ m := by rw [hmm]; split <;> omega
  obtain ⟨fs, h1, h2, h3⟩ := rd_slice (w := w) (base := base) (n := len) (a := a) (s := 9) (enc := fun f : Fr => f.cells.toList) (p := FitB) (by decide) (fun _ => rfl) (fun i hi => by
   obtain ⟨cs', h1, h2⟩ := hx i (by omega)
   obtain ⟨f, g1, g2, _⟩ := frame_of_cells (World.cells?_some h1).2.1 h2
   exact ⟨f, g1, by rw [h1, g2]⟩)
  exact ⟨some a, len, cap, fs, hc, h1, hl, hm, fun e => (by cases e), h2, h3⟩
theorem part_of_cells {cs : List Value} {fuel : Nat} {x : DataW H × List MemPlace} (hf : DataW.trod enc Tryz.prog w base spare held fuel 65 cs = some x) : ∃ p : Pt, PtB p ∧ cs = p.cells := by
 obtain ⟨xs, n, _, _, hl, hlen, hel⟩ := DataW.trod_struct Tryz.underlying65 hf
 rw [cells_part] at hl
 match cs, hl with
 | [c0, c1, c2, c3, c4, c5, c6], _ =>
  match xs, hlen with
  | [y0, y1, y2, y3, y4, y5, y6], _ =>
   have e0 : DataW.trod enc Tryz.prog w base spare held n 9 (([c0, c1, c2, c3, c4, c5, c6].drop 0).take (Tryz.prog.cellsOf 9)) = some y0 := hel 0 _ rfl
   have e1 : DataW.trod enc Tryz.prog w base spare held n 5 (([c0, c1, c2, c3, c4, c5, c6].drop 1).take (Tryz.prog.cellsOf 5)) = some y1 := hel 1 _ rfl
   have e2 : DataW.trod enc Tryz.prog w base spare held n 23 (([c0, c1, c2, c3, c4, c5, c6].drop 2).take (Tryz.prog.cellsOf 23)) = some y2 := hel 2 _ rfl
   have e3 : DataW.trod enc Tryz.prog w base spare held n 9 (([c0, c1, c2, c3, c4, c5, c6].drop 3).take (Tryz.prog.cellsOf 9)) = some y3 := hel 3 _ rfl
   have e4 : DataW.trod enc Tryz.prog w base spare held n 23 (([c0, c1, c2, c3, c4, c5, c6].drop 4).take (Tryz.prog.cellsOf 23)) = some y4 := hel 4 _ rfl
   have e5 : DataW.trod enc Tryz.prog w base spare held n 23 (([c0, c1, c2, c3, c4, c5, c6].drop 5).take (Tryz.prog.cellsOf 23)) = some y5 := hel 5 _ rfl
   have e6 : DataW.trod enc Tryz.prog w base spare held n 5 (([c0, c1, c2, c3, c4, c5, c6].drop 6).take (Tryz.prog.cellsOf 5)) = some y6 := hel 6 _ rfl
   simp only [cells_str, cells_p8, cells_p16, List.drop_zero, List.drop_succ_cons, List.take_succ_cons, List.take_zero] at e0 e1 e2 e3 e4 e5 e6
   obtain ⟨s0, h0, _, w0⟩ := DataW.trod_string Tryz.underlying9 e0
   obtain ⟨m1, h1, _, w1⟩ := DataW.trod_int Tryz.underlying5 e1
   obtain ⟨m2, h2, _, w2⟩ := DataW.trod_int Tryz.underlying23 e2
   obtain ⟨s3, h3, _, w3⟩ := DataW.trod_string Tryz.underlying9 e3
   obtain ⟨m4, h4, _, w4⟩ := DataW.trod_int Tryz.underlying23 e4
   obtain ⟨m5, h5, _, w5⟩ := DataW.trod_int Tryz.underlying23 e5
   obtain ⟨m6, h6, _, w6⟩ := DataW.trod_int Tryz.underlying5 e6
   injection h0 with h0 _
   injection h1 with h1 _
   injection h2 with h2 _
   injection h3 with h3 _
   injection h4 with h4 _
   injection h5 with h5 _
   injection h6 with h6 _
   subst h0 h1 h2 h3 h4 h5 h6
   exact ⟨⟨s0, m1, m2, s3, m4, m5, m6⟩, ⟨w0, w1, w2, w3, w4, w5, w6⟩, rfl⟩
theorem open_parts {fuel : Nat} {c : Value} {x : DataW H × List MemPlace} (h : DataW.trod enc Tryz.prog w base spare held fuel 22 [c] = some x) :
  ∃ A n cap ps, c = .slice A n cap ∧ IsParts w A n cap ps ∧ (n = 0 ∨ ∃ elems sp, x.1 = .slice elems sp ∧ elems.length = n) := by
 rcases Go.Deep.open_slice Tryz.underlying22 h with ⟨hc, hx⟩ | ⟨a, len, cap, m, k, D, Pl, hc, _, hl, hm, hmm, hx', hx⟩
 ·injection hc with hc _
  exact ⟨none, 0, 0, [], hc, ⟨rfl, Nat.le_refl _, by decide, fun _ => rfl, fun f h => (by cases h), fun j h => (by simp at h)⟩, Or.inl rfl⟩
 ·injection hc with hc _
  rw [cells_part] at hx
  have hle : len ≤ m := by rw [hmm]; split <;> omega
  obtain ⟨ps, h1, h2, h3⟩ := rd_slice (w := w) (base := base) (n := len) (a := a) (s := 7) (enc := Pt.cells) (p := PtB) (by decide) (fun _ => rfl) (fun i hi => by
   obtain ⟨cs', h1, h2⟩ := hx i (by omega)
   obtain ⟨f, g1, g2⟩ := part_of_cells h2
   exact ⟨f, g1, by rw [h1, g2]⟩)
  refine ⟨some a, len, cap, ps, hc, ⟨h1, hl, hm, fun e => (by cases e), h2, h3⟩, Or.inr ⟨_, _, congrArg Prod.fst hx', by simp⟩⟩
structure Dg where
 f : Fr
 m0 : Int
 m1 : Int
 at_ : Int
 len : Int
 by_ : Int
def Dg.val (d : Dg) : Value := .agg (d.f.cells ++ #[.int .u8 d.m0, .int .u8 d.m1, .int .u16 d.at_, .int .u16 d.len, .int .u8 d.by_])
structure DgB (d : Dg) : Prop where
 f : FitB d.f
 m0 : (Lit.int .u8 d.m0).wf = true
 m1 : (Lit.int .u8 d.m1).wf = true
 at_ : (Lit.int .u16 d.at_).wf = true
 len : (Lit.int .u16 d.len).wf = true
 by_ : (Lit.int .u8 d.by_).wf = true
theorem open_damage {v : Value} {d : DataW H} {ps : List MemPlace} (hval : Value.okWide Tryz.prog w r b0 51 v) (hd : DataW.Trod enc Tryz.prog w base spare held 51 v d ps) : ∃ g : Dg, DgB g ∧ v = g.val := by
 unfold Value.okWide at hval
 rw [Tryz.underlying51] at hval
 obtain ⟨cs, rfl, hsz, _⟩ := hval
 obtain ⟨fuel, hf⟩ := hd
 have hcl : (Value.agg cs).cells.toList = cs.toList := rfl
 rw [hcl] at hf
 obtain ⟨xs, n, _, _, hl, hlen, hel⟩ := DataW.trod_struct Tryz.underlying51 hf
 rw [cells_damage] at hl
 obtain ⟨c0, c1, c2, c3, c4, c5, c6, c7, c8, c9, ca, cb, cc, cd, hcs⟩ : ∃ c0 c1 c2 c3 c4 c5 c6 c7 c8 c9 ca cb cc cd, cs.toList = [c0, c1, c2, c3, c4, c5, c6, c7, c8, c9, ca, cb, cc, cd] := by
  match h : cs.toList, hl with
  | [c0, c1, c2, c3, c4, c5, c6, c7, c8, c9, ca, cb, cc, cd], _ => exact ⟨_, _, _, _, _, _, _, _, _, _, _, _, _, _, rfl⟩
 rw [hcs] at hel
 match xs, hlen with
 | [y0, y1, y2, y3, y4], _ =>
  have e0 : DataW.trod enc Tryz.prog w base spare held n 44 (([c0, c1, c2, c3, c4, c5, c6, c7, c8, c9, ca, cb, cc, cd].drop 0).take (Tryz.prog.cellsOf 44)) = some y0 := hel 0 _ rfl
  have e1 : DataW.trod enc Tryz.prog w base spare held n 49 (([c0, c1, c2, c3, c4, c5, c6, c7, c8, c9, ca, cb, cc, cd].drop 9).take (Tryz.prog.cellsOf 49)) = some y1 := hel 1 _ rfl
  have e2 : DataW.trod enc Tryz.prog w base spare held n 23 (([c0, c1, c2, c3, c4, c5, c6, c7, c8, c9, ca, cb, cc, cd].drop 11).take (Tryz.prog.cellsOf 23)) = some y2 := hel 2 _ rfl
  have e3 : DataW.trod enc Tryz.prog w base spare held n 23 (([c0, c1, c2, c3, c4, c5, c6, c7, c8, c9, ca, cb, cc, cd].drop 12).take (Tryz.prog.cellsOf 23)) = some y3 := hel 3 _ rfl
  have e4 : DataW.trod enc Tryz.prog w base spare held n 5 (([c0, c1, c2, c3, c4, c5, c6, c7, c8, c9, ca, cb, cc, cd].drop 13).take (Tryz.prog.cellsOf 5)) = some y4 := hel 4 _ rfl
  simp only [cells_frame, cells_p2, cells_p8, cells_p16, List.drop_zero, List.drop_succ_cons, List.take_succ_cons, List.take_zero] at e0 e1 e2 e3 e4
  obtain ⟨f, hfb, hfc, _⟩ := frame_of_cells rfl e0
  obtain ⟨ys, k, rfl, _, _, hyl, hye⟩ := DataW.trod_array Tryz.underlying49 e1
  have a0 := hye 0 (by decide)
  have a1 := hye 1 (by decide)
  rw [List.getElem?_eq_getElem (by omega)] at a0 a1
  simp only [cells_p8, Nat.zero_mul, Nat.one_mul, List.drop_zero, List.drop_succ_cons, List.take_succ_cons, List.take_zero] at a0 a1
  obtain ⟨m9, h9, _, w9⟩ := DataW.trod_int Tryz.underlying5 a0
  obtain ⟨ma, ha, _, wa⟩ := DataW.trod_int Tryz.underlying5 a1
  obtain ⟨mb, hb, _, wb⟩ := DataW.trod_int Tryz.underlying23 e2
  obtain ⟨mc, hc, _, wc⟩ := DataW.trod_int Tryz.underlying23 e3
  obtain ⟨md, hd, _, wd⟩ := DataW.trod_int Tryz.underlying5 e4
  injection h9 with h9 _
  injection ha with ha _
  injection hb with hb _
  injection hc with hc _
  injection hd with hd _
  subst h9 ha hb hc hd
  refine ⟨⟨f, m9, ma, mb, mc, md⟩, ⟨hfb, w9, wa, wb, wc, wd⟩, ?_⟩
  unfold Dg.val
  congr 1
  apply Array.toList_inj.1
  rw [hcs, Array.toList_append]
  show _ = f.cells.toList ++ [_, _, _, _, _]
  rw [← hfc]
  rfl
end
end S14
namespace S14
open Go.RowKit Mem F13

def padD (l : List UInt8) : List UInt8 := l ++ List.replicate (28 - l.length) 0
theorem padD_len {l : List UInt8} (h : l.length ≤ 28) : (padD l).length = 28 := by
  unfold padD
  rw [List.length_append, List.length_replicate]
  omega
def mkF (reel sess idx data spare : Int) (arch : K3.R) (l : List UInt8) : Fr := ⟨66, reel, sess, idx, (l.length : Int), data, spare, arch, ⟨(padD l).toArray⟩⟩
theorem mkF_valid {reel sess idx data spare : Int} {arch : K3.R} {l : List UInt8} (h1 : 1 ≤ data ∧ data ≤ 8) (h2 : 0 ≤ spare ∧ spare ≤ 7) (h3 : 0 ≤ reel ∧ reel < data + spare) (h4 : 1 ≤ sess ∧ sess ≤ 255) (h5 : 0 ≤ idx ∧ idx ≤ 65535) (h6 : l.length ≤ 28) : Valid (mkF reel sess idx data spare arch l) :=
  ⟨.inl rfl, h1, h2, h3, h4, h5, ⟨Int.natCast_nonneg _, by show (l.length : Int) ≤ 28; omega⟩, by show (padD l).length = 28; exact padD_len h6, by
    show zerosB ((padD l).drop l.length) = true
    unfold padD zerosB
    rw [List.drop_left, List.all_eq_true]
    intro x hx
    rw [(List.mem_replicate.1 hx).2]
    rfl⟩
set_option maxHeartbeats 8000000 in
theorem rmake_any (reel sess idx data spare : Int) (arch : K3.R) (D : ByteArray) (w : World) (hD : D.size ≤ 1000) :
    Calls Tryz.prog 26 #[.int .i64 reel, .int .i64 sess, .int .i64 idx, .agg #[.int .i64 data, .int .i64 spare], .int .u32 (arch.toNat : Int), .string D] w fun e w' => e = .returned (mkF reel sess idx data spare arch (D.data.toList.take 28)).val ∧ Below w.heap.size w w' := by
  obtain ⟨D', hD', hs'⟩ : ∃ D' : ByteArray, D'.data.toList = D.data.toList.take 28 ∧ ((28 < D.size ∧ D.extract 0 28 = D') ∨ (D.size ≤ 28 ∧ D = D')) := by
    by_cases h : 28 < D.size
    · exact ⟨D.extract 0 28, by rw [F13.ext_list, List.drop_zero], .inl ⟨h, rfl⟩⟩
    · refine ⟨D, ?_, .inr ⟨by omega, rfl⟩⟩
      rw [List.take_of_length_le (by have : D.data.toList.length = D.size := by simp
                                     omega)]
  have hl28 : D'.size ≤ 28 := by
    have : D'.data.toList.length ≤ 28 := by rw [hD', List.length_take]; omega
    simpa using this
  rw [← hD']
  obtain ⟨X, hX⟩ : ∃ X, arch.toNat = X := ⟨_, rfl⟩
  obtain ⟨W0, hW0⟩ : ∃ W0, (w.alloc (.cells #[.int .i64 data, .int .i64 spare] 41)).alloc (.cells #[.int .i64 0, .int .i64 0, .int .i64 0, .int .i64 0, .int .i64 0, .int .i64 0, .int .i64 0, .int .u32 0, .string ⟨#[]⟩] 44) = W0 := ⟨_, rfl⟩
  have hb0 : Below w.heap.size w W0 := by rw [← hW0]; exact two_made w _ _
  have hvF : VAt W0 (w.heap.size + 1) [.int .i64 0, .int .i64 0, .int .i64 0, .int .i64 0, .int .i64 0, .int .i64 0, .int .i64 0, .int .u32 0, .string ⟨#[]⟩] := by
    have := vat_alloc (w.alloc (.cells #[.int .i64 data, .int .i64 spare] 41)) 44 [.int .i64 0, .int .i64 0, .int .i64 0, .int .i64 0, .int .i64 0, .int .i64 0, .int .i64 0, .int .u32 0, .string ⟨#[]⟩]
    rw [World.size_alloc] at this
    rw [← hW0]
    exact this
  have hvL : VAt W0 w.heap.size [.int .i64 data, .int .i64 spare] := by
    rw [← hW0]
    exact (vat_alloc w 41 [.int .i64 data, .int .i64 spare]).below ((Below.refl _ _).alloc (Nat.le_refl _) _) (by simp)
  have hs0 : W0.heap.size = w.heap.size + 1 + 1 := by rw [← hW0]; simp
  obtain ⟨l, hl, hmk⟩ := I11.make_bytesI W0 28 (by decide)
  have hmk : (Instr.makeSlice 53 (.int .i64 28) (.int .i64 28)).run Tryz.prog W0 = .ok (.slice (some ⟨W0.heap.size, 0, none⟩) 28 28) (W0.alloc (.cells l.toArray 5)) := hmk
  have hll : l.length = 28 := by rw [hl, bys_len]; rfl
  have hcp := Lib.run_copy_row_string (P := Tryz.prog) (W0.alloc (.cells l.toArray 5)) 53 9 3 5 W0.heap.size 0 28 28 D' l.toArray 5 Tryz.underlying53 (by kernel_rfl) (World.alloc_heap_new W0 _) hl28 (by simp [hll]; omega)
  have hrow : ((l.toArray.toList.take 0 ++ Lib.byteCells D'.data.toList ++ l.toArray.toList.drop (0 + D'.size)).toArray : Array Value) = (bys (padD D'.data.toList)).toArray := by
    rw [List.take_zero, List.nil_append, Nat.zero_add]
    congr 1
    unfold padD
    rw [bys_append]
    congr 1
    show l.drop D'.size = _
    rw [hl]
    unfold bys
    rw [List.map_replicate, List.drop_replicate, List.map_replicate]
    congr 1
  rw [hrow, World.setRow_alloc_new] at hcp
  have hat := I11.made_at W0 5 (padD D'.data.toList)
  obtain ⟨W1, hW1⟩ : ∃ W1, W0.alloc (.cells l.toArray 5) = W1 := ⟨_, rfl⟩
  obtain ⟨W2, hW2⟩ : ∃ W2, W0.alloc (.cells (bys (padD D'.data.toList)).toArray 5) = W2 := ⟨_, rfl⟩
  rw [hW1] at hmk hcp
  rw [hW2] at hcp hat
  have hal : Below W0.heap.size W0 W2 := by rw [← hW2]; exact (Below.refl _ _).alloc (Nat.le_refl _) _
  have hpl : (padD D'.data.toList).length = 28 := padD_len (by simpa using hl28)
  have hcv := hat.conv (P := Tryz.prog) (cap := 28) (n := 28) hpl Tryz.underlying53 Tryz.underlying5 Tryz.underlying9
  have hvF1 := hvF.below hal (by omega)
  have hvL1 := hvL.below hal (by omega)
  have hb1 := chain hb0 hal
  obtain ⟨f0', f1', f2', f3', f4', f5', f6', f7', f8', y0, y1, y2, y3, y4, y5, y6, y7, y8⟩ := cells9 hvF1
  have l0 := (hvL1 0 (show 0 < 2 by decide)).1
  have l1 := (hvL1 1 (show 1 < 2 by decide)).1
  have hval : (mkF reel sess idx data spare arch D'.data.toList).val = .agg #[.int .i64 66, .int .i64 reel, .int .i64 sess, .int .i64 idx, .int .i64 (D'.size : Int), .int .i64 data, .int .i64 spare, .int .u32 (X : Int), .string ⟨(padD D'.data.toList).toArray⟩] := by
    rw [← hX]
    unfold mkF Fr.val Fr.cells
    simp
  obtain ⟨Z, hZ⟩ : ∃ Z : ByteArray, ⟨(padD D'.data.toList).toArray⟩ = Z := ⟨_, rfl⟩
  rw [hZ] at hcv hval
  have g9 := cells9 (putN_all (l := [.int .i64 66, .int .i64 reel, .int .i64 sess, .int .i64 idx, .int .i64 (D'.size : Int), .int .i64 data, .int .i64 spare, .int .u32 (X : Int), .string Z]) hvF1 rfl)
  have gb := putN_below (Nat.le_succ _) [.int .i64 66, .int .i64 reel, .int .i64 sess, .int .i64 idx, .int .i64 (D'.size : Int), .int .i64 data, .int .i64 spare, .int .u32 (X : Int), .string Z] 0 _ hb1
  obtain ⟨WE, hWE⟩ : ∃ WE, putN (w.heap.size + 1) W2 0 [.int .i64 66, .int .i64 reel, .int .i64 sess, .int .i64 idx, .int .i64 (D'.size : Int), .int .i64 data, .int .i64 spare, .int .u32 (X : Int), .string Z] = WE := ⟨_, rfl⟩
  rw [hWE] at g9 gb
  simp only [putN, Nat.zero_add, Nat.reduceAdd] at hWE
  obtain ⟨c0, c1, c2, c3, c4, c5, c6, c7, c8, _, _, _, _, _, _, _, _, _⟩ := g9
  obtain ⟨V, hV⟩ : ∃ V, (mkF reel sess idx data spare arch D'.data.toList).val = V := ⟨_, rfl⟩
  rw [hV] at hval ⊢
  replace hval := Lib.hid hval
  replace gb := Lib.hid gb
  obtain ⟨G, hG⟩ : ∃ G, W0.heap.size = G := ⟨_, rfl⟩
  rw [hG] at hmk hcv hcp
  have z1 : (D'.size : Int) ≤ 28 := by omega
  clear hvF hvL hvF1 hvL1 hl hat hal hb0 hb1 hZ hs0 hG hW1 hW2 hV hpl hrow hll hD'
  rcases hs' with ⟨hs, he⟩ | ⟨hs, rfl⟩
  · have d1 : decide ((28 : Int) < (D.size : Int)) = true := decide_eq_true (by omega)
    have d1' : decide (28 < D.size) = true := decide_eq_true hs
    have d2 : (28 : Int) ≤ (D.size : Int) := by omega
    have d3 : 28 ≤ D.size := by omega
    clear hs hD
    go_enter Tryz.func26, Tryz.ntmps26
    go_wp2
    refine bodyPost_ret (v := V) ?_ rfl ⟨rfl, gb.out⟩
    rw [hval.out]
    simp [results, Tryz.results26, go_sem, c0, c1, c2, c3, c4, c5, c6, c7, c8]
  · have d1 : decide ((28 : Int) < (D.size : Int)) = false := decide_eq_false (by omega)
    have d1' : decide (28 < D.size) = false := decide_eq_false (by omega)
    clear hs hD
    go_enter Tryz.func26, Tryz.ntmps26
    go_wp2
    refine bodyPost_ret (v := V) ?_ rfl ⟨rfl, gb.out⟩
    rw [hval.out]
    simp [results, Tryz.results26, go_sem, c0, c1, c2, c3, c4, c5, c6, c7, c8]
end S14
namespace S14
open Go.RowKit Mem F13

theorem rbody_any (c : ByteArray) (i : Nat) (w : World) (hc : c.size ≤ 1000000) (hi : i + 16 ≤ c.size) : Calls Tryz.prog 29 #[.string c, .int .i64 (i : Int)] w fun e w' => e = .returned (.string (bodyAt c i)) ∧ w = w' := by
 obtain ⟨I, hI⟩ : ∃ I : Nat, I = i + 16 := ⟨_, rfl⟩
 obtain ⟨E, hE⟩ : ∃ E : Nat, E = i + 852 := ⟨_, rfl⟩
 have i1 : (i : Int) + 16 = (I : Int) := by omega
 have e1 : (i : Int) + 852 = (E : Int) := by omega
 have i0 : (0 : Int) ≤ (I : Int) := by omega
 have i2 : (I : Int) ≤ (c.size : Int) := by omega
 have i3 : I ≤ c.size := by omega
 have c6 : (c.size : Int) ≤ 1000000 := by omega
 by_cases h : c.size < E
 ·have hb : bodyAt c i = c.extract I c.size := by unfold bodyAt; rw [← hI, ← hE, Nat.min_eq_right (by omega)]
  have d1 : decide ((c.size : Int) < (E : Int)) = true := decide_eq_true (by omega)
  have d2 : decide (c.size < E) = true := decide_eq_true h
  rw [hb]
  clear hb h hi hc hI hE
  go_enter Tryz.func29, Tryz.ntmps29
  go_wp2
  go_ret
  exact ⟨rfl, rfl⟩
 ·have hb : bodyAt c i = c.extract I E := by unfold bodyAt; rw [← hI, ← hE, Nat.min_eq_left (by omega)]
  have d1 : decide ((c.size : Int) < (E : Int)) = false := decide_eq_false (by omega)
  have d2 : decide (c.size < E) = false := decide_eq_false h
  have e2 : (E : Int) ≤ (c.size : Int) := by omega
  have e3 : E ≤ c.size := by omega
  have e4 : (I : Int) ≤ (E : Int) := by omega
  have e5 : I ≤ E := by omega
  rw [hb]
  clear hb h hi hc hI hE
  go_enter Tryz.func29, Tryz.ntmps29
  go_wp2
  go_ret
  exact ⟨rfl, rfl⟩
theorem readN_step {l : List UInt8} {k : Nat} (h : k < l.length) : readN (l.take (k + 1)) = readN (l.take k) + if l[k] == 48 || l[k] == 49 then 1 else 0 := by
 unfold readN
 rw [List.take_succ_eq_append_getElem h, List.filter_append, List.length_append]
 congr 1
 cases hb : (l[k] == 48 || l[k] == 49)
 ·simp [hb]
 ·simp [hb]
theorem u8_eqI (x : UInt8) (n : Nat) (h : n < 256) : (((x.toNat : Nat) : Int) == (n : Int)) = (x == UInt8.ofNat n) := by
 rw [Bool.eq_iff_iff, beq_iff_eq, beq_iff_eq, ← UInt8.toNat_inj, UInt8.toNat_ofNat', Nat.mod_eq_of_lt h]
 omega
set_option maxHeartbeats 2000000 in
theorem rreadable_any (b : ByteArray) (w : World) (hb : b.size ≤ 1000000) : Calls Tryz.prog 55 #[.string b] w fun e w' => e = .returned (.int .i64 (readN b.data.toList : Int)) ∧ w = w' := by
 have hl : b.data.toList.length = b.size := by simp
 have hlh := Lib.hid hl
 clear hl
 go_enter Tryz.func55, Tryz.ntmps55
 go_wp2
 go_loop [3, 4] (fun n i => ∃ k : Nat, k ≤ b.size ∧ i = .int .i64 (k : Int) ∧ n = .int .i64 (readN (b.data.toList.take k) : Int)) (fun _ i => b.size - (intOf i).toNat)
 case atStart => exact ⟨0, Nat.zero_le _, rfl, rfl⟩
 case round =>
  obtain ⟨k, hk, rfl, rfl⟩ := hrel
  by_cases hlt : k < b.size
  ·have hkl : k < b.data.toList.length := by rw [hlh.out]; exact hlt
   have k0 : (0 : Int) ≤ (k : Int) := by omega
   have k1 : (k : Int) < (b.size : Int) := by omega
   have hst := readN_step hkl
   have hr : readN (b.data.toList.take k) ≤ 1000000 := by
    have : readN (b.data.toList.take k) ≤ (b.data.toList.take k).length := List.length_filter_le _ _
    rw [List.length_take] at this
    omega
   have e8 := u8_eqI (b[k]'hlt) 48 (by decide)
   have e9 := u8_eqI (b[k]'hlt) 49 (by decide)
   have hg : b.data.toList[k] = b[k]'hlt := rfl
   rw [hg] at hst
   have g8 : (UInt8.ofNat 48) = 48 := rfl
   have g9 : (UInt8.ofNat 49) = 49 := rfl
   rw [g8] at e8
   rw [g9] at e9
   have hsth := Lib.hid hst
   obtain ⟨R, hR⟩ : ∃ R, readN (b.data.toList.take k) = R := ⟨_, rfl⟩
   obtain ⟨R', hR'⟩ : ∃ R, readN (b.data.toList.take (k + 1)) = R := ⟨_, rfl⟩
   rw [hR] at hsth hr ⊢
   rw [hR'] at hsth
   have hR2 := Lib.hid hR'
   clear hst hR hR' hg
   rcases h8 : (b[k]'hlt == 48) with _ | _
   ·rcases h9 : (b[k]'hlt == 49) with _ | _
    ·have t8 : ((((b[k]'hlt).toNat : Nat) : Int) == 48) = false := e8.trans h8
     have t9 : ((((b[k]'hlt).toNat : Nat) : Int) == 49) = false := e9.trans h9
     have hn : Hid (R' = R) := Lib.hid (by have := hsth.out; rw [h8, h9] at this; exact this)
     clear hsth e8 e9 h8 h9
     go_wp2
     go_round
     case rel => exact ⟨k + 1, by omega, by go_num, by rw [hR2.out, hn.out]⟩
     case measure => simp [intOf]; omega
    ·have t8 : ((((b[k]'hlt).toNat : Nat) : Int) == 48) = false := e8.trans h8
     have t9 : ((((b[k]'hlt).toNat : Nat) : Int) == 49) = true := e9.trans h9
     have hn : Hid (R' = R + 1) := Lib.hid (by have := hsth.out; rw [h8, h9] at this; exact this)
     clear hsth e8 e9 h8 h9
     go_wp2
     go_round
     case rel => exact ⟨k + 1, by omega, by go_num, by rw [hR2.out, hn.out]; go_num⟩
     case measure => simp [intOf]; omega
   ·have t8 : ((((b[k]'hlt).toNat : Nat) : Int) == 48) = true := e8.trans h8
    have hn : Hid (R' = R + 1) := Lib.hid (by have := hsth.out; rw [h8] at this; exact this)
    clear hsth e8 e9 h8
    go_wp2
    go_round
    case rel => exact ⟨k + 1, by omega, by go_num, by rw [hR2.out, hn.out]; go_num⟩
    case measure => simp [intOf]; omega
  ·obtain rfl : k = b.size := by omega
   have hall : b.data.toList.take b.size = b.data.toList := List.take_of_length_le (by rw [hlh.out]; exact Nat.le_refl _)
   rw [hall]
   have d1 : decide ((b.size : Int) < (b.size : Int)) = false := decide_eq_false (by omega)
   clear hall
   go_wp2
   go_ret
   exact ⟨rfl, rfl⟩
set_option maxHeartbeats 2000000 in
theorem rcandidate_any (c : ByteArray) (i : Nat) (w : World) (hc : c.size ≤ 1000000) (hi : i + 16 ≤ c.size) : Calls Tryz.prog 27 #[.string c, .int .i64 (i : Int)] w fun e w' => e = .returned (.bool (candB c i)) ∧ w = w' := by
 have cD := fun W => M12.rdistance_any c (i : Int) W (by omega)
 have cB := fun W => rbody_any c i W hc hi
 have cR := fun W => rreadable_any (bodyAt c i) W (by have := bodyAt_le hi; omega)
 unfold candB
 obtain ⟨D, hD⟩ : ∃ D, M12.ds c.data.toList (i : Int) = D := ⟨_, rfl⟩
 obtain ⟨R, hR⟩ : ∃ R, readN (bodyAt c i).data.toList = R := ⟨_, rfl⟩
 obtain ⟨B, hB⟩ : ∃ B, bodyAt c i = B := ⟨_, rfl⟩
 rw [hD] at cD ⊢
 rw [hR] at cR ⊢
 rw [hB] at cB cR
 replace cD := Lib.hid cD
 replace cB := Lib.hid cB
 replace cR := Lib.hid cR
 clear hD hR hB hc hi
 by_cases h1 : D ≤ 2
 ·have d1 : decide ((D : Int) ≤ 2) = true := decide_eq_true (by omega)
  have d2 : decide (D ≤ 2) = true := decide_eq_true h1
  rw [d2, Bool.true_and]
  have e : decide ((400 : Int) ≤ (R : Int)) = decide (400 ≤ R) := by rw [decide_eq_decide]; omega
  obtain ⟨Z, hZ⟩ : ∃ Z, decide (400 ≤ R) = Z := ⟨_, rfl⟩
  rw [hZ] at e ⊢
  clear h1
  go_enter Tryz.func27, Tryz.ntmps27
  go_wp2_with (first | (go_at_call 54; refine (cD.out _).mono ?_; rintro e w1 ⟨rfl, rfl⟩) | (go_at_call 29; refine (cB.out _).mono ?_; rintro e w1 ⟨rfl, rfl⟩) | (go_at_call 55; refine (cR.out _).mono ?_; rintro e w1 ⟨rfl, rfl⟩))
  go_ret
  exact ⟨rfl, rfl⟩
 ·have d1 : decide ((D : Int) ≤ 2) = false := decide_eq_false (by omega)
  have d2 : decide (D ≤ 2) = false := decide_eq_false h1
  rw [d2, Bool.false_and]
  clear h1
  go_enter Tryz.func27, Tryz.ntmps27
  go_wp2_with (first | (go_at_call 54; refine (cD.out _).mono ?_; rintro e w1 ⟨rfl, rfl⟩))
  go_ret
  exact ⟨rfl, rfl⟩
end S14
end Go.Proofs.YtiodkllckcpinaaGreatDoor
