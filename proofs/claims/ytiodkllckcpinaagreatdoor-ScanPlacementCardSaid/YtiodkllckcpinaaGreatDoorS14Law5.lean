/- The walk of the law ScanPlacement. -/
import Derived.Test.YtiodkllckcpinaaGreatDoorS14Awake
import Derived.Test.YtiodkllckcpinaaGreatDoorS14Law1
import Derived.Test.YtiodkllckcpinaaGreatDoorS14Cells
import Derived.Test.YtiodkllckcpinaaGreatDoorM14AG
set_option linter.unusedVariables false
set_option linter.unusedSimpArgs false
set_option maxRecDepth 100000
namespace Go.Proofs.YtiodkllckcpinaaGreatDoor
namespace S14
open Go.RowKit Mem F13

theorem piece_row {w : World} {A : Option Addr} {l : List Sg} (h : RdS w A (l.map fun s => ((0 : Nat), s))) (i : Nat) (hi : i < l.length) : ∃ g, A = some ⟨g, 0, none⟩ ∧ g < w.heap.size ∧ At14 w g (i * 14) (0, l[i]) := by
 obtain ⟨g, e, hg, ha⟩ := h i (by rw [List.length_map]; exact hi)
 rw [List.getElem_map] at ha
 exact ⟨g, e, hg, ha⟩
theorem place_at {c : ByteArray} {l : List Sg} (h : Scan c 0 l) (i : Nat) (hi : i < l.length) : l[i].at_ + 16 ≤ c.size ∧ M12.fd c.data.toList (l[i].at_ : Int) = some l[i].at_ ∧ DcQ (bodyAt c l[i].at_) l[i].f l[i].d l[i].u l[i].n 0 ∧ ∀ j (hj : j < l.length), i < j → l[i].at_ + 852 ≤ l[j].at_ := by
 obtain ⟨h1, h2⟩ := h.places
 obtain ⟨_, h3, h4, h5⟩ := h1 _ (List.getElem_mem hi)
 refine ⟨h3, (M12.fd_here (by simpa using h3)).2 ?_, h5, fun j hj hij => (List.pairwise_iff_getElem.1 h2) i j hi hj hij⟩
 unfold candB at h4
 rw [Bool.and_eq_true, decide_eq_true_eq] at h4
 exact h4.1
set_option maxHeartbeats 8000000 in
theorem walk_placement (A : Option Addr) (n cap : Nat) (ps : List Pt) (w : World) (hps : IsParts w A n cap ps) (hn : n * 48 ≤ 140737488355328) : Calls Tryz.prog 9 #[.slice A n cap] w fun e w' => e = .returned (.bool true) ∧ Below w.heap.size w w' := by
 have cA := Lib.hid (fun W => awake_any W)
 obtain rfl := hps.len
 have cC := cells_any ps A cap w hps hn
 unfold CeP at cC
 replace cC := Lib.hid cC
 clear hps hn
 go_enter Tryz.func9, Tryz.ntmps9
 go_wp2_with fail
 refine cC.out.mono ?_
 rintro e w1 ⟨S, B, hSB, rfl, hb1⟩
 clear cC
 cases B with
 | false =>
  clear hSB
  go_wp2_with fail
  refine (cA.out _).mono ?_
  rintro e w2 ⟨rfl, hb2⟩
  have hfin := Lib.hid (chain hb1 hb2)
  clear hb1 hb2
  go_wp2
  go_ret
  exact ⟨rfl, hfin.out⟩
 | true =>
  have hS := hSB rfl
  clear hSB
  have cB := fun W => busy_list [S] W (by show 1 ≤ 10; omega) (fun x hx => by rw [List.mem_singleton.1 hx]; omega)
  simp only [List.length_cons, List.length_nil, Nat.zero_add, List.map_cons, List.map_nil] at cB
  have cP := fun W => piece_own S W (by omega)
  unfold PcP at cP
  have cF := fun (a : Nat) (ha : M12.fd S.data.toList (a : Int) = some a) (ha2 : a ≤ 4000) W => M12.find_any S (a : Int) W (by omega) (by omega) (by omega)
  have cF2 : ∀ (a : Nat) (ha : M12.fd S.data.toList (a : Int) = some a) (ha2 : a ≤ 4000) (W : World), Calls Tryz.prog 23 #[.string S, .int .i64 (a : Int)] W fun e w' => e = .returned (.tuple #[.int .i64 (a : Int), .bool true]) ∧ Below W.heap.size W w' := fun a ha ha2 W => by
   have h := cF a ha ha2 W
   unfold M12.fdI M12.fdB at h
   rw [ha] at h
   exact h
  have cD := fun (a : Nat) (ha : a + 16 ≤ S.size) W => decode_own (bodyAt S a) W (by have := bodyAt_le ha; omega)
  unfold DcP at cD
  replace cB := Lib.hid cB
  replace cP := Lib.hid cP
  replace cF2 := Lib.hid cF2
  replace cD := Lib.hid cD
  have hB1 := Lib.hid hb1
  have hSh := Lib.hid hS
  clear cF hb1
  go_wp2_with fail
  with_reducible refine (cB.out _).mono ?_
  rintro e w2 ⟨z, hz, rfl, hb2⟩
  have hB2 := Lib.hid (chain hB1.out hb2)
  clear cB hb2 hB1
  rcases hz with rfl | rfl
  ·go_wp2_with fail
   refine (cP.out _).mono ?_
   rintro e w3 ⟨l, v, hl, rfl, hr, hb3⟩
   obtain ⟨As, caps, rfl, _, _, hR⟩ := rdS_of hr
   rw [List.length_map]
   have hrw := Lib.hid (piece_row hR)
   have hpl := Lib.hid (place_at hl)
   have hB3 := Lib.hid (chain hB2.out hb3)
   have hln := Lib.hid (show l.length ≤ 4000 by have := hl.len; omega)
   clear hl hr hR hb3 hB2 cP
   go_wp2
   go_loopw [5, 30] (fun lv iv wr => ∃ (i : Nat) (la : Int), iv = .int .i64 (i : Int) ∧ lv = .int .i64 la ∧ i ≤ l.length ∧ -852 ≤ la ∧ la ≤ 4000 ∧ (∀ j (hj : j < l.length), i ≤ j → la + 852 ≤ (l[j].at_ : Int)) ∧ Below w3.heap.size w3 wr) (fun _ iv _ => l.length - (intOf iv).toNat)
   case atStart => exact ⟨0, -852, rfl, rfl, Nat.zero_le _, by omega, by omega, fun j hj _ => by omega, Below.refl _ _⟩
   case round =>
    obtain ⟨i, la, rfl, rfl, hi, hla1, hla2, hfar, hb⟩ := hrel
    by_cases hlt : i < l.length
    ·obtain ⟨g, rfl, hg, h14⟩ := hrw.out i hlt
     obtain ⟨hM16, hfd, hD, hnext⟩ := hpl.out i hlt
     have hfi := hfar i hlt (Nat.le_refl i)
     obtain ⟨s, hs⟩ : ∃ s, l[i] = s := ⟨_, rfl⟩
     rw [hs] at h14 hM16 hfd hD hfi
     have hnext2 : ∀ j (hj : j < l.length), i + 1 ≤ j → (s.at_ : Int) + 852 ≤ (l[j].at_ : Int) := fun j hj hij => by
      have := hnext j hj hij
      rw [hs] at this
      omega
     have hnh := Lib.hid hnext2
     clear hnext hnext2 hs hfar
     obtain ⟨M, ⟨kind, reel, sess, idx, len, data, spare, arch, pay⟩, d, u, n⟩ := s
     dsimp only at hM16 hfd hD hfi hnh
     have hM4 : M ≤ 4000 := by have := hSh.out; omega
     have cFM := Lib.hid (cF2.out M hfd hM4)
     have cDM := cD.out M hM16
     obtain ⟨I, hI⟩ : ∃ I : Nat, I = M + 16 := ⟨_, rfl⟩
     obtain ⟨E, hE⟩ : ∃ E : Nat, E = M + 852 := ⟨_, rfl⟩
     obtain ⟨Mn, hMn⟩ : ∃ Mn : Nat, Mn = min E S.size := ⟨_, rfl⟩
     have hbd : bodyAt S M = S.extract I Mn := by unfold bodyAt; rw [hI, hMn, hE]
     rw [hbd] at cDM hD
     obtain ⟨Bd, hBd⟩ : ∃ B, S.extract I Mn = B := ⟨_, rfl⟩
     rw [hBd] at cDM hD
     have hmin : ∀ (ts : Array TypeId) (t : TypeId) (W : World), (Builtin.min_ ts t #[.int .i64 (E : Int), .int .i64 (S.size : Int)]).run Tryz.prog W = .ok (.int .i64 (Mn : Int)) W := fun ts t W => by
      rw [run_min_int2]
      congr 2
      split <;> omega
     have i1 : (M : Int) + 16 = (I : Int) := by omega
     have e1 : (M : Int) + 852 = (E : Int) := by omega
     have i0 : (0 : Int) ≤ (I : Int) := by omega
     have m1 : (I : Int) ≤ (Mn : Int) := by omega
     have m2 : (Mn : Int) ≤ (S.size : Int) := by omega
     have m3 : I ≤ Mn := by omega
     have m4 : Mn ≤ S.size := by omega
     have s4 : (S.size : Int) ≤ 4000 := by omega
     have hM0 : (M : Int) ≤ 4000 := by omega
     have dA : decide ((M : Int) < la + 852) = false := decide_eq_false (by omega)
     have dB : decide ((S.size : Int) < (I : Int)) = false := decide_eq_false (by omega)
     have dB' : decide (S.size < I) = false := decide_eq_false (by omega)
     have di : decide ((i : Int) < (l.length : Int)) = true := decide_eq_true (by omega)
     have di' : decide (i < l.length) = true := decide_eq_true hlt
     have j0 : (0 : Int) ≤ (i : Int) := by omega
     have j1 : (i : Int) < (l.length : Int) := by omega
     have jj : (i : Int) ≤ 4000 := by have := hln.out; omega
     obtain ⟨c0, c1, c2, c3, c4, c5, c6, c7, c8, c9, ca, cb, cc, cd⟩ := h14.below hb hg
     dsimp only at c0 c1 c2 c3 c4 c5 c6 c7 c8 c9 ca cb cc cd
     rw [show ((0 : Nat) : Int) = 0 from rfl] at c0
     have hb4 := hb.alloc hb.size (.cells #[.int .i64 0, .int .i64 (M : Int), .int .i64 kind, .int .i64 reel, .int .i64 sess, .int .i64 idx, .int .i64 len, .int .i64 data, .int .i64 spare, .int .u32 (arch.toNat : Int), .string pay, .int .i64 d, .int .i64 u, .int .i64 n] 48)
     have hvP := vat_alloc wr 48 [.int .i64 0, .int .i64 (M : Int), .int .i64 kind, .int .i64 reel, .int .i64 sess, .int .i64 idx, .int .i64 len, .int .i64 data, .int .i64 spare, .int .u32 (arch.toNat : Int), .string pay, .int .i64 d, .int .i64 u, .int .i64 n]
     obtain ⟨WB, hWB⟩ : ∃ W, wr.alloc (.cells #[.int .i64 0, .int .i64 (M : Int), .int .i64 kind, .int .i64 reel, .int .i64 sess, .int .i64 idx, .int .i64 len, .int .i64 data, .int .i64 spare, .int .u32 (arch.toNat : Int), .string pay, .int .i64 d, .int .i64 u, .int .i64 n] 48) = W := ⟨_, rfl⟩
     have hsP : wr.heap.size < WB.heap.size := by rw [← hWB]; simp
     rw [show wr.alloc (.cells ([.int .i64 0, .int .i64 (M : Int), .int .i64 kind, .int .i64 reel, .int .i64 sess, .int .i64 idx, .int .i64 len, .int .i64 data, .int .i64 spare, .int .u32 (arch.toNat : Int), .string pay, .int .i64 d, .int .i64 u, .int .i64 n] : List Value).toArray 48) = WB from hWB] at hvP
     rw [hWB] at hb4
     have rule := fun (W : World) (h : Below WB.heap.size WB W) => cells14 (hvP.below h hsP)
     replace rule := Lib.hid rule
     obtain ⟨p0, p1, p2, p3, p4, p5, p6, p7, p8, p9, pa, pb, pc, pd⟩ := rule.out WB (Below.refl _ _)
     have hb4h := Lib.hid hb4
     replace hD := Lib.hid hD
     replace cDM := Lib.hid cDM
     have hla := Lib.hid hla1
     have hit := Lib.hid hlt
     clear h14 hI hE hMn hbd hb4 hb hvP hsP hfd hfi hM16 hM4 hi hlt
     go_wp2_with fail
     with_reducible refine (cFM.out _).mono ?_
     rintro e w11 ⟨rfl, hb11⟩
     obtain ⟨q0, q1, q2, q3, q4, q5, q6, q7, q8, q9, qa, qb, qc, qd⟩ := rule.out w11 hb11
     have hb11h := Lib.hid hb11
     clear hb11 p0 p1 p2 p3 p4 p5 p6 p7 p8 p9 pa pb pc pd hWB
     go_wp2_with fail
     with_reducible refine (cDM.out _).mono ?_
     rintro e w12 ⟨F, d', u', n', k', hQ, rfl, hb12⟩
     obtain ⟨rfl, rfl, rfl, rfl, rfl⟩ := hD.out.only hQ
     unfold Fr.val Fr.cells qV
     dsimp only
     have hb13 := chain hb11h.out hb12
     have hb14 := hb13.alloc hb13.size (.cells #[.int .i64 kind, .int .i64 reel, .int .i64 sess, .int .i64 idx, .int .i64 len, .int .i64 data, .int .i64 spare, .int .u32 (arch.toNat : Int), .string pay] 44)
     have hb15 := hb14.alloc hb14.size (.cells #[.int .i64 d, .int .i64 u, .int .i64 n] 46)
     obtain ⟨x0, x1, x2, x3, x4, x5, x6, x7, x8, x9, xa, xb, xc, xd⟩ := rule.out _ hb15
     have hfin := Lib.hid (chain hb4h.out hb15)
     clear hQ hb12 hb13 hb14 hb15 hb11h hD hb4h rule q0 q1 q2 q3 q4 q5 q6 q7 q8 q9 qa qb qc qd cFM cDM
     go_wp2
     go_roundw
     case rel => exact ⟨i + 1, M, by go_num, rfl, hit.out, by omega, hM0, hnh.out, hfin.out⟩
     case measure => have := hit.out; simp [intOf]; omega
    ·obtain rfl : i = l.length := by omega
     have di : decide ((l.length : Int) < (l.length : Int)) = false := decide_eq_false (by omega)
     have di' : decide (l.length < l.length) = false := decide_eq_false (by omega)
     have hB4 := Lib.hid (chain hB3.out hb)
     clear hB3 hb hrw hpl hfar
     go_wp2_with fail
     refine (cA.out _).mono ?_
     rintro e w13 ⟨rfl, hb13⟩
     have hfin := Lib.hid (chain hB4.out hb13)
     clear hB4 hb13
     go_wp2
     go_ret
     exact ⟨rfl, hfin.out⟩
  ·go_wp2_with fail
   refine (cA.out _).mono ?_
   rintro e w3 ⟨rfl, hb3⟩
   have hfin := Lib.hid (chain hB2.out hb3)
   clear hB2 hb3
   go_wp2
   go_ret
   exact ⟨rfl, hfin.out⟩
end S14
end Go.Proofs.YtiodkllckcpinaaGreatDoor
