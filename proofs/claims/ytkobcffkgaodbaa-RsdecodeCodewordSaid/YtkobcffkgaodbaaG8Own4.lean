/- The contract of the landed correction of one symbol (Forney's formula). -/
import Derived.Test.YtkobcffkgaodbaaG8Own3
import Derived.Test.YtkobcffkgaodbaaG5OwnDiv
import Derived.Deep.RegionHeld3
namespace Go.Proofs.Ytkobcffkgaodbaa.G8
open Go.Proofs.Ytkobcffkgaodbaa.G5
open Go.Proofs.Ytkobcffkgaodbaa.G7
open Go.Proofs.Ytkobcffkgaodbaa.G6 (mb rs rs_len rs_get IsSl Gives ev eval_own)
open Go.RowKit Mem
set_option linter.unusedVariables false
set_option linter.unusedSimpArgs false

/-- What is added to a symbol. -/
def corr (Ψ E Q : List R) (x : R) : R := if ev Ψ x = 0 then G5.dv (ev E x) (tms x (ev Q x)) else 0
set_option maxRecDepth 100000 in
set_option maxHeartbeats 4000000 in
theorem corr_own {s : ByteArray} {n i b1 b2 b3 b4 n2 n3 n4 c2 c3 c4 : Nat} {A2 A3 A4 : Option Addr} {Ψ E Q : List R} {w : World} (hs : s.size = n) (hn : n ≤ 1000) (hi : i < n)
    (h1 : w.cell? ⟨b1, 0, none⟩ = some (.string s)) (h2 : w.cell? ⟨b2, 0, none⟩ = some (.slice A2 n2 c2)) (h3 : w.cell? ⟨b3, 0, none⟩ = some (.slice A3 n3 c3)) (h4 : w.cell? ⟨b4, 0, none⟩ = some (.slice A4 n4 c4))
    (hΨ : IsSl w A2 c2 Ψ) (hE : IsSl w A3 c3 E) (hQ : IsSl w A4 c4 Q) (l2 : Ψ.length = n2) (l3 : E.length = n3) (l4 : Q.length = n4) (g2 : n2 ≤ 1000) (g3 : n3 ≤ 1000) (g4 : n4 ≤ 1000) :
    Calls Try.prog 48 #[.int .i64 (i : Int), .pointer (some ⟨b1, 0, none⟩), .pointer (some ⟨b2, 0, none⟩), .pointer (some ⟨b3, 0, none⟩), .pointer (some ⟨b4, 0, none⟩)] w
      fun e w' => e = .returned (bv (corr Ψ E Q (rt n i))) ∧ Below w.heap.size w w' := by
  have cR := Lib.hid (root_own w hn hi)
  obtain ⟨x, hx⟩ : ∃ x, rt n i = x := ⟨_, rfl⟩
  rw [hx] at cR ⊢
  have k2 := World.block_lt_of_cell? _ _ h2
  have k3 := World.block_lt_of_cell? _ _ h3
  have k4 := World.block_lt_of_cell? _ _ h4
  have cV := fun (W : World) (k : Below w.heap.size w W) => eval_own x (hΨ.below k) (by omega)
  have cE := fun (W : World) (k : Below w.heap.size w W) => eval_own x (hE.below k) (by omega)
  have cQ := fun (W : World) (k : Below w.heap.size w W) => eval_own x (hQ.below k) (by omega)
  rw [l2] at cV
  rw [l3] at cE
  rw [l4] at cQ
  have hcv : corr Ψ E Q x = if ev Ψ x = 0 then G5.dv (ev E x) (tms x (ev Q x)) else 0 := rfl
  obtain ⟨V, hV⟩ : ∃ V, ev Ψ x = V := ⟨_, rfl⟩
  obtain ⟨Y, hY⟩ : ∃ Y, ev E x = Y := ⟨_, rfl⟩
  obtain ⟨Z, hZ⟩ : ∃ Z, ev Q x = Z := ⟨_, rfl⟩
  rw [hV] at cV hcv
  rw [hY] at cE hcv
  rw [hZ] at cQ hcv
  have cM := fun W => mul_own x Z W
  obtain ⟨U, hU⟩ : ∃ U, tms x Z = U := ⟨_, rfl⟩
  rw [hU] at cM hcv
  have cD := fun W => div_own Y U W
  obtain ⟨D, hD⟩ : ∃ D, G5.dv Y U = D := ⟨_, rfl⟩
  rw [hD] at cD hcv
  have hcv := Lib.hid hcv
  have q2 := fun (W : World) (k : Below w.heap.size w W) => (k.cell (p := ⟨b2, 0, none⟩) k2).trans h2
  have q3 := fun (W : World) (k : Below w.heap.size w W) => (k.cell (p := ⟨b3, 0, none⟩) k3).trans h3
  have q4 := fun (W : World) (k : Below w.heap.size w W) => (k.cell (p := ⟨b4, 0, none⟩) k4).trans h4
  have q2 := Lib.hid q2
  have q3 := Lib.hid q3
  have q4 := Lib.hid q4
  have cV := Lib.hid cV
  have cE := Lib.hid cE
  have cQ := Lib.hid cQ
  have cM := Lib.hid cM
  have cD := Lib.hid cD
  clear hx hV hY hZ hU hD h2 h3 h4 hΨ hE hQ l2 l3 l4 k2 k3 k4
  go_enter Try.func48, Try.ntmps48
  go_wp2_with fail
  refine cR.out.mono ?_
  rintro e w1 ⟨rfl, hb1⟩
  have e2 := q2.out w1 hb1
  have cV1 := Lib.hid (cV.out w1 hb1)
  clear cR cV
  go_wp2_with fail
  refine cV1.out.mono ?_
  rintro e w2 ⟨rfl, nn, rfl⟩
  have hb2 := chainN hb1 nn
  obtain ⟨w2, hw2⟩ : ∃ w2, w1.drewN nn = w2 := ⟨_, rfl⟩
  rw [hw2] at hb2 ⊢
  clear hw2 e2 hb1 cV1 q2
  rcases he : (V == 0#8) with _ | _
  · have t1 : ((V.toNat : Int) != 0) = true := by rw [G6.nz_el, he]; rfl
    have hr := Lib.hid (show corr Ψ E Q x = 0 by rw [hcv.out, if_neg (by simpa using he)])
    clear he
    go_wp2
    go_ret
    exact ⟨by rw [hr.out]; rfl, hb2⟩
  · have t1 : ((V.toNat : Int) != 0) = false := by rw [G6.nz_el, he]; rfl
    have hr := Lib.hid (show corr Ψ E Q x = D by rw [hcv.out, if_pos (by simpa using he)])
    have keep0 := Below.refl w2.heap.size w2
    have keep1 : ∀ W, Below w2.heap.size w2 W → Below w2.heap.size w2 (World.drew W) := fun W h => chainN h 1
    have keep2 : ∀ W n, Below w2.heap.size w2 W → Below w2.heap.size w2 (World.drewN W n) := fun W n h => chainN h n
    have r3 := fun (W : World) (k : Below w2.heap.size w2 W) => q3.out W (chain hb2 k)
    have r4 := fun (W : World) (k : Below w2.heap.size w2 W) => q4.out W (chain hb2 k)
    have cE := Lib.hid (fun (W : World) (k : Below w2.heap.size w2 W) => cE.out W (chain hb2 k))
    have cQ := Lib.hid (fun (W : World) (k : Below w2.heap.size w2 W) => cQ.out W (chain hb2 k))
    obtain ⟨B, hB⟩ : ∃ B, (!(U == 0#8)) = B := ⟨_, rfl⟩
    rw [hB] at cD
    have hb2 := Lib.hid hb2
    clear he hB q3 q4
    go_wp2_with fail
    go_region_held3 (fun W => Below w2.heap.size w2 W) (first | exact keep0 | exact keep1 _ keep0 | exact keep2 _ _ keep0 | exact keep2 _ _ (keep1 _ keep0) | exact keep2 _ _ (keep2 _ _ (keep1 _ keep0)) | exact chain (keep2 _ _ (keep2 _ _ (keep1 _ keep0))) ‹_› | exact chain ‹_› ‹_› | exact keep2 _ _ ‹_› | assumption) (first | (go_at_call 39; (first | (with_reducible refine (cE.out _ (by first | exact keep1 _ keep0 | exact keep2 _ _ keep0 | exact keep2 _ _ (keep1 _ keep0) | exact keep1 _ (keep2 _ _ keep0))).mono ?_) | (with_reducible refine (cQ.out _ (by first | exact keep1 _ keep0 | exact keep2 _ _ keep0 | exact keep2 _ _ (keep1 _ keep0) | exact keep1 _ (keep2 _ _ keep0))).mono ?_)); rintro e3 w10 ⟨rfl, nn, rfl⟩) | (go_at_call 51; (with_reducible refine (cM.out _).mono ?_); rintro e4 w11 ⟨rfl, rfl⟩) | (go_at_call 50; (with_reducible refine (cD.out _).mono ?_); rintro e5 w12 ⟨rfl, hb5⟩))
    have hfin := chain hb2.out (chain (keep2 _ _ keep0) hb5)
    go_wp2
    go_ret
    exact ⟨by rw [hr.out]; rfl, hfin⟩
end Go.Proofs.Ytkobcffkgaodbaa.G8
