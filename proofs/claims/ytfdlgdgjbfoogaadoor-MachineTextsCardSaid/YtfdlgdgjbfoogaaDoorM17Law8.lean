/- MachineSubroutine, walked over Literal's contract. -/
import Derived.Test.YtfdlgdgjbfoogaaDoorM17Alive
import Derived.Test.YtfdlgdgjbfoogaaDoorM17PSub
import Derived.Test.YtfdlgdgjbfoogaaDoorM17LitS
import Derived.DataShut
import Derived.Test.YtfdlgdgjbfoogaaDoorShelf
import Derived.Deep.Cut
namespace Go.Proofs.YtfdlgdgjbfoogaaDoor.M17
set_option maxRecDepth 100000
open Go.RowKit Mem
set_option linter.unusedVariables false
set_option linter.unusedSimpArgs false

/-- What is asked of Literal. -/
def LitQ : Prop := ∀ (n : Nat) (W : World), n < 100 → Calls Tryd.prog 10 #[.int .u32 (n : Int)] W fun e w' => e = .returned (.string ⟨((digs n).map UInt8.ofNat).toArray⟩) ∧ Below W.heap.size W w'
theorem digs_back (n : Nat) : ((digs n).map UInt8.ofNat).map UInt8.toNat = digs n := by
  rw [List.map_map]
  conv => rhs; rw [← List.map_id (digs n)]
  refine List.map_congr_left fun c hc => ?_
  have := digs_range n c hc
  show (UInt8.ofNat c).toNat = c
  rw [UInt8.toNat_ofNat_of_lt' (by show c < 256; omega)]
theorem rep_dots : ∀ d, Lib.repeatL [46] d = List.replicate d 46
  | 0 => rfl
  | d + 1 => by
    show [46] ++ Lib.repeatL [46] d = _
    rw [rep_dots d]
    rfl
theorem txts_three (w : World) (z1 z2 z3 : Int) (S1 S2 S3 : ByteArray) (h1 : FitT (z1, S1)) (h2 : FitT (z2, S2)) (h3 : FitT (z3, S3)) : IsTxts (w.alloc (.cells #[.int .i64 z1, .string S1, .int .i64 z2, .string S2, .int .i64 z3, .string S3] 34)) (some ⟨w.heap.size, 0, none⟩) 3 3 [(z1, S1), (z2, S2), (z3, S3)] := txts_new w [(z1, S1), (z2, S2), (z3, S3)] (by
  intro t h
  rcases List.mem_cons.1 h with e | h
  · rw [e]; exact h1
  rcases List.mem_cons.1 h with e | h
  · rw [e]; exact h2
  · rw [List.mem_singleton.1 h]; exact h3) (by simp)
theorem z3s {T : TypeId} {W : World} {X : Nat} {a b c : Value} (k : Blk T W X [a, b, c]) : W.cell? ⟨X, 0, none⟩ = some a ∧ W.cell? ⟨X, 1, none⟩ = some b ∧ W.cell? ⟨X, 2, none⟩ = some c := ⟨k.cell 0, k.cell 1, k.cell 2⟩
set_option maxHeartbeats 4000000 in
theorem walk_subroutine (hlit : LitQ) (y : UInt8) (w : World) :
    Calls Tryd.prog 5 #[.int .u8 (y.toNat : Int)] w fun e w' => e = .returned (.bool true) ∧ Below w.heap.size w w' := by
  have cA := Lib.hid (alive_any w)
  obtain ⟨k, hk⟩ : ∃ k, y.toNat % 80 = k := ⟨_, rfl⟩
  have hk80 : k < 80 := by omega
  have t1 : (y.toNat : Int).tmod 80 = (k : Int) := by rw [Int.tmod_eq_emod_of_nonneg (by omega)]; omega
  have t2 : IntKind.u32.wrap (k : Int) = (k : Int) := by rw [IntKind.wrap_u32]; omega
  have t3 : (k : Int) % 4294967296 = (k : Int) := by omega
  have y1 : (0 : Int) ≤ (y.toNat : Int) := by omega
  have y2 : (y.toNat : Int) ≤ 255 := by have := UInt8.toNat_lt y; omega
  have k0 : (0 : Int) ≤ (k : Int) := by omega
  have k1 : (k : Int) < 80 := by omega
  have cL := fun W => hlit k W (by omega)
  obtain ⟨D, hD⟩ : ∃ D : ByteArray, ⟨((digs k).map UInt8.ofNat).toArray⟩ = D := ⟨_, rfl⟩
  have hDl : D.data.toList.map UInt8.toNat = digs k := by rw [← hD]; exact digs_back k
  rw [hD] at cL
  have hDs : D.size ≤ 10 := by
    have h1 := congrArg List.length hDl
    have h2 : D.data.toList.length = D.size := by simp
    have h3 : (digs k).length ≤ 10 := digs_small k (by omega)
    rw [List.length_map, h2] at h1
    omega
  obtain ⟨M, hM⟩ : ∃ M : ByteArray, D ++ ⟨#[32, 57, 48, 48, 33, 49, 48, 48, 58, 36]⟩ = M := ⟨_, rfl⟩
  have hMl : M.data.toList.map UInt8.toNat = mainC k := by
    rw [← hM, show (D ++ ⟨#[32, 57, 48, 48, 33, 49, 48, 48, 58, 36]⟩ : ByteArray).data.toList = D.data.toList ++ [32, 57, 48, 48, 33, 49, 48, 48, 58, 36] by simp, List.map_append, hDl]
    rfl
  have hMs : M.size ≤ 20 := by
    have h1 := congrArg List.length hMl
    have h2 : M.data.toList.length = M.size := by simp
    have h3 : (digs k).length ≤ 10 := digs_small k (by omega)
    rw [List.length_map, h2] at h1
    unfold mainC at h1
    rw [List.length_append] at h1
    have h4 : ([32, 57, 48, 48, 33, 49, 48, 48, 58, 36] : List Nat).length = 10 := rfl
    omega
  obtain ⟨a1, a2⟩ := sub_ans k hk80 M ⟨#[57, 48, 48, 64, 49, 52, 48, 63, 57, 48, 48, 64, 49, 45, 57, 48, 48, 33, 49, 48, 48, 58, 52, 54, 46, 48, 32, 49, 52, 48, 63]⟩ ⟨#[59]⟩ hMl rfl rfl
  have cF := fun (W : World) => Run_own (txts_three W 0 100 140 M ⟨#[57, 48, 48, 64, 49, 52, 48, 63, 57, 48, 48, 64, 49, 45, 57, 48, 48, 33, 49, 48, 48, 58, 52, 54, 46, 48, 32, 49, 52, 48, 63]⟩ ⟨#[59]⟩ (fit_small _ _ (by decide) (by decide) (by omega)) (fit_small _ _ (by decide) (by decide) (by decide)) (fit_small _ _ (by decide) (by decide) (by decide))) (inp_none _) 0 20000
  have cR := fun W => Tryd.strings_Repeat ⟨#[46]⟩ k W (by omega) (by show 1 * k ≤ _; omega)
  rw [show (Lib.repeatL (ByteArray.mk #[46]).data.toList k) = List.replicate k 46 from rep_dots k] at cR
  replace cL := Lib.hid cL
  replace cR := Lib.hid cR
  clear hD hDl hMl hMs hk
  by_cases hbig : 64 < k + 1
  · obtain ⟨n, hn⟩ := a2 hbig
    have u0 : decide ((64 : Int) < (k : Int) + 1) = true := decide_eq_true (by omega)
    rw [hn] at cF
    unfold outV at cF
    dsimp only at cF
    rw [show ((12 : Nat) : Int) = 12 from rfl] at cF
    obtain ⟨ns, hns⟩ : ∃ q : Int, (n : Int) = q := ⟨_, rfl⟩
    rw [hns] at cF
    replace cF := Lib.hid cF
    clear a1 a2 hn hns hbig hk80
    go_enter Tryd.func5, Tryd.ntmps5
    go_wp2_with fail
    refine (cA.out).mono ?_
    rintro e w1 ⟨rfl, hb1⟩
    replace hb1 := Lib.hid hb1
    go_wp2_with fail
    refine (cL.out _).mono ?_
    rintro e w2 ⟨rfl, hb2⟩
    have hb3 := Lib.hid (chain hb1.out hb2)
    clear hb1 hb2 cA cL
    go_wp2_with fail
    refine (cF.out _).mono ?_
    rintro e w3 ⟨rfl, hb4⟩
    have hb5 := Lib.hid (chain hb3.out (chain (boxed w2 _) hb4))
    clear hb3 hb4 cF
    go_wp2
    first | go_ret | skip
    exact ⟨rfl, hb5.out.trans ((boxed w3 _).mono hb5.out.size)⟩
  · obtain ⟨n, hn⟩ := a1 (by omega)
    have u0 : decide ((64 : Int) < (k : Int) + 1) = false := decide_eq_false (by omega)
    rw [hn] at cF
    unfold outV at cF
    dsimp only at cF
    rw [show ((0 : Nat) : Int) = 0 from rfl] at cF
    obtain ⟨ns, hns⟩ : ∃ q : Int, (n : Int) = q := ⟨_, rfl⟩
    obtain ⟨O, hO⟩ : ∃ O : ByteArray, ⟨(List.replicate k (46 : UInt8)).toArray⟩ = O := ⟨_, rfl⟩
    rw [hns, hO] at cF
    have cR := Lib.hid (fun W => by have := cR.out W; rw [hO] at this; exact this)
    replace cF := Lib.hid cF
    clear a1 a2 hn hns hbig hk80 hO
    go_enter Tryd.func5, Tryd.ntmps5
    go_wp2_with fail
    refine (cA.out).mono ?_
    rintro e w1 ⟨rfl, hb1⟩
    replace hb1 := Lib.hid hb1
    go_wp2_with fail
    refine (cL.out _).mono ?_
    rintro e w2 ⟨rfl, hb2⟩
    have hb3 := Lib.hid (chain hb1.out hb2)
    clear hb1 hb2 cA cL
    go_wp2_with fail
    refine (cF.out _).mono ?_
    rintro e w3 ⟨rfl, hb4⟩
    have hb5 := chain hb3.out (chain (boxed w2 _) hb4)
    have hb6 := Lib.hid (hb5.alloc hb5.size (.cells #[.string O, .int .i64 0, .int .i64 ns] 31))
    obtain ⟨d0, d1, d2⟩ := z3s (Blk.new w3 31 [.string O, .int .i64 0, .int .i64 ns])
    have hlt : w3.heap.size < (w3.alloc (.cells #[.string O, .int .i64 0, .int .i64 ns] 31)).heap.size := by simp
    obtain ⟨X, hX⟩ : ∃ X, w3.heap.size = X := ⟨_, rfl⟩
    obtain ⟨W3, hW3⟩ : ∃ W, w3.alloc (.cells #[.string O, .int .i64 0, .int .i64 ns] 31) = W := ⟨_, rfl⟩
    rw [show (w3.alloc (.cells [.string O, .int .i64 0, .int .i64 ns].toArray 31)) = W3 from hW3, hX] at d0 d1 d2
    rw [hW3] at hb6 hlt
    rw [hX] at hlt
    have ld0 : ∀ W, Below W3.heap.size W3 W → W.cell? ⟨X, 0, none⟩ = some (.string O) := fun W hb => (hb.cell (p := ⟨X, 0, none⟩) hlt).trans d0
    have ld1 : ∀ W, Below W3.heap.size W3 W → W.cell? ⟨X, 1, none⟩ = some (.int .i64 0) := fun W hb => (hb.cell (p := ⟨X, 1, none⟩) hlt).trans d1
    have hOO : (O.toList == O.toList) = true := beq_self_eq_true _
    have keep0 := Below.refl W3.heap.size W3
    have keep1 : ∀ W, Below W3.heap.size W3 W → Below W3.heap.size W3 (World.drew W) := fun W h => h.drew
    clear hb3 hb4 hb5 cF d2 hlt
    go_wp2_with fail
    go_region_held3 (fun W => Below W3.heap.size W3 W) (first | exact keep0 | exact keep1 _ keep0 | exact chain ‹_› ‹_› | assumption) (first | (go_at_call 13; (with_reducible refine (cR.out _).mono ?_); rintro e w9 ⟨rfl, hb9⟩))
    go_wp2
    first | go_ret | skip
    exact ⟨rfl, by first | exact hb6.out.trans (Below.mono (by assumption) hb6.out.size) | exact hb6.out.trans ((chain keep0 (chain (keep1 _ keep0) (by assumption))).mono hb6.out.size)⟩
/-- The same at what the reading says. -/
theorem row_subroutine (k : Int) (w : World) (q0 : (Lit.int .u8 k).wf = true) : Calls Tryd.prog 5 #[.int .u8 k] w fun e w' => e = .returned (.bool true) ∧ Below w.heap.size w w' := by
  have h8 : 0 ≤ k ∧ k ≤ 255 := (Lit.wf_int_iff .u8 _).1 q0
  have e : k = ((UInt8.ofNat k.toNat).toNat : Int) := by
    rw [UInt8.toNat_ofNat_of_lt' (by show k.toNat < 256; omega)]
    omega
  rw [e]
  exact walk_subroutine (fun n W h => lit_small n h W) _ w
end Go.Proofs.YtfdlgdgjbfoogaaDoor.M17
