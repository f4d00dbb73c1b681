/- The helpers of layer 7's laws: words, awake. -/
import Derived.Test.YtgjinnllofpoaaaG7Own5
import Derived.Laws.Cover1
namespace Go.Proofs.Ytgjinnllofpoaaa.G7
open Go.Proofs.Ytgjinnllofpoaaa.G5
open Go.Proofs.Ytgjinnllofpoaaa.G6 (ev rs rs_len rs_get IsSl conv_sl mb)
open Go.RowKit Mem
set_option linter.unusedVariables false
set_option linter.unusedSimpArgs false

theorem el_extract (s : ByteArray) (n : Nat) (h : n ≤ s.size) : el (s.extract 0 n) = (el s).take n ∧ (s.extract 0 n).size = n := by
  constructor
  · unfold el
    rw [ByteArray.data_extract]
    simp
  · simp
    omega
/-- The two words. -/
def Words (a b : List R) (p n : Nat) (w : World) (e : Ending) (w' : World) : Prop := ∃ t u, IsEnc p (a.take n) t ∧ IsEnc p (b.take n) u ∧
  e = .returned (.tuple #[.string (str (a.take n ++ t)), .string (str (b.take n ++ u)), .int .i64 (p : Int), .bool true]) ∧ Below w.heap.size w w'
set_option maxHeartbeats 1000000 in
theorem words_any (a b : ByteArray) (q p n : Nat) (w : World) (hq : q ≤ 255) (hp : q % 64 + 1 = p) (hn : min (min a.size b.size) (255 - p) = n) (ha : a.size ≤ 140737488351232) (hb : b.size ≤ 140737488351232) :
    Calls Try.prog 18 #[.string a, .string b, .int .u8 (q : Int)] w (Words (el a) (el b) p n w) := by
  obtain ⟨ea, na⟩ := el_extract a n (by omega)
  obtain ⟨eb, nb⟩ := el_extract b n (by omega)
  have cA := enc_own (a.extract 0 n) p w (by omega) (by omega) (by omega)
  rw [ea] at cA
  have cA := Lib.hid cA
  have cB := fun W => enc_own (b.extract 0 n) p W (by omega) (by omega) (by omega)
  rw [eb] at cB
  have cB := Lib.hid cB
  have e1 : (q : Int) % 64 + 1 = (p : Int) := by omega
  have hmin : ∀ (ts : Array TypeId) (t : TypeId) (W : World), (Builtin.min_ ts t #[.int .i64 (a.size : Int), .int .i64 (b.size : Int), .int .i64 (255 - (p : Int))]).run Try.prog W = .ok (.int .i64 (n : Int)) W := fun ts t W => by
    rw [run_min_int3]
    congr 2
    split <;> split at * <;> omega
  have n1 : (n : Int) ≤ (a.size : Int) := by omega
  have n2 : (n : Int) ≤ (b.size : Int) := by omega
  have n1' : n ≤ a.size := by omega
  have n2' : n ≤ b.size := by omega
  have n0 : (0 : Int) ≤ (n : Int) := by omega
  have nnh := Lib.hid (show n ≤ 255 - p by omega)
  clear ea eb na nb hn
  go_enter Try.func18, Try.ntmps18
  go_wp2_with fail
  refine cA.out.mono ?_
  rintro e w1 ⟨t, ht, rfl, hb1⟩
  obtain ⟨X, hX⟩ : ∃ X, str ((el a).take n ++ t) = X := ⟨_, rfl⟩
  have hXs : X.size = n + p := by rw [← hX, size_str, List.length_append, ht.1, List.length_take, el_len, Nat.min_eq_left n1']
  have x1 : ((X.size : Int) == (n : Int) + (p : Int)) = true := by rw [beq_iff_eq]; omega
  have x2 : (X.size == n + p) = true := by rw [beq_iff_eq]; omega
  have x3 : X.size ≤ 255 := by have := nnh.out; omega
  rw [hX]
  have hXh := Lib.hid hX
  have ht := Lib.hid ht
  have cB1 := Lib.hid (cB.out w1)
  clear cA cB hX hXs
  go_wp2_with fail
  refine cB1.out.mono ?_
  rintro e w2 ⟨u, hu, rfl, hb2⟩
  obtain ⟨Y, hY⟩ : ∃ Y, str ((el b).take n ++ u) = Y := ⟨_, rfl⟩
  have hYs : Y.size = n + p := by rw [← hY, size_str, List.length_append, hu.1, List.length_take, el_len, Nat.min_eq_left n2']
  have y1 : ((Y.size : Int) == (n : Int) + (p : Int)) = true := by rw [beq_iff_eq]; omega
  have y2 : (Y.size == n + p) = true := by rw [beq_iff_eq]; omega
  rw [hY]
  have hYh := Lib.hid hY
  have hu := Lib.hid hu
  have hp64 : p ≤ 64 := by omega
  clear cB1 hY hYs hmin hp
  go_wp2
  refine bodyPost_ret (v := .tuple #[.string X, .string Y, .int .i64 (p : Int), .bool true]) (by simp [results, Try.results18, go_sem]) rfl ⟨t, u, ht.out, hu.out, ?_, chain hb1 hb2⟩
  rw [hXh.out, hYh.out]

/-! ### the chapter's examples -/
theorem gen_two : gen 2 = [2#8, 3#8, 1#8] := by decide +kernel
theorem enc_one : IsEnc 2 (el ⟨#[1]⟩) [3#8, 2#8] := ⟨rfl, fun i hi => by
  rcases i with _ | _ | i
  · decide +kernel
  · decide +kernel
  · omega⟩
theorem enc_one_word {t : List R} (h : IsEnc 2 (el ⟨#[1]⟩) t) : str (el ⟨#[1]⟩ ++ t) = ⟨#[1, 3, 2]⟩ := by
  rw [h.only enc_one (by decide)]
  rfl
set_option maxHeartbeats 1000000 in
theorem awake_any (w : World) : Calls Try.prog 17 #[] w fun e w' => e = .returned (.bool true) ∧ Below w.heap.size w w' := by
  have cG := gen_own 2 w (by decide) (by decide)
  rw [show ((2 : Nat) : Int) = 2 from rfl] at cG
  have cG := Lib.hid cG
  have cE := fun W => enc_own ⟨#[1]⟩ 2 W (by decide) (by decide) (by decide)
  rw [show ((2 : Nat) : Int) = 2 from rfl] at cE
  have cE := Lib.hid cE
  have cI := fun W => isc_own ⟨#[1, 3, 2]⟩ 2 W (by decide) (by decide) (by decide) (by decide)
  rw [show ((2 : Nat) : Int) = 2 from rfl, show cwB 2 (el ⟨#[1, 3, 2]⟩) = true by decide +kernel] at cI
  have cI := Lib.hid cI
  go_enter Try.func17, Try.ntmps17
  go_wp2_with fail
  refine cG.out.mono ?_
  rintro e w1 ⟨A, c, rfl, hs1, hb1⟩
  rw [gen_two] at hs1
  have hs1 := Lib.hid hs1
  have cE1 := Lib.hid (cE.out w1)
  clear cG cE
  go_wp2_with fail
  refine cE1.out.mono ?_
  rintro e w2 ⟨t, ht, rfl, hb2⟩
  rw [enc_one_word ht]
  have hconv := conv_sl (P := Try.prog) (dst := 9) Try.underlying22 Try.underlying5 Try.underlying9 (hs1.out.below hb2) rfl
  rw [show (⟨(G6.u8s [2#8, 3#8, 1#8]).toArray⟩ : ByteArray) = ⟨#[2, 3, 1]⟩ from rfl, show [2#8, 3#8, 1#8].length = 2 + 1 from rfl] at hconv
  have hB := chain hb1 hb2
  have cI1 := Lib.hid (cI.out w2)
  clear cE1 cI ht
  go_wp2_with fail
  refine cI1.out.mono ?_
  rintro e w3 ⟨rfl, hb3⟩
  go_wp2
  go_ret
  exact ⟨rfl, chain hB hb3⟩
end Go.Proofs.Ytgjinnllofpoaaa.G7
