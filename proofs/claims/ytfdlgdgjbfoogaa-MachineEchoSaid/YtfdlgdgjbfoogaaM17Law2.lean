/- MachineEcho, walked. -/
import Derived.Test.YtfdlgdgjbfoogaaM17Alive
import Derived.Test.YtfdlgdgjbfoogaaM17PEcho
import Derived.Deep.Cut
import Derived.Test.YtfdlgdgjbfoogaaM17Open
namespace Go.Proofs.Ytfdlgdgjbfoogaa.M17
set_option maxRecDepth 100000
open Go.RowKit Mem
set_option linter.unusedVariables false
set_option linter.unusedSimpArgs false

theorem IsInp.at {w : World} {A : Option Addr} {n cap : Nat} {l : List Nat} (h : IsInp w A n cap l) {k : Nat} (hk : k < l.length) : ∃ b o, A = some ⟨b, o, none⟩ ∧ b < w.heap.size ∧ w.cell? ⟨b, o + k, none⟩ = some (.int .u32 (l[k] : Int)) := by
  obtain ⟨b, o, e, hb, hc⟩ := h.rd k (by rw [us_len]; exact hk)
  refine ⟨b, o, e, hb, hc.trans ?_⟩
  have := us_get l k hk
  rwa [List.getElem?_eq_getElem (by rw [us_len]; exact hk)] at this
theorem echo_end (l : List Nat) (out : List UInt8) (k : Nat) (hk : k < l.length) (hx : l[k] = 4294967295) (h : echo l = out ++ echo (l.drop k)) : echo l = out := by
  rw [h, List.drop_eq_getElem_cons hk, hx, echo, if_pos rfl, List.append_nil]
theorem echo_out (l : List Nat) (out : List UInt8) (h : echo l = out ++ echo (l.drop l.length)) : echo l = out := by
  rw [h, List.drop_length, echo, List.append_nil]
theorem echo_more (l : List Nat) (out : List UInt8) (k : Nat) (hk : k < l.length) (hx : l[k] ≠ 4294967295) (h : echo l = out ++ echo (l.drop k)) : echo l = (out ++ [UInt8.ofNat l[k]]) ++ echo (l.drop (k + 1)) := by
  rw [h, List.drop_eq_getElem_cons hk, echo, if_neg hx, List.append_assoc]
  rfl
set_option maxHeartbeats 4000000 in
theorem walk_echo {IA : Option Addr} {m ic : Nat} {inp : List Nat} {w : World} (hI : IsInp w IA m ic inp) :
    Calls Try.prog 5 #[.slice IA m ic] w fun e w' => e = .returned (.bool true) ∧ Below w.heap.size w w' := by
  have info_u8 : (Try.prog.info? 5).map (fun i => (i.zero, i.size, i.bytes)) = some (some (.int .u8 0), 1, 1) := by kernel_rfl
  obtain ⟨i0, hi, hz0, hz1, hz2⟩ := info_parts info_u8
  have cA := Lib.hid (alive_any w)
  have hIh := Lib.hid hI
  clear hI
  go_enter Try.func5, Try.ntmps5
  go_wp2_with fail
  refine (cA.out).mono ?_
  rintro e w1 ⟨rfl, hb1⟩
  have hN := Lib.hid (hIh.out.below hb1)
  have hB := Lib.hid hb1
  have hlen := hN.out.len
  clear hIh hb1 cA
  by_cases hbig : 100 < m
  · have u0 : decide ((100 : Int) < (m : Int)) = true := decide_eq_true (by omega)
    clear hlen hN
    go_wp2
    first | go_ret | skip
    exact ⟨rfl, hB.out⟩
  have u0 : decide ((100 : Int) < (m : Int)) = false := decide_eq_false (by omega)
  have hecho := Lib.hid (echo_ans inp hN.out.fit (by omega) ⟨#[44, 57, 48, 33, 57, 48, 64, 52, 50, 57, 52, 57, 54, 55, 50, 57, 53, 94, 50, 57, 63, 57, 48, 64, 46, 48, 32, 48, 63, 36]⟩ rfl)
  have hm : m ≤ 100 := by omega
  have hlh := Lib.hid hlen
  clear hbig hlen
  go_wp2
  go_loopw [3, 15] (fun v x wr => ∃ (k : Nat) (out : List UInt8), k ≤ m ∧ x = .int .i64 (k : Int) ∧ wr.ownsRow w1.heap.size 5 1 v k (bys out) ∧ Hid (echo inp = out ++ echo (inp.drop k)) ∧ Below w1.heap.size w1 wr) (fun _ x _ => m - (intOf x).toNat)
  case atStart => exact ⟨0, [], Nat.zero_le _, rfl, World.ownsRow_nil _ _ _ _, Lib.hid rfl, Below.refl _ _⟩
  case round =>
    obtain ⟨k, out, hk, rfl, hown, hE, hb⟩ := hrel
    by_cases hlt : k < m
    · have hkl : k < inp.length := by have := hlh.out; omega
      obtain ⟨b, o, rfl, hbl, hcl⟩ := (hN.out.below hb).at hkl
      have hfit := hN.out.fit _ (List.getElem_mem hkl)
      have hend := echo_end inp out k hkl
      have hmore := echo_more inp out k hkl
      obtain ⟨x, hx⟩ : ∃ x, inp[k] = x := ⟨_, rfl⟩
      rw [hx] at hcl hfit hend hmore
      have d2 : decide ((k : Int) < (m : Int)) = true := decide_eq_true (by omega)
      have d2' : decide (k < m) = true := decide_eq_true (by omega)
      have k0 : (0 : Int) ≤ (k : Int) := by omega
      have k1 : (k : Int) < (m : Int) := by omega
      by_cases hq : x = 4294967295
      · have hall := hend hq hE.out
        have q0 : decide ((x : Int) = 4294967295) = true := decide_eq_true (by omega)
        have hallh := Lib.hid hall.symm
        obtain ⟨IA, hIA⟩ : ∃ IA : Option Addr, IA = some ⟨b, o, none⟩ := ⟨_, rfl⟩
        rw [← hIA] at hN ⊢
        replace hall := hallh.out
        have q2 : ((x : Int) == 4294967295) = true := by simpa using q0
        subst hq
        clear hend hmore hE hx hfit
        rw [hIA] at hN ⊢
        obtain ⟨k', hk'⟩ := hecho.out
        have cR : Calls Try.prog 10 #[.slice (some ⟨wr.heap.size, 0, none⟩) 1 1, .int .i64 0, .slice (some ⟨b, o, none⟩) m ic, .int .i64 10000] (wr.alloc (.cells #[.int .i64 0, .string ⟨#[44, 57, 48, 33, 57, 48, 64, 52, 50, 57, 52, 57, 54, 55, 50, 57, 53, 94, 50, 57, 63, 57, 48, 64, 46, 48, 32, 48, 63, 36]⟩] 38)) fun e w' => e = .returned (outV (ans [(0, ⟨#[44, 57, 48, 33, 57, 48, 64, 52, 50, 57, 52, 57, 54, 55, 50, 57, 53, 94, 50, 57, 63, 57, 48, 64, 46, 48, 32, 48, 63, 36]⟩)] 0 inp 10000)) ∧ Below wr.heap.size wr w' :=
          (Run_own (txts_one wr 0 _ (fit_small 0 _ (by decide) (by decide) (by decide))) (hN.out.below (hb.alloc hb.size _)) 0 10000).mono fun e w' ⟨he, hb⟩ => ⟨he, chain (boxed wr _) hb⟩
        rw [hk'] at cR
        unfold outV at cR
        dsimp only at cR
        rw [show ((0 : Nat) : Int) = 0 from rfl] at cR
        obtain ⟨O, hO⟩ : ∃ O : ByteArray, ⟨(echo inp).toArray⟩ = O := ⟨_, rfl⟩
        rw [hO] at cR
        have hbx := hb
        have hownx := Lib.hid hown
        replace cR := Lib.hid cR
        replace hbx := Lib.hid hbx
        clear hown hb hecho hk' 
        go_wp2_with fail
        refine (cR.out).mono ?_
        rintro e w2 ⟨rfl, hb1⟩
        have hb2 := chain (chain hbx.out hb1) (boxed w2 (.cells [.string O, .int .i64 0, .int .i64 (k' : Int)].toArray 29))
        have hcv := conv_own (P := Try.prog) (dst := 9) Try.underlying35 Try.underlying5 Try.underlying9 (own_below hownx.out (hb1.trans ((boxed w2 (.cells [.string O, .int .i64 0, .int .i64 (k' : Int)].toArray 29)).mono hb1.size)))
        have v1 := Blk.new w2 29 [.string O, .int .i64 0, .int .i64 (k' : Int)]
        have x0 := v1.cell 0
        have x1 := v1.cell 1
        obtain ⟨X1, hX1⟩ : ∃ X, w2.heap.size = X := ⟨_, rfl⟩
        obtain ⟨W1, hW1⟩ : ∃ W, w2.alloc (.cells #[.string O, .int .i64 0, .int .i64 (k' : Int)] 29) = W := ⟨_, rfl⟩
        rw [show (w2.alloc (.cells [.string O, .int .i64 0, .int .i64 (k' : Int)].toArray 29)) = W1 from hW1] at x0 x1 hb2 hcv
        rw [hX1] at x0 x1
        simp only [List.getElem?_cons_zero, List.getElem?_cons_succ] at x0 x1
        rw [hall, hO] at hcv
        obtain ⟨A2, c2, rfl, _, _⟩ := own_slice hownx.out
        replace hb2 := Lib.hid hb2
        clear v1 hb1 hbx hownx cR
        go_wp2
        first | go_ret | skip
        exact ⟨rfl, chain hB.out hb2.out⟩
      · have q0 : decide ((x : Int) = 4294967295) = false := decide_eq_false (by omega)
        have q2 : ((x : Int) == 4294967295) = false := by simpa using q0
        have hE2 := Lib.hid (hmore hq hE.out)
        obtain ⟨y, hy⟩ : ∃ y : UInt8, UInt8.ofNat x = y := ⟨_, rfl⟩
        rw [hy] at hE2
        have ey : IntKind.u8.wrap (x : Int) = (y.toNat : Int) := by rw [IntKind.wrap_u8, ← hy]; simp
        have hsn := Lib.hid (bys_snoc out y)
        have hxh := Lib.hid hq
        clear hend hmore hE hx hq hy
        go_wp2_with (at_builtin; refine wpList_append_own _ rfl _ _ 35 rfl w1.heap.size 5 i0 (.int .u8 0) 1 1 Try.underlying35 hi hz0 hz1 hz2 rfl (by decide) _ _ _ rfl (hown.alloc _) ⟨wr.heap.size, 0, none⟩ 1 1 [.int .u8 (y.toNat : Int)] rfl rfl (one_new _ _ _) (one_cell _ _) ?d3 ?d4 ?d5 ?_)
        case d3 => unfold maxLen; omega
        case d4 => omega
        case d5 => have := hb.size; simp; omega
        intro v' w2 hown2 hgr _
        rw [← hsn.out] at hown2
        have hb2 := (hb.alloc hb.size _).grown hgr (by have := hb.size; simp; omega) (fun j hj => (hown.lt j hj).1)
        clear hown hgr hb
        go_wp2
        go_roundw
        case rel => exact ⟨k + 1, _, by omega, by go_num, by simpa using hown2, hE2, hb2⟩
        case measure => simp [intOf]; omega
    · obtain rfl : k = m := by omega
      have d2 : decide ((k : Int) < (k : Int)) = false := decide_eq_false (by omega)
      have d2' : decide (k < k) = false := decide_eq_false (by omega)
      have hall := (echo_out inp out (by rw [hlh.out]; exact hE.out)).symm
      clear hE
      obtain ⟨k', hk'⟩ := hecho.out
      have cR : Calls Try.prog 10 #[.slice (some ⟨wr.heap.size, 0, none⟩) 1 1, .int .i64 0, .slice IA k ic, .int .i64 10000] (wr.alloc (.cells #[.int .i64 0, .string ⟨#[44, 57, 48, 33, 57, 48, 64, 52, 50, 57, 52, 57, 54, 55, 50, 57, 53, 94, 50, 57, 63, 57, 48, 64, 46, 48, 32, 48, 63, 36]⟩] 38)) fun e w' => e = .returned (outV (ans [(0, ⟨#[44, 57, 48, 33, 57, 48, 64, 52, 50, 57, 52, 57, 54, 55, 50, 57, 53, 94, 50, 57, 63, 57, 48, 64, 46, 48, 32, 48, 63, 36]⟩)] 0 inp 10000)) ∧ Below wr.heap.size wr w' :=
        (Run_own (txts_one wr 0 _ (fit_small 0 _ (by decide) (by decide) (by decide))) (hN.out.below (hb.alloc hb.size _)) 0 10000).mono fun e w' ⟨he, hb⟩ => ⟨he, chain (boxed wr _) hb⟩
      rw [hk'] at cR
      unfold outV at cR
      dsimp only at cR
      rw [show ((0 : Nat) : Int) = 0 from rfl] at cR
      obtain ⟨O, hO⟩ : ∃ O : ByteArray, ⟨(echo inp).toArray⟩ = O := ⟨_, rfl⟩
      rw [hO] at cR
      have hbx := hb
      have hownx := Lib.hid hown
      replace cR := Lib.hid cR
      replace hbx := Lib.hid hbx
      clear hown hb hecho hk' 
      go_wp2_with fail
      refine (cR.out).mono ?_
      rintro e w2 ⟨rfl, hb1⟩
      have hb2 := chain (chain hbx.out hb1) (boxed w2 (.cells [.string O, .int .i64 0, .int .i64 (k' : Int)].toArray 29))
      have hcv := conv_own (P := Try.prog) (dst := 9) Try.underlying35 Try.underlying5 Try.underlying9 (own_below hownx.out (hb1.trans ((boxed w2 (.cells [.string O, .int .i64 0, .int .i64 (k' : Int)].toArray 29)).mono hb1.size)))
      have v1 := Blk.new w2 29 [.string O, .int .i64 0, .int .i64 (k' : Int)]
      have x0 := v1.cell 0
      have x1 := v1.cell 1
      obtain ⟨X1, hX1⟩ : ∃ X, w2.heap.size = X := ⟨_, rfl⟩
      obtain ⟨W1, hW1⟩ : ∃ W, w2.alloc (.cells #[.string O, .int .i64 0, .int .i64 (k' : Int)] 29) = W := ⟨_, rfl⟩
      rw [show (w2.alloc (.cells [.string O, .int .i64 0, .int .i64 (k' : Int)].toArray 29)) = W1 from hW1] at x0 x1 hb2 hcv
      rw [hX1] at x0 x1
      simp only [List.getElem?_cons_zero, List.getElem?_cons_succ] at x0 x1
      rw [hall, hO] at hcv
      obtain ⟨A2, c2, rfl, _, _⟩ := own_slice hownx.out
      replace hb2 := Lib.hid hb2
      clear v1 hb1 hbx hownx cR
      go_wp2
      first | go_ret | skip
      exact ⟨rfl, chain hB.out hb2.out⟩
/-- The same at what the reading says. -/
theorem row_echo (A : Option Addr) (n c : Nat) (zs : List Int) (w : World) (h : IsRow .u32 w A n c zs) : Calls Try.prog 5 #[.slice A n c] w fun e w' => e = .returned (.bool true) ∧ Below w.heap.size w w' := by
  obtain ⟨l, hl⟩ := IsInp.of_row h
  exact walk_echo hl
end Go.Proofs.Ytfdlgdgjbfoogaa.M17
