/- AssemblerLayout, walked. -/
import Derived.Test.YthmgocjmfhpafaaDoorA18Lib
import Derived.Test.YthmgocjmfhpafaaDoorA18Lay
import Derived.HandedShaped
import Derived.Shelf.Vars
namespace Go.Proofs.YthmgocjmfhpafaaDoor.A18
set_option maxRecDepth 100000
open Go.RowKit Mem
open M17 (Laid Laid.below)
set_option linter.unusedVariables false
set_option linter.unusedSimpArgs false

/-- What the row lists, and that bytealg.MaxLen is a number. -/
def LaidLen (w : World) : Prop := Laid w ∧ ∃ m : Int, w.cell? ⟨0, 0, none⟩ = some (.int .i64 m)
theorem laid_len {W : World} (h : laidMetH Tryd.prog Rows.assemblerLayoutRow.laid W) (hsh : W.ShapedOpen Tryd.prog) : LaidLen W := by
  refine ⟨?_, cell_of_shapedOpen_int (P := Tryd.prog) (g := 0) (t := 3) (zero := #[.int .i64 0]) hsh (of_decide_eq_true (by kernel_rfl)) (by kernel_rfl) rfl (by kernel_rfl) (by kernel_rfl) Tryd.underlying3⟩
  exact laid_of5 h
theorem no_byte {l : List UInt8} {c : UInt8} (h : ¬ 0 ≤ Lib.indexByte l c) : ∀ d ∈ l, d ≠ c := fun d hd e => by
  subst e
  have h1 := Lib.indexByte_ge l d
  obtain ⟨k, hk⟩ := List.mem_iff_getElem?.1 hd
  exact Lib.indexByte_none (l := l) (c := d) (by omega) k hk
theorem size_mk (s : ByteArray) : s.data.toList.length = s.size := by simp
set_option maxHeartbeats 16000000 in
theorem walk_layout (s : ByteArray) (a : Int) (w : World) (hLL : LaidLen w) (hs : s.size ≤ 140737488351232) :
    Calls Tryd.prog 7 #[.string s, .int .i64 a] w fun e w' => e = .returned (.bool true) ∧ Below w.heap.size w w' := by
  obtain ⟨hL, m, hm⟩ := hLL
  have cW := Lib.hid awake_any
  have hL := Lib.hid hL
  have k1 := fun W => Tryd.strings_Contains_one s 35 W
  have k2 := fun W => Tryd.strings_Contains_one s 10 W
  by_cases h1 : 300 < s.size
  · have d1 : decide ((300 : Int) < (s.size : Int)) = true := decide_eq_true (by omega)
    have cW1 := Lib.hid (cW.out w hL.out)
    clear h1 k1 k2 hm
    go_enter Tryd.func7, Tryd.ntmps7
    go_wp2_with fail
    refine (cW1.out).mono ?_
    rintro e w1 ⟨rfl, hb1⟩
    go_wp2
    first | go_ret | skip
    exact ⟨rfl, hb1⟩
  have d1 : decide ((300 : Int) < (s.size : Int)) = false := decide_eq_false (by omega)
  by_cases h2 : 0 ≤ Lib.indexByte s.data.toList 35
  · rw [decide_eq_true h2] at k1
    replace k1 := Lib.hid k1
    have cW1 := Lib.hid (cW.out w hL.out)
    clear h1 h2 k2 hm
    go_enter Tryd.func7, Tryd.ntmps7
    go_wp2_with fail
    refine (k1.out _).mono ?_
    rintro e w1 ⟨rfl, rfl⟩
    go_wp2_with fail
    refine (cW1.out).mono ?_
    rintro e w1 ⟨rfl, hb1⟩
    go_wp2
    first | go_ret | skip
    exact ⟨rfl, hb1⟩
  rw [decide_eq_false h2] at k1
  by_cases h3 : 0 ≤ Lib.indexByte s.data.toList 10
  · rw [decide_eq_true h3] at k2
    replace k1 := Lib.hid k1
    replace k2 := Lib.hid k2
    have cW1 := Lib.hid (cW.out w hL.out)
    clear h1 h2 h3 hm
    go_enter Tryd.func7, Tryd.ntmps7
    go_wp2_with fail
    refine (k1.out _).mono ?_
    rintro e w1 ⟨rfl, rfl⟩
    go_wp2_with fail
    refine (k2.out _).mono ?_
    rintro e w1 ⟨rfl, rfl⟩
    go_wp2_with fail
    refine (cW1.out).mono ?_
    rintro e w1 ⟨rfl, hb1⟩
    go_wp2
    first | go_ret | skip
    exact ⟨rfl, hb1⟩
  rw [decide_eq_false h3] at k2
  have hno : ∀ c ∈ s.data.toList, c ≠ 35 ∧ c ≠ 10 := fun c hc => ⟨no_byte h2 c hc, no_byte h3 c hc⟩
  have hsn := size_mk s
  have cR := Tryd.strings_ReplaceAll s ⟨#[32]⟩ ⟨#[32, 32, 35, 32, 38, 32, 97, 110, 111, 116, 104, 101, 114, 10, 32]⟩ m w (by omega) hm (by decide) (by
    have := Lib.countB_le ⟨#[32]⟩ (by decide) s.size s (Nat.le_refl _)
    rw [show (ByteArray.mk #[32, 32, 35, 32, 38, 32, 97, 110, 111, 116, 104, 101, 114, 10, 32]).size = 15 from rfl]
    omega)
  rw [show (ByteArray.mk #[32]).data.toList = [32] from rfl, show (ByteArray.mk #[32, 32, 35, 32, 38, 32, 97, 110, 111, 116, 104, 101, 114, 10, 32]).data.toList = gap from rfl, replace_wide] at cR
  have hwl := wide_len s.data.toList
  obtain ⟨hly, hwo⟩ := layout_of s.data.toList a hno
  obtain ⟨SR, hSR⟩ : ∃ S : ByteArray, ⟨(wideL s.data.toList).toArray⟩ = S := ⟨_, rfl⟩
  rw [hSR] at cR
  have hSRl : SR.data.toList = wideL s.data.toList := by rw [← hSR]
  have hSRn : SR.size = (wideL s.data.toList).length := by rw [← hSR, str_size]
  have sr6 : (SR.size : Int) ≤ 10000 := by omega
  obtain ⟨SW, hSW⟩ : ∃ S : ByteArray, ⟨#[35, 32, 97, 32, 99, 111, 109, 109, 101, 110, 116, 10]⟩ ++ SR = S := ⟨_, rfl⟩
  have hSWl : SW.data.toList = lead ++ wideL s.data.toList := by
    rw [← hSW, ByteArray.data_append, Array.toList_append, hSRl]
    rfl
  have hSWn : SW.size ≤ 20000 := by
    rw [← size_mk, hSWl, List.length_append]
    have : lead.length = 12 := rfl
    omega
  have c1 := Assemble_use s (by omega) a
  have c2 := Assemble_use SW hSWn a
  rw [hSWl] at c2
  have c3 := fun W => Words_any s (by omega) W
  have c4 := fun W => Words_any SW (by omega) W
  rw [hSWl, ← hwo] at c4
  have hx2 := (asm_len s.data.toList a).2
  have hwn := toks_le s.data.toList
  rw [← wof_len] at hwn
  obtain ⟨L, hLL⟩ : ∃ L, wof (toks s.data.toList) = L := ⟨_, rfl⟩
  rw [hLL] at c3 c4 hwn
  unfold WsP at c3 c4
  obtain ⟨n, hn⟩ : ∃ n, L.length = n := ⟨_, rfl⟩
  rw [hn] at c3 c4 hwn
  obtain ⟨x, hx⟩ : ∃ x, asm s.data.toList a = x := ⟨_, rfl⟩
  obtain ⟨y, hy⟩ : ∃ y, asm (lead ++ wideL s.data.toList) a = y := ⟨_, rfl⟩
  rw [hx] at c1 hly hx2
  rw [hy] at c2 hly
  obtain ⟨xt, xl, xn, xe⟩ := x
  obtain ⟨yt, yl, yn, ye⟩ := y
  obtain ⟨o1, o2, o3, o4⟩ := hly
  dsimp only at c1 c2 o1 o2 o3 o4 hx2
  subst o1 o2 o3
  obtain ⟨SX, hSX⟩ : ∃ S : ByteArray, ⟨xt.toArray⟩ = S := ⟨_, rfl⟩
  rw [hSX] at c1 c2
  obtain ⟨q, hq⟩ : ∃ q, decide (0 < xn) = q := ⟨_, rfl⟩
  rw [hq] at o4
  have p1 : decide ((0 : Int) < (xn : Int)) = q := by rw [← hq]; exact decide_eq_decide.2 (by omega)
  have p2 : decide ((1 : Int) < (yn : Int)) = q := by rw [o4]; exact decide_eq_decide.2 (by omega)
  have p1n : decide (0 < xn) = q := hq
  have p2n : decide (1 < yn) = q := o4.symm
  obtain ⟨ll, hll⟩ : ∃ l, xl.length = l := ⟨_, rfl⟩
  rw [hll] at c1 c2 hx2
  have s2 : (SX.toList == SX.toList) = true := by simp
  have cS := Lib.hid (fun (A1 A2 : Option Addr) (p1 p2 : Nat) (W : World) (h1 : IsPs W A1 ll p1 xl) (h2 : IsPs W A2 ll p2 xl) => show Calls Tryd.prog 14 #[.slice A1 ll p1, .slice A2 ll p2] W fun e w' => e = .returned (.bool true) ∧ ∃ q, w' = W.drewN q by
    have := sameSyms_any h1 h2 (by omega) (by omega)
    rw [decide_eq_true rfl] at this
    exact this)
  have cS2 := Lib.hid (fun (A1 A2 : Option Addr) (p1 p2 : Nat) (W : World) (h1 : IsSt W A1 n p1 L) (h2 : IsSt W A2 n p2 L) => show Calls Tryd.prog 17 #[.slice A1 n p1, .slice A2 n p2] W fun e w' => e = .returned (.bool true) ∧ ∃ q, w' = W.drewN q by
    have := same2_any h1 h2 (by omega) (by omega)
    rw [decide_eq_true rfl] at this
    exact this)
  replace hn := Lib.hid hn
  replace k1 := Lib.hid k1
  replace k2 := Lib.hid k2
  replace cR := Lib.hid cR
  replace c1 := Lib.hid c1
  replace c2 := Lib.hid c2
  replace c3 := Lib.hid c3
  replace c4 := Lib.hid c4
  clear h1 h2 h3 hno hsn hwl hwo hSR hSRl hSRn hSWl hSWn hx2 hwn hLL hx hy o4 hq hll hSX hm
  rcases q with _ | _
  all_goals
    go_enter Tryd.func7, Tryd.ntmps7
    go_wp2_with fail
    refine (k1.out _).mono ?_
    rintro e w0 ⟨rfl, rfl⟩
    go_wp2_with fail
    refine (k2.out _).mono ?_
    rintro e w0 ⟨rfl, rfl⟩
    go_wp2_with fail
    refine (cR.out).mono ?_
    rintro e w1 ⟨rfl, hb1⟩
    have hb1 := Lib.hid hb1
    have c1 := Lib.hid (c1.out w1 (hL.out.below hb1.out))
    go_wp2_with fail
    refine (c1.out).mono ?_
    rintro e w2 ⟨A2, p2, rfl, hI2, hb2⟩
    have hb2 := Lib.hid (chain hb1.out hb2)
    have c2 := Lib.hid (c2.out w2 (hL.out.below hb2.out))
    have hI2 := Lib.hid hI2
    go_wp2_with fail
    refine (c2.out).mono ?_
    rintro e w3 ⟨A3, p3, rfl, hI3, hb3⟩
    have cS := Lib.hid (cS.out A2 A3 p2 p3 w3 (hI2.out.below hb3) hI3)
    have hb3 := Lib.hid (chain hb2.out hb3)
    clear hI2 hI3
    go_wp2_with fail
    refine (cS.out).mono ?_
    rintro e w4 ⟨rfl, q4, rfl⟩
    have hb4 := Lib.hid (chainN hb3.out q4)
    obtain ⟨w4, hw4⟩ : ∃ W, w3.drewN q4 = W := ⟨_, rfl⟩
    rw [hw4] at hb4 ⊢
    clear hw4
    go_wp2_with fail
    refine (c3.out _).mono ?_
    rintro e w5 ⟨v5, B5, rfl, hB5, hown5, hb5⟩
    obtain ⟨A5, p5, rfl, hI5⟩ := IsSt.of_own hown5 hn.out
    have hb5 := Lib.hid (chain hb4.out hb5)
    have hI5 := Lib.hid hI5
    clear hown5 hB5
    go_wp2_with fail
    refine (c4.out _).mono ?_
    rintro e w6 ⟨v6, B6, rfl, hB6, hown6, hb6⟩
    obtain ⟨A6, p6, rfl, hI6⟩ := IsSt.of_own hown6 hn.out
    have cS2 := Lib.hid (cS2.out A5 A6 p5 p6 w6 (hI5.out.below hb6) hI6)
    have hb6 := Lib.hid (chain hb5.out hb6)
    clear hown6 hB6 hI6
    go_wp2_with fail
    refine (cS2.out).mono ?_
    rintro e w7 ⟨rfl, q7, rfl⟩
    have hb7 := Lib.hid (chainN hb6.out q7)
    have cW7 := Lib.hid (cW.out _ (hL.out.below hb7.out))
    go_wp2_with fail
    refine (cW7.out).mono ?_
    rintro e w8 ⟨rfl, hb8⟩
    go_wp2
    first | go_ret | skip
    exact ⟨rfl, chain hb7.out hb8⟩
theorem row_layout (s : ByteArray) (a : Int) (w : World) (hL : LaidLen w) (hs : s.size ≤ 140737488351232) (q1 : (Lit.int .i64 a).wf = true) : Calls Tryd.prog 7 #[.string s, .int .i64 a] w fun e w' => e = .returned (.bool true) ∧ Below w.heap.size w w' := walk_layout s a w hL hs
end Go.Proofs.YthmgocjmfhpafaaDoor.A18
