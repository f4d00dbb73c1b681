/- AssemblerConcatenation, walked. -/
import Derived.Test.YthmgocjmfhpafaaDoorA18Lib
namespace Go.Proofs.YthmgocjmfhpafaaDoor.A18
set_option maxRecDepth 100000
open Go.RowKit Mem
open M17 (Laid Laid.below)
set_option linter.unusedVariables false
set_option linter.unusedSimpArgs false

theorem cat_three (a b : ByteArray) : (a ++ ⟨#[10]⟩ ++ b).data.toList = a.data.toList ++ 10 :: b.data.toList := by
  rw [ByteArray.data_append, ByteArray.data_append]
  simp
set_option maxHeartbeats 8000000 in
theorem walk_concat (a b : ByteArray) (o : Int) (w : World) (hL : Laid w) (ha : a.size ≤ 140737488351232) (hb : b.size ≤ 140737488351232) :
    Calls Tryd.prog 9 #[.string a, .string b, .int .i64 o] w fun e w' => e = .returned (.bool true) ∧ Below w.heap.size w w' := by
  have cW := Lib.hid awake_any
  have hL := Lib.hid hL
  by_cases h6 : 600 < a.size + b.size
  · have d6 : decide ((600 : Int) < (a.size : Int) + (b.size : Int)) = true := decide_eq_true (by omega)
    have cW1 := Lib.hid (cW.out w hL.out)
    clear h6 cW
    go_enter Tryd.func9, Tryd.ntmps9
    go_wp2_with fail
    refine (cW1.out).mono ?_
    rintro e w1 ⟨rfl, hb1⟩
    go_wp2
    first | go_ret | skip
    exact ⟨rfl, hb1⟩
  have d6 : decide ((600 : Int) < (a.size : Int) + (b.size : Int)) = false := decide_eq_false (by omega)
  have a6 : (a.size : Int) ≤ 600 := by omega
  have b6 : (b.size : Int) ≤ 600 := by omega
  obtain ⟨J, hJ⟩ : ∃ J, a ++ ⟨#[10]⟩ ++ b = J := ⟨_, rfl⟩
  have hJl : J.data.toList = a.data.toList ++ 10 :: b.data.toList := by rw [← hJ, cat_three]
  have hJz : J.size ≤ 20000 := by
    have : J.data.toList.length = J.size := by simp
    rw [← this, hJl, List.length_append, List.length_cons]
    have h1 : a.data.toList.length = a.size := by simp
    have h2 : b.data.toList.length = b.size := by simp
    omega
  have c1 := Assemble_use a (by omega) o
  have c2 := Assemble_use J hJz o
  rw [hJl] at c2
  have hcc := concat_of (a := a.data.toList) (b := b.data.toList) (o := o)
  have hx2 := asm_len (a.data.toList ++ 10 :: b.data.toList) o
  have hJ2 : (a.data.toList ++ 10 :: b.data.toList).length ≤ 20000 := by
    rw [← hJl]
    have : J.data.toList.length = J.size := by simp
    omega
  obtain ⟨x, hx⟩ : ∃ x, asm a.data.toList o = x := ⟨_, rfl⟩
  obtain ⟨y, hy⟩ : ∃ y, asm (a.data.toList ++ 10 :: b.data.toList) o = y := ⟨_, rfl⟩
  rw [hx] at c1 hcc
  rw [hy] at c2 hcc hx2
  have hyl : y.labs.length ≤ 20000 := by omega
  clear hx hy hJl hJz hx2 hJ2
  obtain ⟨xt, xl, xn, xe⟩ := x
  obtain ⟨yt, yl, yn, ye⟩ := y
  dsimp only at c1 c2 hcc hyl
  obtain ⟨SX, hSX⟩ : ∃ S : ByteArray, ⟨xt.toArray⟩ = S := ⟨_, rfl⟩
  obtain ⟨SY, hSY⟩ : ∃ S : ByteArray, ⟨yt.toArray⟩ = S := ⟨_, rfl⟩
  rw [hSX] at c1
  rw [hSY] at c2
  have c1 := Lib.hid (c1 w hL.out)
  have c2 := Lib.hid c2
  by_cases e1 : xe = 0
  · subst e1
    by_cases e2 : ye = 0
    · subst e2
      obtain ⟨⟨m1, hm1⟩, m2, hm2⟩ := hcc rfl rfl
      obtain ⟨n1, hn1⟩ : ∃ n, xl.length = n := ⟨_, rfl⟩
      obtain ⟨n2, hn2⟩ : ∃ n, yl.length = n := ⟨_, rfl⟩
      have hn12 : n1 ≤ n2 := by rw [← hn1, ← hn2, hm1]; simp
      have htk : yl.take n1 = xl := by rw [hm1, ← hn1]; simp
      have cP := fun W => Tryd.strings_HasPrefix SY SX W
      have hpre : Lib.hasPrefix SY.data.toList SX.data.toList = true := by
        rw [← hSX, ← hSY]
        show Lib.hasPrefix yt xt = true
        unfold Lib.hasPrefix
        rw [List.isPrefixOf_iff_prefix, hm2]
        exact List.prefix_append _ _
      rw [hpre] at cP
      have cP := Lib.hid cP
      rw [hn1] at c1
      rw [hn2] at c2 hyl
      have d12 : decide ((n2 : Int) < (n1 : Int)) = false := decide_eq_false (by omega)
      have d12n : decide (n2 < n1) = false := decide_eq_false (by omega)
      have i1 : (0 : Int) ≤ (n1 : Int) := by omega
      have i2 : (n1 : Int) ≤ (n2 : Int) := by omega
      have cS := Lib.hid (fun (A1 A2 : Option Addr) (p1 p2 : Nat) (W : World) (h1 : IsPs W A1 n1 p1 xl) (h2 : IsPs W A2 n2 p2 yl) => show Calls Tryd.prog 14 #[.slice A2 n1 p2, .slice A1 n1 p1] W fun e w' => e = .returned (.bool true) ∧ ∃ q, w' = W.drewN q by
        have := sameSyms_any (h2.take hn12) h1 (by omega) (by omega)
        rw [htk, decide_eq_true rfl] at this
        exact this)
      clear hcc hm1 hm2 hpre htk hn1 hn2 hSX hSY h6
      go_enter Tryd.func9, Tryd.ntmps9
      go_wp2_with fail
      refine (c1.out).mono ?_
      rintro e w1 ⟨A1, p1, rfl, hI1, hb1⟩
      have c2 := Lib.hid (c2.out w1 (hL.out.below hb1))
      have hI1 := Lib.hid hI1
      have hb1 := Lib.hid hb1
      go_wp2_with fail
      refine (c2.out).mono ?_
      rintro e w2 ⟨A2, p2, rfl, hI2, hb2⟩
      have hn2p := hI2.le
      have hp2 : (p2 : Int) ≤ 9223372036854775807 := by have := hI2.capm; unfold maxLen at this; omega
      have cS2 := Lib.hid (cS.out A1 A2 p1 p2 w2 (hI1.out.below hb2) hI2)
      have hb12 := chain hb1.out hb2
      have hnil := hI2.nil
      have hb12 := Lib.hid hb12
      clear hI1 hI2 hb2 hb1 c2 cS c1
      go_wp2_with fail
      refine (cS2.out).mono ?_
      rintro e w3 ⟨rfl, q, rfl⟩
      have hb3 := Lib.hid (chainN hb12.out q)
      go_wp2_with fail
      refine (cP.out _).mono ?_
      rintro e w4 ⟨rfl, rfl⟩
      have cW4 := Lib.hid (cW.out _ (hL.out.below hb3.out))
      go_wp2_with fail
      refine (cW4.out).mono ?_
      rintro e w5 ⟨rfl, hb5⟩
      go_wp2
      first | go_ret | skip
      exact ⟨rfl, hb3.out.trans (hb5.mono hb3.out.size)⟩
    · have t2 : ((ye : Int) != 0) = true := bne_iff_ne.2 (by omega)
      clear hcc h6 hSX hSY
      go_enter Tryd.func9, Tryd.ntmps9
      go_wp2_with fail
      refine (c1.out).mono ?_
      rintro e w1 ⟨A1, p1, rfl, hI1, hb1⟩
      have c2 := Lib.hid (c2.out w1 (hL.out.below hb1))
      have hb1 := Lib.hid hb1
      clear hI1
      go_wp2_with fail
      refine (c2.out).mono ?_
      rintro e w2 ⟨A2, p2, rfl, hI2, hb2⟩
      have hb12 := Lib.hid (chain hb1.out hb2)
      have cW2 := Lib.hid (cW.out w2 (hL.out.below hb12.out))
      clear hI2 hb2
      go_wp2_with fail
      refine (cW2.out).mono ?_
      rintro e w5 ⟨rfl, hb5⟩
      go_wp2
      first | go_ret | skip
      exact ⟨rfl, chain hb12.out hb5⟩
  · have t1 : ((xe : Int) != 0) = true := bne_iff_ne.2 (by omega)
    clear hcc h6 hSX hSY
    go_enter Tryd.func9, Tryd.ntmps9
    go_wp2_with fail
    refine (c1.out).mono ?_
    rintro e w1 ⟨A1, p1, rfl, hI1, hb1⟩
    have c2 := Lib.hid (c2.out w1 (hL.out.below hb1))
    have hb1 := Lib.hid hb1
    clear hI1
    go_wp2_with fail
    refine (c2.out).mono ?_
    rintro e w2 ⟨A2, p2, rfl, hI2, hb2⟩
    have hb12 := Lib.hid (chain hb1.out hb2)
    have cW2 := Lib.hid (cW.out w2 (hL.out.below hb12.out))
    clear hI2 hb2
    go_wp2_with fail
    refine (cW2.out).mono ?_
    rintro e w5 ⟨rfl, hb5⟩
    go_wp2
    first | go_ret | skip
    exact ⟨rfl, chain hb12.out hb5⟩
theorem row_concat (a b : ByteArray) (o : Int) (w : World) (hL : Laid w) (ha : a.size ≤ 140737488351232) (hb : b.size ≤ 140737488351232) (q : (Lit.int .i64 o).wf = true) : Calls Tryd.prog 9 #[.string a, .string b, .int .i64 o] w fun e w' => e = .returned (.bool true) ∧ Below w.heap.size w w' := walk_concat a b o w hL ha hb
end Go.Proofs.YthmgocjmfhpafaaDoor.A18
