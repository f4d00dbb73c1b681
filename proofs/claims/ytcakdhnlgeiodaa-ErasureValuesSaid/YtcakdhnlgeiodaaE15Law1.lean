/- The walk of the law ErasureValues. -/
import Derived.Test.YtcakdhnlgeiodaaE15Awake
import Derived.Test.YtcakdhnlgeiodaaE15Help
import Derived.Test.YtcakdhnlgeiodaaE15Ref4
import Derived.Test.YtcakdhnlgeiodaaE15Ref7
namespace Go.Proofs.Ytcakdhnlgeiodaa.E15
set_option maxRecDepth 100000
open Go.RowKit Mem S14
open Go.Proofs.Ytcakdhnlgeiodaa.G5 Go.Proofs.Ytcakdhnlgeiodaa.G7
open Go.Proofs.Ytcakdhnlgeiodaa.G6 (IsSl rs rs_len rs_get rs_set rs_one rs_snoc make_zeros zeros_at own_zeros info_byte u8s conv_sl)
set_option linter.unusedVariables false
set_option linter.unusedSimpArgs false

set_option maxHeartbeats 8000000 in
theorem walk_values (A : Option Addr) (n c : Nat) (ls : List (List UInt8)) (m : Int) (w : World) (h0 : IsStrs w A n c ls) (hm : -9223372036854775808 ≤ m ∧ m ≤ 9223372036854775807) :
    Calls Try.prog 3 #[.slice A n c, .int .i64 m] w fun e w' => e = .returned (.bool true) ∧ Below w.heap.size w w' := by
  obtain ⟨L, _, h⟩ := IsBs.of_strs h0
  have cS := short_any h
  have cE := fun (hs : Short L) => encode_own m hm h (fun b hb => by have := hs.2 b hb; omega)
  have cR := fun (hs : Short L) (W : World) (hb : Below w.heap.size w W) => rencode_any m hm (h.below hb) (by have := hs.1; have := h.len; omega) (fun b hb => by have := hs.2 b hb; omega)
  have cA := fun W => awake_any W
  have hn : Short L → n ≤ 16 := fun hs => by have := hs.1; have := h.len; omega
  replace cS := Lib.hid cS
  replace cE := Lib.hid cE
  replace cR := Lib.hid cR
  replace cA := Lib.hid cA
  replace hn := Lib.hid hn
  clear h h0
  go_enter Try.func3, Try.ntmps3
  go_wp2_with fail
  refine (cS.out).mono ?_
  rintro e w0 ⟨⟨q, rfl, hq⟩, rfl⟩
  rcases q with _ | _
  · replace cA := Lib.hid (cA.out w)
    clear cE cR hn hq cS
    go_wp2_with fail
    refine (cA.out).mono ?_
    rintro e w1 ⟨rfl, hb1⟩
    replace hb1 := Lib.hid hb1
    clear cA
    go_wp2
    go_ret
    exact ⟨rfl, hb1.out⟩
  have hs := hq.1 rfl
  have hn16 := hn.out hs
  replace cE := Lib.hid (cE.out hs)
  replace cR := Lib.hid (cR.out hs)
  replace hs := Lib.hid hs
  clear hq cS hn
  go_wp2_with fail
  refine (cE.out).mono ?_
  rintro e w1 ⟨k1, b1, A1, c1, hq1, rfl, hB1, hb1⟩
  replace cR := Lib.hid (cR.out w1 hb1)
  replace hq1 := Lib.hid hq1
  replace hB1 := Lib.hid hB1
  replace hb1 := Lib.hid hb1
  clear cE
  go_wp2_with fail
  refine (cR.out).mono ?_
  rintro e w2 ⟨k2, b2, A2, c2, hq2, rfl, hB2, hb2⟩
  obtain ⟨rfl, rfl⟩ := hq1.out.only hq2
  have hbl : b1.length ≤ 15 := by
    rcases hq2.err with e | e
    · rw [(hq2.yes e).2]
      have hbad := (hq2.yes e).1
      have : m ≤ 15 := by
        by_cases h : 15 < (L.length : Int) + m
        · exact absurd (Or.inr (Or.inr (Or.inl h))) hbad
        · omega
      simp
      omega
    · rw [(hq2.no e).2]
      exact Nat.zero_le _
  have cSm := same_any (hB1.out.below hb2) hB2 (by omega) (by omega)
  have hb3 := Lib.hid (chain hb1.out hb2)
  have t1 : (k1 == k1) = true := beq_self_eq_true k1
  replace cSm := Lib.hid cSm
  clear hq1 hq2 hB1 hB2 hb1 hb2 cR
  go_wp2_with fail
  refine (cSm.out).mono ?_
  rintro e w3 ⟨⟨q, rfl, hq⟩, nq, rfl⟩
  obtain rfl := hq.2 (by first | trivial | rfl)
  replace cA := Lib.hid (cA.out (w2.drewN nq))
  have hb4 := Lib.hid (chainB hb3.out nq)
  clear hq cSm hb3
  go_wp2_with fail
  refine (cA.out).mono ?_
  rintro e w4 ⟨rfl, hb5⟩
  have hfin := Lib.hid (hb4.out.trans (hb5.mono hb4.out.size))
  clear cA hb4 hb5
  go_wp2
  go_ret
  exact ⟨rfl, hfin.out⟩
end Go.Proofs.Ytcakdhnlgeiodaa.E15
