/- The walk of the law CellsErasure: unreadable cells are reported by their bytes' indices, and change no other byte. -/
import Derived.Test.YtkjbbhlekadomaaC1Erase
import Derived.DataShut
namespace Go.Proofs.Ytkjbbhlekadomaa.C1
open Go.RowKit Mem
set_option linter.unusedVariables false

theorem info_bool : (Try.prog.info? 4).map (fun i => (i.zero, i.size, i.bytes)) = some (some (.bool false), 1, 1) := by kernel_rfl

set_option maxHeartbeats 2000000 in
theorem walk_erasure (b : ByteArray) (A : Option Addr) (len cap : Nat) (z : List Int) (w : World) (hb : b.size ≤ 140737488351232) (hz : IsRow .u16 w A len cap z) :
    Calls Try.prog 7 #[.string b, .slice A len cap] w fun e w' => e = .returned (.bool true) ∧ Below w.heap.size w w' := by
  by_cases hs : b.size ≤ 500
  · by_cases h0 : b.size = 0
    · have hne : ((b.size : Int) == 0) = true := beq_iff_eq.2 (by omega)
      have hd5 : decide ((500 : Int) < (b.size : Int)) = false := by simp; omega
      clear h0
      go_enter Try.func7, Try.ntmps7
      go_wp2_with fail
      refine (alive_any _).mono ?_
      rintro e w1 ⟨rfl, hb1⟩
      go_wp2
      go_ret
      exact ⟨rfl, hb1⟩
    · have hne : ((b.size : Int) == 0) = false := beq_eq_false_iff_ne.2 (by omega)
      have hd5 : decide ((500 : Int) < (b.size : Int)) = false := by simp; omega
      by_cases hl : len ≤ 100
      · have hc0 : ∀ k, k < len → ∃ blk off : Nat, A = some ⟨blk, off, none⟩ ∧ blk < w.heap.size ∧ ∃ v : Nat, v ≤ 65535 ∧ w.cell? ⟨blk, off + k, none⟩ = some (.int .u16 (v : Int)) := by
          intro k hk
          rcases hz with ⟨rfl, rfl, rfl, rfl⟩ | ⟨x, rfl, h1, h2, h3, h4, h5⟩
          · omega
          · obtain ⟨blk, off, spot⟩ := x
            have hc := h4 k (by omega)
            have hspot : spot = none := by simpa [Addr.add] using World.cell?_spot (h4 0 (by omega))
            subst hspot
            have hlt := World.block_lt_of_cell? _ _ hc
            have hwf := h5 (z.getD k 0) (by rw [List.getD_eq_getElem?_getD, List.getElem?_eq_getElem (by omega)]; exact List.getElem_mem _)
            have hb0 : 0 ≤ z.getD k 0 ∧ z.getD k 0 ≤ 65535 := (Lit.wf_int_iff .u16 _).1 hwf
            refine ⟨blk, off, rfl, ?_, (z.getD k 0).toNat, by omega, ?_⟩
            · by_cases e : k = 0
              · subst e; exact hlt
              · simpa [Addr.add, e] using hlt
            · rw [show (((z.getD k 0).toNat : Nat) : Int) = z.getD k 0 by omega, ← hc]
              congr 1
              by_cases e : k = 0
              · subst e; rfl
              · simp [Addr.add, e]
        have hc0h := Lib.hid hc0
        clear hc0 hz
        have hd1 : decide ((100 : Int) < (len : Int)) = false := by simp; omega
        obtain ⟨F, hF⟩ : ∃ F, fromB b.data.toList = F := ⟨_, rfl⟩
        have hFl := Lib.hid (show F.length = 8 * b.size by rw [← hF, fromB_len]; rfl)
        have hFp : 0 < F.length := by have := hFl.out; omega
        have hF4 : F.length ≤ 4000 := by have := hFl.out; omega
        have hFrom := Lib.hid (fun W => fromBytes_any b W (by omega))
        rw [hF] at hFrom
        have hFh := Lib.hid hF
        clear hF
        obtain ⟨i0, hi, hz0, hz1, hz2⟩ := info_parts info_bool
        go_enter Try.func7, Try.ntmps7
        go_wp2_with fail
        refine (alive_any _).mono ?_
        rintro e w1 ⟨rfl, hb1⟩
        go_wp2_with fail
        refine (hFrom.out _).mono ?_
        rintro e w2 ⟨rfl, hb2⟩
        obtain ⟨C, cp, hcap, hrun, hat⟩ := bytes_of (P := Try.prog) w2 ⟨F.toArray⟩ Try.underlying9 Try.underlying36 Try.underlying5
        rw [str_size] at hcap hrun
        rw [str_list] at hat
        obtain ⟨w3, hw3⟩ : ∃ w3, w2.alloc (.cells C 5 (cp, cp + 1)) = w3 := ⟨_, rfl⟩
        have hb3 : Below w.heap.size w w3 := by rw [← hw3]; exact (chain hb1 hb2).alloc (chain hb1 hb2).size _
        have hsz3 : w2.heap.size < w3.heap.size := by rw [← hw3]; simp
        rw [hw3] at hat
        obtain ⟨G, hG⟩ : ∃ G, w2.heap.size = G := ⟨_, rfl⟩
        have hGB : w.heap.size ≤ G := by rw [← hG]; exact (chain hb1 hb2).size
        rw [hG] at hat hsz3
        obtain ⟨H, hH⟩ : ∃ H, w3.heap.size = H := ⟨_, rfl⟩
        have hat := Lib.hid hat
        go_wp2_with (at_make; refine wpList_make_full _ rfl _ _ 37 rfl w.heap.size 4 i0 (.bool false) 1 Try.underlying37 hi hz0 hz1 _ _ _ _ b.size rfl rfl rfl rfl ?b2 ?b3 ?b4 ?_)
        case b2 => rw [hz2]; omega
        case b3 => unfold maxLen; omega
        case b4 => simpa using hb3.size
        intro w4 hown4 hgrow4
        clear hrun hw3 hb1 hb2
        have hb4 : Below w.heap.size w w4 := hb3.drew.grown hgrow4 hb3.size (fun j hj => by cases hj)
        have hG4 : G < w4.heap.size := Nat.lt_of_lt_of_le hsz3 hgrow4.size
        have hH4 : H < w4.heap.size := (hown4.lt _ rfl).2
        have hHG : H ≠ G := by rw [← hH]; omega
        have hHB : w.heap.size ≤ H := by rw [← hH]; exact hb3.size
        have hatc := hat.out
        have hat4 : BAt w4 G F := fun j hj => by
          have := hatc j hj
          have hblk : w4.heap[G]? = w3.heap[G]? := hgrow4.block G hsz3 (by simp)
          exact ⟨(World.cell?_of_block (w := w3) (a := ⟨G, j, none⟩) hblk).trans this.1, (World.frozen?_of_block (w := w3) (a := ⟨G, j, none⟩) hblk).trans this.2⟩
        have hvt4 : VAt w4 H ((List.replicate b.size false).map Value.bool) := by
          have := VAt.of_own hown4
          rw [toList_madeCells_one] at this
          simpa using this
        have hE4 := Lib.hid (Er.start F b.size hFl.out)
        have hat4 := Lib.hid hat4
        have hvt4 := Lib.hid hvt4
        clear hown4 hgrow4 hatc hat hb3 hsz3
        go_wp2_with fail
        clear hH hG
        go_loopw [38] (fun i wr => ∃ (k : Nat) (cs : List UInt8) (hs : List Bool), k ≤ len ∧ i = .int .i64 k ∧ Hid (Er F cs hs b.size) ∧ Hid (BAt wr G cs) ∧ Hid (VAt wr H (hs.map Value.bool)) ∧ G < wr.heap.size ∧ H < wr.heap.size ∧ Below w.heap.size w wr) (fun i _ => len - (intOf i).toNat)
        case atStart => exact ⟨0, F, _, Nat.zero_le _, rfl, hE4, hat4, hvt4, hG4, hH4, hb4⟩
        case round =>
          obtain ⟨k, cs, hs, hk, rfl, hE, hA, hV, hGs, hHs, hbr⟩ := hrel
          clear hE4 hat4 hvt4 hG4 hH4 hb4
          by_cases hlt : k < len
          · obtain ⟨blk, off, rfl, hblk, v, hv, hcell⟩ := hc0h.out k hlt
            have hcell : wr.cell? ⟨blk, off + k, none⟩ = some (.int .u16 (v : Int)) := (hbr.cell (by exact hblk)).trans hcell
            obtain ⟨r, hr⟩ : ∃ r, v % F.length = r := ⟨_, rfl⟩
            have hrl : r < F.length := by rw [← hr]; exact Nat.mod_lt _ hFp
            have hri : (v : Int) % (F.length : Int) = (r : Int) := by rw [← hr]; simp
            have hvi : (v : Int) ≤ 65535 := by omega
            have hr8 : r / 8 < b.size := by have := hFl.out; omega
            have hr8i : (r : Int) / 8 < (b.size : Int) := by omega
            have hrli : (r : Int) < (F.length : Int) := by omega
            have hrc : r < cs.length := by rw [hE.out.len]; exact hrl
            have hrh : r / 8 < (hs.map Value.bool).length := by rw [List.length_map, hE.out.hlen]; exact hr8
            have hcG := (hA.out r hrc).1
            have hfG := (hA.out r hrc).2
            have hV1 := hV.out.far (g' := G) (k := r) (fun e => hHG e.symm) (.int .u8 63)
            have hcH := (hV1 (r / 8) hrh).1
            have hfH := (hV1 (r / 8) hrh).2
            have hE' := Lib.hid (hE.out.step hrl)
            have hA' := Lib.hid ((hA.out.set hrc 63).far hHG (k := r / 8) (.bool true))
            have hV' := hV1.set hrh (.bool true)
            rw [← List.map_set] at hV'
            have hV' := Lib.hid hV'
            have hb' := Lib.hid ((hbr.setCell (p := ⟨G, r, none⟩) hGB (.int .u8 63)).setCell (p := ⟨H, r / 8, none⟩) hHB (.bool true))
            obtain ⟨cg, hcg⟩ : ∃ cg : Nat, (cs[r]).toNat = cg := ⟨_, rfl⟩
            rw [hcg] at hcG
            rw [List.getElem_map] at hcH
            obtain ⟨ch, hch⟩ : ∃ ch : Bool, hs[r / 8]'(by simpa using hrh) = ch := ⟨_, rfl⟩
            rw [hch] at hcH
            clear hV1 hr hcg hch hrc hrh
            go_wp2
            go_roundw
            case rel => exact ⟨k + 1, _, _, by omega, by go_num, hE', hA', hV', by simpa using hGs, by simpa using hHs, hb'.out⟩
            case measure => simp [intOf]; omega
          · have hcsl : cs.length = F.length := hE.out.len
            have hconv := hA.out.conv (P := Try.prog) (cap := cp) (dst := 9) hcsl Try.underlying36 Try.underlying5 Try.underlying9
            have hchk : chk cs = 0 := hE.out.chk (by rw [← hFh.out]; exact chk_fromB _)
            have hl8 : cs.length = 8 * b.size := by rw [hcsl]; exact hFl.out
            have htE : tbE cs = 0 := tbE_ok hchk (by omega)
            have htS : tbS cs = toB cs b.size := by rw [tbS_ok htE, hl8, show 8 * b.size / 8 = b.size by omega]
            have htL : tbL cs = bad cs b.size := by rw [tbL_ok htE, hl8, show 8 * b.size / 8 = b.size by omega]
            have hTo := Lib.hid (fun W => toBytes_any ⟨cs.toArray⟩ W (by rw [str_size]; omega))
            have hcsh := Lib.hid hcsl
            have h8h := Lib.hid hl8
            have hth := Lib.hid (And.intro htE (And.intro htS htL))
            obtain rfl : k = len := by omega
            clear hcsl hchk hl8 htE htS htL
            go_wp2_with fail
            clear hconv
            refine (hTo.out _).mono ?_
            rintro e wq ⟨v, he, hv, hbq⟩
            obtain ⟨htE, htS, htL⟩ := hth.out
            rw [htL] at hv
            rw [htE, htS] at he
            obtain ⟨X, hX⟩ : ∃ X : ByteArray, (⟨(toB cs b.size).toArray⟩ : ByteArray) = X := ⟨_, rfl⟩
            obtain ⟨ls, hls⟩ : ∃ ls, bad cs b.size = ls := ⟨_, rfl⟩
            have hXs : X.size = b.size := by rw [← hX, str_size, toB_len]
            rw [hX] at he
            rw [hls] at hv
            obtain ⟨A', ca, rfl, hca, hcm, hcells⟩ := own_form hv
            subst he
            have hlsn : ls.length ≤ b.size := by rw [← hls]; exact bad_le _ _
            have hVq := Lib.hid (hV.out.below hbq hHs)
            have hAq := Lib.hid (hA.out.below hbq hGs)
            have hbrq := chain hbr hbq
            have hXn : ((X.size : Int) != (b.size : Int)) = false := by simp [hXs]
            have hXh := Lib.hid hX
            have hXsh := Lib.hid hXs
            have hlh := Lib.hid hls
            have hch := Lib.hid hcells
            unfold maxLen at hcm
            clear htE htS htL hX hXs hls hcells hv hbr hbq hTo hth
            go_wp2_with fail
            go_loopw [13, 73] (fun m i wr => ∃ j q : Nat, j ≤ b.size ∧ i = .int .i64 j ∧ m = .int .i64 q ∧ q ≤ j ∧ Hid (q = (bad cs j).length) ∧ ∃ d, wr = wq.drewN d) (fun _ i _ => b.size - (intOf i).toNat)
            case atStart => exact ⟨0, 0, Nat.zero_le _, rfl, rfl, Nat.le_refl _, Lib.hid rfl, 0, rfl⟩
            case round =>
              obtain ⟨j, q, hj, rfl, rfl, hqj, hq, d, rfl⟩ := hrel
              by_cases hjl : j < b.size
              · have hjh : j < hs.length := by rw [hE.out.hlen]; exact hjl
                have hcH := (hVq.out j (by simpa using hjh)).1
                rw [List.getElem_map] at hcH
                have hfl : (b.size : Int) ≤ 500 := by omega
                rcases hbit : hs[j] with _ | _
                · rw [hbit] at hcH
                  have hget : hs[j]? = some false := by rw [List.getElem?_eq_getElem hjh, hbit]
                  have hgrp := hE.out.grp_no hjl hget
                  rw [← hFh.out, grp_fromB _ _ (by simpa using hjl)] at hgrp
                  have hun : ¬ 0 < unr (grp cs j) := by rw [hgrp, unr_bits8]; decide
                  have hq' := Lib.hid (show q = (bad cs (j + 1)).length by rw [bad_no cs j hun]; exact hq.out)
                  have hjX : j < X.size := by rw [hXsh.out]; exact hjl
                  have hxj : X[j] = b[j] := by
                    have h1 := toB_get cs b.size j hjl
                    rw [hgrp, num_bits8] at h1
                    have h2 : X.data.toList = toB cs b.size := by rw [← hXh.out]
                    rw [← h2, List.getElem?_eq_getElem (by simpa using hjX)] at h1
                    injection h1 with h1
                    rw [getl X j hjX] at h1
                    rw [h1, getl b j hjl]
                    simp
                  have hxn : (((X[j]).toNat : Int) != ((b[j]).toNat : Int)) = false := by rw [hxj]; simp
                  have hI0 : (0 : Int) ≤ (j : Int) := by omega
                  have hI1 : (j : Int) < (X.size : Int) := by omega
                  have hI2 : (j : Int) < (b.size : Int) := by omega
                  clear hxj hun hgrp hget hbit
                  go_wp2
                  go_quiet (fail)
                  go_wp2
                  go_roundw
                  case rel => exact ⟨j + 1, q, by omega, by go_num, rfl, by omega, hq', _, rfl⟩
                  case measure => simp [intOf]; omega
                · rw [hbit] at hcH
                  have hget : hs[j]? = some true := by rw [List.getElem?_eq_getElem hjh, hbit]
                  have hun := hE.out.unr_yes hjl hget
                  obtain ⟨hb1, hb2⟩ := bad_at cs j b.size hjl hun
                  rw [hlh.out, ← hq.out] at hb1 hb2
                  obtain ⟨g, rfl, hgB, hgs, hcg⟩ := hch.out (by omega)
                  have hcq := hcg q hb1
                  rw [nats_get ls q hb1] at hcq
                  rw [List.getElem?_eq_getElem hb1] at hb2
                  injection hb2 with hb2
                  rw [hb2] at hcq
                  have hq' := Lib.hid (show q + 1 = (bad cs (j + 1)).length by rw [bad_yes_len cs j hun, ← hq.out])
                  have hqi : (q : Int) < (ls.length : Int) := by omega
                  have hqd : decide ((ls.length : Int) ≤ (q : Int)) = false := by simp; omega
                  clear hb2 hcg hch hget hbit
                  go_wp2
                  go_roundw
                  case rel => exact ⟨j + 1, q + 1, by omega, by go_num, by go_num, by omega, hq', _, rfl⟩
                  case measure => simp [intOf]; omega
              · obtain rfl : j = b.size := by omega
                obtain rfl : q = ls.length := by rw [hq.out, hlh.out]
                have hun := Lib.hid (fun W => (unreadable_any ⟨cs.toArray⟩ W (by rw [str_size, h8h.out]; omega)).mono fun _ _ h => (⟨h.1, h.2.symm⟩ : _ ∧ _ = W))
                have hco := Lib.hid (fun W => Try.strings_Count_one ⟨cs.toArray⟩ 63 W)
                rw [str_list] at hun hco
                rw [count_unr] at hco
                go_wp2
                obtain ⟨W0, hW0⟩ : ∃ W0, wq.drewN d = W0 := ⟨_, rfl⟩
                have hA0 : BAt W0 G cs := by rw [← hW0]; exact hAq.out.drewN d
                have hb0 : Below w.heap.size w W0 := by rw [← hW0]; exact chainN hbrq d
                rw [hW0]
                have hconv : ∀ n, (convert 36 9 (.slice (some ⟨G, 0, none⟩) F.length cp)).run Try.prog (W0.drewN n) = .ok (.string ⟨cs.toArray⟩) (W0.drewN n) := fun n =>
                  (hA0.drewN n).conv (P := Try.prog) (cap := cp) (dst := 9) hcsh.out Try.underlying36 Try.underlying5 Try.underlying9
                have hA0 := Lib.hid hA0
                clear hW0
                go_quiet ((first | (go_at_call 14; exact Calls.quiet_of_same (hun.out _)) | (go_at_call 25; exact Calls.quiet_of_same (hco.out _))))
                go_wp2
                go_ret
                exact ⟨rfl, chainN hb0 _⟩
      · have hd1 : decide ((100 : Int) < (len : Int)) = true := by simp; omega
        go_enter Try.func7, Try.ntmps7
        go_wp2_with fail
        refine (alive_any _).mono ?_
        rintro e w1 ⟨rfl, hb1⟩
        go_wp2
        go_ret
        exact ⟨rfl, hb1⟩
  · have hgt : (500 : Int) < (b.size : Int) := by omega
    go_enter Try.func7, Try.ntmps7
    go_wp2_with fail
    refine (alive_any _).mono ?_
    rintro e w1 ⟨rfl, hb1⟩
    go_wp2
    go_ret
    exact ⟨rfl, hb1⟩
end Go.Proofs.Ytkjbbhlekadomaa.C1
