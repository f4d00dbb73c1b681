/- The contract of the reference's Invert: a copy of the bytes, exchanged in place. -/
import Derived.Test.YtkjbbhlekadomaaC1Scan
import Derived.Test.YtkjbbhlekadomaaMem
namespace Go.Proofs.Ytkjbbhlekadomaa.C1
open Go.RowKit Mem

set_option maxHeartbeats 400000 in
theorem rinvert_any (s : ByteArray) (w : World) (hs : s.size ≤ 1000000) :
    Calls Try.prog 17 #[.string s] w fun e w' => e = .returned (.string ⟨(inv s.data.toList).toArray⟩) ∧ Below w.heap.size w w' := by
  have hconv := run_bytes_of_string (P := Try.prog) w 9 36 5 s Try.underlying9 Try.underlying36 Try.underlying5
  have hcap := grownCap_ge w s.size 0 5
  obtain ⟨C, hC⟩ : ∃ C, C = bytesRow s (grownCap w s.size 0 5) := ⟨_, rfl⟩
  obtain ⟨cap, hcp⟩ : ∃ cap, cap = grownCap w s.size 0 5 := ⟨_, rfl⟩
  have hCs : C.size = cap := by rw [hC, hcp]; simp [bytesRow]; omega
  rw [← hC, ← hcp, hCs] at hconv
  rw [← hcp] at hcap hC
  have hcells : ∀ j (hj : j < s.size), (w.drew.alloc (.cells C 5 (cap, cap + 1))).cell? ⟨w.heap.size, j, none⟩ = some (.int .u8 (s[j].toNat : Int)) := by
    intro j hj
    have := World.cell?_alloc_mark w.drew C 5 (cap, cap + 1) j
    rw [hC, bytesRow_at s cap j hj] at this
    rw [hC]
    exact this
  have hfr : ∀ j, j < s.size → (w.drew.alloc (.cells C 5 (cap, cap + 1))).frozen? ⟨w.heap.size, j, none⟩ = false := by
    intro j hj
    have := World.frozen?_alloc_mark w.drew C 5 cap (cap + 1) j
    rw [show (decide (cap ≤ j) && decide (j < cap + 1)) = false by simp; omega] at this
    exact this
  have hb0 : Below w.heap.size w (w.drew.alloc (.cells C 5 (cap, cap + 1))) := (Below.refl _ _).drew.alloc (Nat.le_refl _) _
  have hc := Lib.hid hcells
  have hf := Lib.hid hfr
  have hhc := Lib.hid hC
  have hcp' := Lib.hid hcp
  clear hcells hfr hC hcp hCs
  go_enter Try.func17, Try.ntmps17
  go_wp2
  go_loopw [9] (fun i wr => ∃ k : Nat, k ≤ s.size ∧ i = .int .i64 k ∧ Hid (∀ j (hj : j < s.size), wr.cell? ⟨w.heap.size, j, none⟩ = some (.int .u8 ((if j < k then invC s[j] else s[j]).toNat : Int))) ∧
      Hid (∀ j, j < s.size → wr.frozen? ⟨w.heap.size, j, none⟩ = false) ∧ Below w.heap.size w wr) (fun i _ => s.size - (intOf i).toNat)
  case atStart => exact ⟨0, Nat.zero_le _, rfl, Lib.hid (fun j hj => by rw [if_neg (Nat.not_lt_zero _)]; exact hc.out j hj), Lib.hid (fun j hj => hf.out j hj), hb0⟩
  case round =>
    obtain ⟨k, hk, rfl, hC, hF, hb⟩ := hrel
    clear hc hf hb0 hconv hhc hcp'
    by_cases hlt : k < s.size
    · have hck := hC.out k hlt
      rw [if_neg (Nat.lt_irrefl _)] at hck
      have hfk := hF.out k hlt
      have hstep : ∀ u : UInt8, u = invC s[k] → ∀ wx : World, (∀ j (hj : j < s.size), wx.cell? ⟨w.heap.size, j, none⟩ = some (.int .u8 ((if j < k then invC s[j] else if j = k then u else s[j]).toNat : Int))) →
          Hid (∀ j (hj : j < s.size), wx.cell? ⟨w.heap.size, j, none⟩ = some (.int .u8 ((if j < k + 1 then invC s[j] else s[j]).toNat : Int))) := by
        intro u hu wx hx
        refine Lib.hid fun j hj => ?_
        rw [hx j hj]
        by_cases h1 : j < k
        · rw [if_pos h1, if_pos (by omega)]
        · rw [if_neg h1]
          by_cases h2 : j = k
          · subst h2
            rw [if_pos rfl, if_pos (by omega), hu]
          · rw [if_neg h2, if_neg (by omega)]
      have hset : ∀ u : UInt8, ∀ j (hj : j < s.size), (wr.setCell ⟨w.heap.size, k, none⟩ (.int .u8 (u.toNat : Int))).cell? ⟨w.heap.size, j, none⟩ = some (.int .u8 ((if j < k then invC s[j] else if j = k then u else s[j]).toNat : Int)) := by
        intro u j hj
        by_cases h2 : j = k
        · subst h2
          rw [World.cell?_setCell_same _ _ _ hck, if_neg (Nat.lt_irrefl _), if_pos rfl]
        · rw [World.cell?_setCell_other _ _ _ _ (fun e => h2 (by injection e with _ e; exact e.symm)), hC.out j hj]
          by_cases h1 : j < k
          · rw [if_pos h1, if_pos h1]
          · rw [if_neg h1, if_neg h1, if_neg h2]
      have hset0 : ∀ j (hj : j < s.size), wr.cell? ⟨w.heap.size, j, none⟩ = some (.int .u8 ((if j < k then invC s[j] else if j = k then s[k] else s[j]).toNat : Int)) := by
        intro j hj
        rw [hC.out j hj]
        by_cases h1 : j < k
        · rw [if_pos h1, if_pos h1]
        · rw [if_neg h1, if_neg h1]
          by_cases h2 : j = k
          · subst h2; rw [if_pos rfl]
          · rw [if_neg h2]
      have hF' : ∀ u : Value, Hid (∀ j, j < s.size → (wr.setCell ⟨w.heap.size, k, none⟩ u).frozen? ⟨w.heap.size, j, none⟩ = false) := fun u => Lib.hid fun j hj => by
        rw [World.frozen?_setCell]
        exact hF.out j hj
      have hb' : ∀ u : Value, Below w.heap.size w (wr.setCell ⟨w.heap.size, k, none⟩ u) := fun u => hb.setCell (Nat.le_refl _) u
      rcases h1 : (((s[k]).toNat : Int) == 48) with _ | _
      · rcases h2 : (((s[k]).toNat : Int) == 49) with _ | _
        · have hv : s[k] = invC s[k] := by unfold invC; rw [if_neg (n48 _ h1), if_neg (n49 _ h2)]
          have R := hstep _ hv wr hset0
          have hR := Lib.hid hv
          clear hstep hset hset0 hF' hb' hv
          go_wp2
          go_roundw
          case rel => exact ⟨k + 1, by omega, by go_num, R, hF, hb⟩
          case measure => simp [intOf]; omega
        · have e49 := i49 _ h2
          have hv : (48 : UInt8) = invC s[k] := by rw [e49]; rfl
          have R := hstep _ hv _ (hset 48)
          have R2 := hF' (.int .u8 48)
          have R3 := hb' (.int .u8 48)
          rw [e49] at hck
          clear hstep hset hset0 hF' hb' hv h1 h2 hC hF
          have he := Lib.hid e49
          clear e49
          go_wp2
          go_roundw
          case rel => exact ⟨k + 1, by omega, by go_num, R, R2, R3⟩
          case measure => simp [intOf]; omega
      · have e48 := i48 _ h1
        have hv : (49 : UInt8) = invC s[k] := by rw [e48]; rfl
        have R := hstep _ hv _ (hset 49)
        have R2 := hF' (.int .u8 49)
        have R3 := hb' (.int .u8 49)
        rw [e48] at hck
        clear hstep hset hset0 hF' hb' hv h1 hC hF
        have he := Lib.hid e48
        clear e48
        go_wp2
        go_roundw
        case rel => exact ⟨k + 1, by omega, by go_num, R, R2, R3⟩
        case measure => simp [intOf]; omega
    · have hconv := run_convert_bytes_back (P := Try.prog) wr 36 9 5 ⟨w.heap.size, 0, none⟩ cap (inv s.data.toList) Try.underlying36 Try.underlying5 Try.underlying9 (fun j hj => by
        have hj' : j < s.size := by simpa [inv] using hj
        have := hC.out j hj'
        rw [if_pos (by omega)] at this
        rw [add_at]
        simp only [inv, List.getElem_map]
        exact this)
      rw [show (inv s.data.toList).length = s.size by simp [inv]] at hconv
      go_wp2
      go_ret
      exact ⟨rfl, hb⟩
end Go.Proofs.Ytkjbbhlekadomaa.C1
