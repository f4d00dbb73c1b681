/- The walk of the law CellsLinear: the distance of the cells is the number of different bits. -/
import Derived.Test.YtkjbbhlekadomaaC1Law3
namespace Go.Proofs.Ytkjbbhlekadomaa.C1
open Go.RowKit Mem
set_option linter.unusedVariables false

/-- The number of bits of a byte. -/
def pop (x : Nat) : Nat := (x.testBit 7).toNat + (x.testBit 6).toNat + (x.testBit 5).toNat + (x.testBit 4).toNat + (x.testBit 3).toNat + (x.testBit 2).toNat + (x.testBit 1).toNat + (x.testBit 0).toNat
theorem pop_le (x : Nat) : pop x ≤ 8 := by
  have h : ∀ b : Bool, b.toNat ≤ 1 := fun b => by cases b <;> decide
  unfold pop
  have h0 := h (x.testBit 0); have h1 := h (x.testBit 1); have h2 := h (x.testBit 2); have h3 := h (x.testBit 3)
  have h4 := h (x.testBit 4); have h5 := h (x.testBit 5); have h6 := h (x.testBit 6); have h7 := h (x.testBit 7)
  omega
theorem pop_zero : pop 0 = 0 := by decide
theorem pop_step (x : Nat) (h0 : 0 < x) (h : x < 256) : pop (x &&& (x - 1)) + 1 = pop x ∧ x &&& (x - 1) < x := by
  have := byte_cases (fun c => decide (c.toNat = 0) || (decide (pop (c.toNat &&& (c.toNat - 1)) + 1 = pop c.toNat) && decide (c.toNat &&& (c.toNat - 1) < c.toNat))) (by decide +kernel) (UInt8.ofNat x)
  rw [show (UInt8.ofNat x).toNat = x by rw [UInt8.toNat_ofNat']; omega] at this
  simp at this
  rcases this with h1 | h1
  · omega
  · exact h1
theorem cell_diff (c d : UInt8) (j : Nat) (hj : j < 8) : (if diffB (cellAt c j, cellAt d j) = true then 1 else 0) = ((c.toNat ^^^ d.toNat).testBit (7 - j)).toNat := by
  have hc := cellAt_nat c j
  have hd := cellAt_nat d j
  have h1 : diffB (cellAt c j, cellAt d j) = decide (c.toNat / 2 ^ (7 - j) % 2 ≠ d.toNat / 2 ^ (7 - j) % 2) := by
    unfold diffB
    rw [Bool.eq_iff_iff]
    simp [← UInt8.toNat_inj, hc, hd]
    omega
  rw [h1, Nat.testBit_xor, Nat.testBit_eq_decide_div_mod_eq, Nat.testBit_eq_decide_div_mod_eq]
  rcases Nat.mod_two_eq_zero_or_one (c.toNat / 2 ^ (7 - j)) with h | h <;> rcases Nat.mod_two_eq_zero_or_one (d.toNat / 2 ^ (7 - j)) with h' | h' <;> simp [h, h']
theorem dis_bits8 (c d : UInt8) : dis (bits8 c) (bits8 d) = pop (c.toNat ^^^ d.toNat) := by
  have h := fun j hj => cell_diff c d j hj
  have e : dis (bits8 c) (bits8 d) = (if diffB (cellAt c 0, cellAt d 0) = true then 1 else 0) + (if diffB (cellAt c 1, cellAt d 1) = true then 1 else 0) + (if diffB (cellAt c 2, cellAt d 2) = true then 1 else 0) + (if diffB (cellAt c 3, cellAt d 3) = true then 1 else 0) +
      (if diffB (cellAt c 4, cellAt d 4) = true then 1 else 0) + (if diffB (cellAt c 5, cellAt d 5) = true then 1 else 0) + (if diffB (cellAt c 6, cellAt d 6) = true then 1 else 0) + (if diffB (cellAt c 7, cellAt d 7) = true then 1 else 0) := by
    unfold dis bits8
    simp only [List.zip_cons_cons, List.zip_nil_left, List.filter_cons, List.filter_nil]
    generalize diffB (cellAt c 0, cellAt d 0) = x0
    generalize diffB (cellAt c 1, cellAt d 1) = x1
    generalize diffB (cellAt c 2, cellAt d 2) = x2
    generalize diffB (cellAt c 3, cellAt d 3) = x3
    generalize diffB (cellAt c 4, cellAt d 4) = x4
    generalize diffB (cellAt c 5, cellAt d 5) = x5
    generalize diffB (cellAt c 6, cellAt d 6) = x6
    generalize diffB (cellAt c 7, cellAt d 7) = x7
    revert x0 x1 x2 x3 x4 x5 x6 x7
    simp only [apply_ite List.length, List.length_cons, List.length_nil]
    decide
  rw [e, h 0 (by decide), h 1 (by decide), h 2 (by decide), h 3 (by decide), h 4 (by decide), h 5 (by decide), h 6 (by decide), h 7 (by decide)]
  rfl
theorem dis_append (x x' y y' : List UInt8) (h : x.length = y.length) : dis (x ++ x') (y ++ y') = dis x y + dis x' y' := by
  unfold dis
  rw [List.zip_append h, List.filter_append, List.length_append]
theorem dis_step (a b : ByteArray) (k : Nat) (ha : k < a.size) (hb : k < b.size) :
    dis (fromB (a.data.toList.take (k + 1))) (fromB (b.data.toList.take (k + 1))) = dis (fromB (a.data.toList.take k)) (fromB (b.data.toList.take k)) + pop ((a[k]).toNat ^^^ (b[k]).toNat) := by
  rw [fromB_snoc a k ha, fromB_snoc b k hb, dis_append _ _ _ _ (by rw [fromB_len, fromB_len]; simp; omega), dis_bits8]
theorem dis_le (x y : List UInt8) : dis x y ≤ x.length := by
  refine Nat.le_trans (List.length_filter_le _ _) ?_
  rw [List.length_zip]
  omega
def flip (c : UInt8) : UInt8 := c ^^^ 255
def flips (l : List UInt8) (k : Nat) : List UInt8 := (l.take k).map flip ++ l.drop k
theorem flips_len (l : List UInt8) (k : Nat) : (flips l k).length = l.length := by simp [flips]; omega
theorem flips_zero (l : List UInt8) : flips l 0 = l := by simp [flips]
theorem flips_all (l : List UInt8) : flips l l.length = l.map flip := by simp [flips]
theorem flips_get (l : List UInt8) (k : Nat) (h : k < l.length) : (flips l k)[k]'(by rw [flips_len]; exact h) = l[k] := by
  simp only [flips]
  rw [List.getElem_append_right (by simp; omega)]
  simp [show min k l.length = k by omega]
theorem flips_set (l : List UInt8) (k : Nat) (h : k < l.length) : (flips l k).set k (flip l[k]) = flips l (k + 1) := by
  simp only [flips]
  rw [List.set_append_right _ _ (by simp; omega), show k - ((l.take k).map flip).length = 0 by simp; omega, List.drop_eq_getElem_cons h, List.set_cons_zero, List.take_succ_eq_append_getElem h, List.map_append, List.append_assoc]
  rfl
theorem bits8_flip (c : UInt8) : bits8 (flip c) = inv (bits8 c) := by
  have := byte_cases (fun c => decide (bits8 (flip c) = inv (bits8 c))) (by decide +kernel) c
  simpa using this
theorem fromB_flip (l : List UInt8) : fromB (l.map flip) = inv (fromB l) := by
  induction l with
  | nil => rfl
  | cons c l ih =>
    have e : ∀ (c : UInt8) (l : List UInt8), fromB (c :: l) = bits8 c ++ fromB l := fun c l => by simp [fromB]
    rw [List.map_cons, e, e, ih, bits8_flip]
    simp [inv]
theorem xor_nat (c d : UInt8) : bits .xor .u8 (c.toNat : Int) (d.toNat : Int) = ((c.toNat ^^^ d.toNat : Nat) : Int) := u8_xor_nat _ _ c.toNat_lt d.toNat_lt
theorem xor_flip (c : UInt8) : bits .xor .u8 (c.toNat : Int) 255 = ((flip c).toNat : Int) := by
  have := xor_nat c 255
  rw [show (((255 : UInt8)).toNat : Int) = 255 from rfl] at this
  rw [this]
  simp [flip]
theorem and_pred (X : Nat) (h0 : 0 < X) (h : X < 256) : bits .and .u8 (X : Int) ((X : Int) - 1) = ((X &&& (X - 1) : Nat) : Int) := by
  rw [show (X : Int) - 1 = ((X - 1 : Nat) : Int) by omega]
  exact u8_and_nat _ _ h (by omega)
theorem xor_lt (c d : UInt8) : c.toNat ^^^ d.toNat < 256 := by
  have h := Nat.xor_lt_two_pow (n := 8) (x := c.toNat) (y := d.toNat) c.toNat_lt d.toNat_lt
  simpa using h

theorem distance_from (a b : ByteArray) (w : World) (hs : a.size ≤ 12500) (h : a.size = b.size) :
    Calls Try.prog 23 #[.string ⟨(fromB a.data.toList).toArray⟩, .string ⟨(fromB b.data.toList).toArray⟩] w fun e w' => e = .returned (.tuple #[.int .i64 (dis (fromB a.data.toList) (fromB b.data.toList) : Int), .int .i64 0]) ∧ ∃ n, w' = w.drewN n := by
  refine (distance_any ⟨(fromB a.data.toList).toArray⟩ ⟨(fromB b.data.toList).toArray⟩ w (by rw [str_size, fromB_len]; simp; omega) (by rw [str_size, fromB_len]; simp; omega)).mono ?_
  rintro e w' ⟨he, hw⟩
  have hl : (fromB a.data.toList).length = (fromB b.data.toList).length := by rw [fromB_len, fromB_len]; simp; omega
  refine ⟨he.trans (ret_two ?_ ?_), hw⟩
  · rw [str_list, str_list]
    unfold disN
    rw [if_pos ⟨chk_fromB _, chk_fromB _, hl⟩]
  · rw [str_list, str_list]
    exact disE_eq (chk_fromB _) (chk_fromB _) hl
theorem invert_from (a : ByteArray) (w : World) (hs : a.size ≤ 12500) :
    Calls Try.prog 16 #[.string ⟨(fromB a.data.toList).toArray⟩] w fun e w' => e = .returned (.string ⟨(inv (fromB a.data.toList)).toArray⟩) ∧ Below w.heap.size w w' := by
  refine (invert_any ⟨(fromB a.data.toList).toArray⟩ w (by rw [str_size, fromB_len]; simp; omega)).mono ?_
  rintro e w' ⟨he, hb⟩
  exact ⟨he, hb⟩
theorem fromBytes_flip (a : ByteArray) (w : World) (hs : a.size ≤ 12500) :
    Calls Try.prog 20 #[.string ⟨(a.data.toList.map flip).toArray⟩] w fun e w' => e = .returned (.string ⟨(inv (fromB a.data.toList)).toArray⟩) ∧ Below w.heap.size w w' := by
  refine (fromBytes_any ⟨(a.data.toList.map flip).toArray⟩ w (by rw [str_size]; simp; omega)).mono ?_
  rintro e w' ⟨he, hb⟩
  refine ⟨he.trans ?_, hb⟩
  rw [str_list, fromB_flip]

set_option maxHeartbeats 2000000 in
theorem walk_linear (a b : ByteArray) (w : World) (ha : a.size ≤ 140737488351232) (hb : b.size ≤ 140737488351232) :
    Calls Try.prog 10 #[.string a, .string b] w fun e w' => e = .returned (.bool true) ∧ Below w.heap.size w w' := by
  by_cases hs : a.size ≤ 500
  · by_cases hl : a.size = b.size
    · have hneq : ((a.size : Int) != (b.size : Int)) = false := by simp [hl]
      have hlh := Lib.hid hl
      have hb500 : b.size ≤ 500 := by omega
      clear hl
      go_enter Try.func10, Try.ntmps10
      go_wp2_with fail
      refine (alive_any _).mono ?_
      rintro e w1 ⟨rfl, hb1⟩
      obtain ⟨C, cap, hcap, hrun, hat⟩ := bytes_of (P := Try.prog) w1 a Try.underlying9 Try.underlying36 Try.underlying5
      obtain ⟨w2, hw2⟩ : ∃ w2, w1.alloc (.cells C 5 (cap, cap + 1)) = w2 := ⟨_, rfl⟩
      have hb2 : Below w.heap.size w w2 := by rw [← hw2]; exact hb1.alloc hb1.size _
      have hsz2 : w1.heap.size < w2.heap.size := by rw [← hw2]; simp
      rw [hw2] at hat
      obtain ⟨G, hG⟩ : ∃ G, w1.heap.size = G := ⟨_, rfl⟩
      have hGB : w.heap.size ≤ G := by rw [← hG]; exact hb1.size
      go_wp2_with fail
      go_loopw [5, 27] (fun n i wr => ∃ (k N : Nat), k ≤ a.size ∧ i = .int .i64 k ∧ N ≤ 8 * k ∧ n = .int .i64 N ∧ Hid (N = dis (fromB (a.data.toList.take k)) (fromB (b.data.toList.take k))) ∧ Hid (BAt wr G (flips a.data.toList k)) ∧ G < wr.heap.size ∧ Below w.heap.size w wr) (fun _ i _ => a.size - (intOf i).toNat)
      case atStart => exact ⟨0, 0, Nat.zero_le _, rfl, by omega, rfl, Lib.hid rfl, Lib.hid (by rw [flips_zero, ← hG]; exact hat), by rw [← hG]; exact hsz2, hb2.drew⟩
      case round =>
        obtain ⟨k, N, hk, rfl, hN8, rfl, hN, hA, hGs, hbr⟩ := hrel
        clear hat hb1 hb2 hrun
        by_cases hlt : k < a.size
        · have hltb : k < b.size := by have := hlh.out; omega
          have hI0 : (0 : Int) ≤ (k : Int) := by omega
          have hI1 : (k : Int) < (a.size : Int) := by omega
          have hI2 : (k : Int) < (b.size : Int) := by omega
          have hxor := xor_nat a[k] b[k]
          obtain ⟨X, hX⟩ : ∃ X, (a[k]).toNat ^^^ (b[k]).toNat = X := ⟨_, rfl⟩
          have hXlt : X < 256 := by rw [← hX]; exact xor_lt _ _
          have hpX := pop_le X
          rw [hX] at hxor
          have hstep := Lib.hid (dis_step a b k hlt hltb)
          have hXh := Lib.hid hX
          clear hX
          go_wp2
          go_quiet (fail)
          go_wp2
          clear hxor
          go_loop [5, 8] (fun n x => ∃ Y M : Nat, Y < 256 ∧ x = .int .u8 Y ∧ n = .int .i64 M ∧ M + pop Y = N + pop X ∧ M ≤ N + pop X) (fun _ x => (intOf x).toNat)
          case atStart => exact ⟨X, N, hXlt, rfl, rfl, rfl, by omega⟩
          case round =>
            obtain ⟨Y, M, hY, rfl, rfl, hM, hM2⟩ := hrel
            by_cases hY0 : 0 < Y
            · have hI : (0 : Int) < (Y : Int) := by omega
              have hI255 : (Y : Int) ≤ 255 := by omega
              have hand := and_pred Y hY0 hY
              obtain ⟨p1, p2⟩ := pop_step Y hY0 hY
              obtain ⟨Z, hZ⟩ : ∃ Z, Y &&& (Y - 1) = Z := ⟨_, rfl⟩
              rw [hZ] at hand p1 p2
              clear hZ
              have hM8 : M ≤ 8 * k + 8 := by omega
              have hMh := Lib.hid hM
              clear hM
              go_wp2
              go_round
              case rel => exact ⟨Z, M + 1, by omega, rfl, by go_num, by have := hMh.out; omega, by have := hMh.out; omega⟩
              case measure => simp [intOf]; omega
            · obtain rfl : Y = 0 := by omega
              rw [pop_zero] at hM
              have hMh := Lib.hid hM
              have hM8 : M ≤ 8 * (k + 1) := by omega
              have hlen : k < (flips a.data.toList k).length := by rw [flips_len]; simpa using hlt
              have hcf := hA.out k hlen
              rw [flips_get _ _ (by simpa using hlt)] at hcf
              have hc1 : wr.cell? ⟨G, k, none⟩ = some (.int .u8 ((a[k]).toNat : Int)) := hcf.1
              have hf1 : wr.frozen? ⟨G, k, none⟩ = false := hcf.2
              clear hcf
              have hset := hA.out.set hlen (flip a.data.toList[k])
              rw [flips_set] at hset
              have hseth : ∀ nq, Hid (BAt ((wr.drewN nq).setCell ⟨G, k, none⟩ (.int .u8 ((flip a[k]).toNat : Int))) G (flips a.data.toList (k + 1))) := fun nq => Lib.hid hset
              have hbset : ∀ nq, Below w.heap.size w ((wr.drewN nq).setCell ⟨G, k, none⟩ (.int .u8 ((flip a[k]).toNat : Int))) := fun nq => (chainN hbr nq).setCell hGB _
              have hflip := xor_flip a[k]
              clear hM hA hset
              go_wp2
              go_roundw
              case rel => exact ⟨k + 1, M, by omega, by go_num, hM8, rfl, Lib.hid (by rw [hstep.out, hXh.out, ← hN.out]; have := hMh.out; omega), hseth _, by simpa using hGs, hbset _⟩
              case measure => simp [intOf]; omega
        · obtain rfl : k = a.size := by omega
          have hNd : N = dis (fromB a.data.toList) (fromB b.data.toList) := by
            have := hN.out
            rwa [take_all, show b.data.toList.take a.size = b.data.toList by rw [hlh.out, take_all]] at this
          have hat : BAt wr G (a.data.toList.map flip) := by
            have := hA.out
            rwa [show a.size = a.data.toList.length by simp, flips_all] at this
          clear hN hA
          subst hNd
          go_wp2_with fail
          refine (fromBytes_any a _ (by omega)).mono ?_
          rintro e w3 ⟨rfl, hb3⟩
          go_wp2_with fail
          refine (fromBytes_any b _ (by omega)).mono ?_
          rintro e w4 ⟨rfl, hb4⟩
          go_wp2_with fail
          refine (distance_from a b _ (by omega) hlh.out).mono ?_
          rintro e w5 ⟨rfl, m, rfl⟩
          have hs3 : wr.heap.size ≤ w3.heap.size := hb3.size
          have hat4 : BAt (w4.drewN m) G (a.data.toList.map flip) := (((hat.below hb3 hGs).below hb4 (by omega))).drewN m
          have hconv := hat4.conv (P := Try.prog) (cap := cap) (dst := 9) (show (a.data.toList.map flip).length = a.size by simp) Try.underlying36 Try.underlying5 Try.underlying9
          have hat4 := Lib.hid hat4
          have hat := Lib.hid hat
          go_wp2_with fail
          refine (fromBytes_flip a _ (by omega)).mono ?_
          rintro e w6 ⟨rfl, hb6⟩
          go_wp2_with fail
          refine (fromBytes_any a _ (by omega)).mono ?_
          rintro e w7 ⟨rfl, hb7⟩
          go_wp2_with fail
          refine (invert_from a _ (by omega)).mono ?_
          rintro e w8 ⟨rfl, hb8⟩
          go_wp2
          go_ret
          exact ⟨rfl, chain (chain (chain (chainN (chain (chain hbr hb3) hb4) m) hb6) hb7) hb8⟩
    · have hneq : ((a.size : Int) != (b.size : Int)) = true := by simp; omega
      go_enter Try.func10, Try.ntmps10
      go_wp2_with fail
      refine (alive_any _).mono ?_
      rintro e w1 ⟨rfl, hb1⟩
      go_wp2
      go_ret
      exact ⟨rfl, hb1⟩
  · have hgt : (500 : Int) < (a.size : Int) := by omega
    go_enter Try.func10, Try.ntmps10
    go_wp2_with fail
    refine (alive_any _).mono ?_
    rintro e w1 ⟨rfl, hb1⟩
    go_wp2
    go_ret
    exact ⟨rfl, hb1⟩
end Go.Proofs.Ytkjbbhlekadomaa.C1
