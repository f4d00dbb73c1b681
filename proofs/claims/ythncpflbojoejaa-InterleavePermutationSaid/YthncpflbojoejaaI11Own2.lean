/- The contracts of the landed functions of layer 11: Index at any arguments, and the moving of bytes in both directions. -/
import Derived.Test.YthncpflbojoejaaI11Own1
import Derived.Test.YthncpflbojoejaaI11Mk
namespace Go.Proofs.Ythncpflbojoejaa.I11
open Go.RowKit Mem
set_option linter.unusedVariables false
set_option linter.unusedSimpArgs false

set_option maxRecDepth 100000 in
set_option maxHeartbeats 2000000 in
theorem index_own (i n r : Int) (w : World) (i1 : -9223372036854775808 ≤ i) (i2 : i ≤ 9223372036854775807) (n1 : -9223372036854775808 ≤ n) (n2 : n ≤ 9223372036854775807) (r1 : -9223372036854775808 ≤ r) (r2 : r ≤ 9223372036854775807) :
    Calls Try.prog 16 #[.int .i64 i, .int .i64 n, .int .i64 r] w (Ixed i n r w) := by
  unfold Ixed
  by_cases h : r < 1 ∨ n < 0
  · obtain ⟨g1, g2⟩ := ix_arg (i := i) h
    rw [g1, g2]
    clear g1 g2
    rcases h1 : decide (r < 1) with _ | _
    · have d2 : decide (n < 0) = true := decide_eq_true (by have := of_decide_eq_false h1; omega)
      clear h
      go_enter Try.func16, Try.ntmps16
      go_wp2
      go_ret2
      exact ⟨rfl, 0, rfl⟩
    · clear h
      go_enter Try.func16, Try.ntmps16
      go_wp2
      go_ret2
      exact ⟨rfl, 0, rfl⟩
  · have d1 : decide (r < 1) = false := decide_eq_false (by omega)
    have d2 : decide (n < 0) = false := decide_eq_false (by omega)
    by_cases h' : i < 0 ∨ n ≤ i
    · obtain ⟨g1, g2⟩ := ix_range h h'
      rw [g1, g2]
      clear g1 g2 h
      rcases h1 : decide (i < 0) with _ | _
      · have d3 : decide (n ≤ i) = true := decide_eq_true (by have := of_decide_eq_false h1; omega)
        clear h'
        go_enter Try.func16, Try.ntmps16
        go_wp2
        go_ret2
        exact ⟨rfl, 0, rfl⟩
      · clear h'
        go_enter Try.func16, Try.ntmps16
        go_wp2
        go_ret2
        exact ⟨rfl, 0, rfl⟩
    · obtain ⟨I, rfl⟩ : ∃ I : Nat, i = I := ⟨i.toNat, by omega⟩
      obtain ⟨N, rfl⟩ : ∃ I : Nat, n = I := ⟨n.toNat, by omega⟩
      obtain ⟨R, rfl⟩ : ∃ I : Nat, r = I := ⟨r.toNat, by omega⟩
      obtain ⟨g1, g2⟩ := ix_ok (i := I) (n := N) (r := R) (by omega) (by omega)
      rw [g1, g2]
      exact index_core I N R w (by omega) (by omega) (by omega) (by omega)
theorem dirI (a b : Int) (w : World) : Calls Try.prog 22 #[.int .i64 a, .int .i64 b] w fun e w' => e = .returned (.tuple #[.int .i64 a, .int .i64 b]) ∧ w = w' := by
  go_enter Try.func22, Try.ntmps22
  go_wp2
  go_ret2
  exact ⟨rfl, rfl⟩
theorem dirD (a b : Int) (w : World) : Calls Try.prog 24 #[.int .i64 a, .int .i64 b] w fun e w' => e = .returned (.tuple #[.int .i64 b, .int .i64 a]) ∧ w = w' := by
  go_enter Try.func24, Try.ntmps24
  go_wp2
  go_ret2
  exact ⟨rfl, rfl⟩
set_option maxRecDepth 100000 in
set_option maxHeartbeats 4000000 in
theorem permI (c : ByteArray) (r : Nat) (w : World) (hr : 1 ≤ r) (hr2 : r ≤ 9223372036854775807) (hc : c.size ≤ 1000000) :
    Calls Try.prog 21 #[.string c, .int .i64 (r : Int), .func (.func 22) #[] #[]] w fun e w' => e = .returned (.tuple #[.string ⟨(il r c.data.toList).toArray⟩, .int .i64 0]) ∧ Below w.heap.size w w' := by
  obtain ⟨n, hn⟩ : ∃ n, c.size = n := ⟨_, rfl⟩
  have hln : c.data.toList.length = n := by rw [← hn]; simp
  obtain ⟨l0, hl0, hmk⟩ := make_bytesI w n (by omega)
  have hstep : ∀ k, k < n → ∃ P, pos n r k = P ∧ P < n ∧ Hid (∀ (hf : k < c.size) W G, BAt W G (mv id (pos n r) c.data.toList n k) → BAt (W.setCell ⟨G, P, none⟩ (.int .u8 ((c[k]).toNat : Int))) G (mv id (pos n r) c.data.toList n (k + 1))) ∧ Hid (∀ W G, BAt W G (mv id (pos n r) c.data.toList n k) → ∃ b : UInt8, W.cell? ⟨G, P, none⟩ = some (.int .u8 (b.toNat : Int)) ∧ W.frozen? ⟨G, P, none⟩ = false) := by
    intro k hk
    have hlt := pos_lt (n := n) (r := r) (i := k) hr hk
    refine ⟨_, rfl, hlt, Lib.hid ?_, Lib.hid ?_⟩
    · intro hf W G h
      have h2 := BAt.set h (k := pos n r k) (by rw [mv_len]; first | exact hlt | exact hk) (c[k])
      have e : mv id (pos n r) c.data.toList n (k + 1) = (mv id (pos n r) c.data.toList n k).set (pos n r k) (c[k]) := by
        simp only [mv]
        rw [show c.data.toList.getD (id k) 0 = c[k] from getD_of (by rw [hln]; first | exact hlt | exact hk)]
      rw [e]
      exact h2
    · intro W G h
      have hx : pos n r k < (mv id (pos n r) c.data.toList n k).length := by rw [mv_len]; first | exact hlt | exact hk
      exact ⟨_, h _ hx⟩
  have hB0 : BAt (w.alloc (.cells l0.toArray 5)) w.heap.size (mv id (pos n r) c.data.toList n 0) := by
    rw [hl0]
    exact made_at w _ _
  have hb0 : Below w.heap.size w (w.alloc (.cells l0.toArray 5)) := (Below.refl _ w).alloc (Nat.le_refl _) _
  have hs0 : w.heap.size < (w.alloc (.cells l0.toArray 5)).heap.size := by simp
  obtain ⟨W0, hW0⟩ : ∃ W0, w.alloc (.cells l0.toArray 5) = W0 := ⟨_, rfl⟩
  obtain ⟨G, hG⟩ : ∃ G, w.heap.size = G := ⟨_, rfl⟩
  rw [hW0, hG] at hmk hB0 hb0 hs0
  have hall : mv id (pos n r) c.data.toList n n = il r c.data.toList := by rw [il, hln]
  have cX := fun (k P : Nat) W (h : pos n r k = P) (hk : k < n) => h ▸ index_core k n r W hr hk (by omega) hr2
  have hlen := mv_len id (pos n r) c.data.toList n n
  obtain ⟨M, hM⟩ : ∃ M : Nat → List UInt8, mv id (pos n r) c.data.toList n = M := ⟨_, rfl⟩
  rw [hM] at hstep hB0 hall hlen
  have d1 : decide ((r : Int) < 1) = false := decide_eq_false (by omega)
  have hn6 : n ≤ 1000000 := by omega
  replace hB0 := Lib.hid hB0
  replace hs0 := Lib.hid hs0
  replace hG := Lib.hid hG
  replace hall := Lib.hid hall
  replace hlen := Lib.hid hlen
  replace hstep := Lib.hid hstep
  replace cX := Lib.hid cX
  have hnh := Lib.hid hn
  clear hl0 hW0 hM hln
  go_enter Try.func21, Try.ntmps21
  go_wp2
  go_loopw [21] (fun iv wr => ∃ k : Nat, k ≤ n ∧ iv = .int .i64 (k : Int) ∧ Hid (BAt wr G (M k)) ∧ Hid (G < wr.heap.size) ∧ Below G w wr) (fun iv _ => n - (intOf iv).toNat)
  case atStart => exact ⟨0, Nat.zero_le _, rfl, hB0, hs0, hb0⟩
  case round =>
    clear hB0 hs0 hb0 hmk
    obtain ⟨k, hk, rfl, hg, hsz, hb⟩ := hrel
    by_cases hlt : k < n
    · obtain ⟨P, hP, hPn, hset, hget⟩ := hstep.out k hlt
      have dk : decide ((k : Int) < (n : Int)) = true := decide_eq_true (by omega)
      have cI := Lib.hid (cX.out k P wr hP hlt)
      have k0 : (0 : Int) ≤ (k : Int) := by omega
      have k1 : (k : Int) < (n : Int) := by omega
      have P0 : (0 : Int) ≤ (P : Int) := by omega
      have P1 : (P : Int) < (n : Int) := by omega
      have hkc : k < c.size := by omega
      have hPc : P < c.size := by omega
      clear hP
      go_wp2_with fail
      refine cI.out.mono ?_
      rintro e w1 ⟨rfl, q, rfl⟩
      obtain ⟨b0, hn1, hf1⟩ := hget.out (wr.drewN q) G (hg.out.drewN q)
      have hg2 := Lib.hid (hset.out (by assumption) (wr.drewN q) G (hg.out.drewN q))
      have hb2 : Below G w (wr.drewN q) := ⟨hb.os, hb.tape, hb.output, hb.size, hb.block⟩
      have hs2 : Hid (G < (wr.drewN q).heap.size) := Lib.hid hsz.out
      obtain ⟨W, hW⟩ : ∃ W, wr.drewN q = W := ⟨_, rfl⟩
      rw [hW] at hn1 hf1 hg2 hb2 hs2 ⊢
      clear hW hg hset hget hsz hb cI
      have hb3 := hb2.setCell (p := ⟨G, P, none⟩) (Nat.le_refl G) (.int .u8 ((c[k]).toNat : Int))
      have hs3 : Hid (G < (W.setCell ⟨G, P, none⟩ (.int .u8 ((c[k]).toNat : Int))).heap.size) := Lib.hid (by simpa using hs2.out)
      clear hb2 hs2
      go_wp2_with fail
      refine (dirI _ _ _).mono ?_
      rintro e w2 ⟨rfl, rfl⟩
      go_wp2
      go_roundw
      case rel => exact ⟨k + 1, by omega, by go_num, hg2, hs3, hb3⟩
      case measure => simp [intOf]; omega
    · obtain rfl : k = n := by omega
      have dk : decide ((k : Int) < (k : Int)) = false := decide_eq_false (by omega)
      have hg2 := hg.out
      rw [hall.out] at hg2
      have hcv := hg2.conv (P := Try.prog) (cap := k) (n := k) (by rw [← hall.out]; exact hlen.out) Try.underlying34 Try.underlying5 Try.underlying9
      obtain ⟨O, hO⟩ : ∃ O : ByteArray, ⟨(il r c.data.toList).toArray⟩ = O := ⟨_, rfl⟩
      replace hcv : (convert 34 9 (.slice (some ⟨G, 0, none⟩) k k)).run Try.prog wr = .ok (.string O) wr := by rw [← hO]; exact hcv
      replace hO := Lib.hid hO
      clear hg2
      go_wp2
      go_ret2
      exact ⟨by rw [hO.out]; rfl, by rw [hG.out]; exact hb⟩
set_option maxRecDepth 100000 in
set_option maxHeartbeats 4000000 in
theorem permD (c : ByteArray) (r : Nat) (w : World) (hr : 1 ≤ r) (hr2 : r ≤ 9223372036854775807) (hc : c.size ≤ 1000000) :
    Calls Try.prog 21 #[.string c, .int .i64 (r : Int), .func (.func 24) #[] #[]] w fun e w' => e = .returned (.tuple #[.string ⟨(dl r c.data.toList).toArray⟩, .int .i64 0]) ∧ Below w.heap.size w w' := by
  obtain ⟨n, hn⟩ : ∃ n, c.size = n := ⟨_, rfl⟩
  have hln : c.data.toList.length = n := by rw [← hn]; simp
  obtain ⟨l0, hl0, hmk⟩ := make_bytesI w n (by omega)
  have hstep : ∀ k, k < n → ∃ P, pos n r k = P ∧ P < n ∧ Hid (∀ (hf : P < c.size) W G, BAt W G (mv (pos n r) id c.data.toList n k) → BAt (W.setCell ⟨G, k, none⟩ (.int .u8 ((c[P]).toNat : Int))) G (mv (pos n r) id c.data.toList n (k + 1))) ∧ Hid (∀ W G, BAt W G (mv (pos n r) id c.data.toList n k) → ∃ b : UInt8, W.cell? ⟨G, k, none⟩ = some (.int .u8 (b.toNat : Int)) ∧ W.frozen? ⟨G, k, none⟩ = false) := by
    intro k hk
    have hlt := pos_lt (n := n) (r := r) (i := k) hr hk
    refine ⟨_, rfl, hlt, Lib.hid ?_, Lib.hid ?_⟩
    · intro hf W G h
      have h2 := BAt.set h (k := k) (by rw [mv_len]; exact hk) (c[pos n r k])
      have e : mv (pos n r) id c.data.toList n (k + 1) = (mv (pos n r) id c.data.toList n k).set k (c[pos n r k]) := by
        simp only [mv]
        rw [show c.data.toList.getD ((pos n r) k) 0 = c[pos n r k] from getD_of (by rw [hln]; exact hlt)]
        rfl
      rw [e]
      exact h2
    · intro W G h
      have hx : k < (mv (pos n r) id c.data.toList n k).length := by rw [mv_len]; first | exact hlt | exact hk
      exact ⟨_, h _ hx⟩
  have hB0 : BAt (w.alloc (.cells l0.toArray 5)) w.heap.size (mv (pos n r) id c.data.toList n 0) := by
    rw [hl0]
    exact made_at w _ _
  have hb0 : Below w.heap.size w (w.alloc (.cells l0.toArray 5)) := (Below.refl _ w).alloc (Nat.le_refl _) _
  have hs0 : w.heap.size < (w.alloc (.cells l0.toArray 5)).heap.size := by simp
  obtain ⟨W0, hW0⟩ : ∃ W0, w.alloc (.cells l0.toArray 5) = W0 := ⟨_, rfl⟩
  obtain ⟨G, hG⟩ : ∃ G, w.heap.size = G := ⟨_, rfl⟩
  rw [hW0, hG] at hmk hB0 hb0 hs0
  have hall : mv (pos n r) id c.data.toList n n = dl r c.data.toList := by rw [dl, hln]
  have cX := fun (k P : Nat) W (h : pos n r k = P) (hk : k < n) => h ▸ index_core k n r W hr hk (by omega) hr2
  have hlen := mv_len (pos n r) id c.data.toList n n
  obtain ⟨M, hM⟩ : ∃ M : Nat → List UInt8, mv (pos n r) id c.data.toList n = M := ⟨_, rfl⟩
  rw [hM] at hstep hB0 hall hlen
  have d1 : decide ((r : Int) < 1) = false := decide_eq_false (by omega)
  have hn6 : n ≤ 1000000 := by omega
  replace hB0 := Lib.hid hB0
  replace hs0 := Lib.hid hs0
  replace hG := Lib.hid hG
  replace hall := Lib.hid hall
  replace hlen := Lib.hid hlen
  replace hstep := Lib.hid hstep
  replace cX := Lib.hid cX
  have hnh := Lib.hid hn
  clear hl0 hW0 hM hln
  go_enter Try.func21, Try.ntmps21
  go_wp2
  go_loopw [21] (fun iv wr => ∃ k : Nat, k ≤ n ∧ iv = .int .i64 (k : Int) ∧ Hid (BAt wr G (M k)) ∧ Hid (G < wr.heap.size) ∧ Below G w wr) (fun iv _ => n - (intOf iv).toNat)
  case atStart => exact ⟨0, Nat.zero_le _, rfl, hB0, hs0, hb0⟩
  case round =>
    clear hB0 hs0 hb0 hmk
    obtain ⟨k, hk, rfl, hg, hsz, hb⟩ := hrel
    by_cases hlt : k < n
    · obtain ⟨P, hP, hPn, hset, hget⟩ := hstep.out k hlt
      have dk : decide ((k : Int) < (n : Int)) = true := decide_eq_true (by omega)
      have cI := Lib.hid (cX.out k P wr hP hlt)
      have k0 : (0 : Int) ≤ (k : Int) := by omega
      have k1 : (k : Int) < (n : Int) := by omega
      have P0 : (0 : Int) ≤ (P : Int) := by omega
      have P1 : (P : Int) < (n : Int) := by omega
      have hkc : k < c.size := by omega
      have hPc : P < c.size := by omega
      clear hP
      go_wp2_with fail
      refine cI.out.mono ?_
      rintro e w1 ⟨rfl, q, rfl⟩
      obtain ⟨b0, hn1, hf1⟩ := hget.out (wr.drewN q) G (hg.out.drewN q)
      have hg2 := Lib.hid (hset.out (by assumption) (wr.drewN q) G (hg.out.drewN q))
      have hb2 : Below G w (wr.drewN q) := ⟨hb.os, hb.tape, hb.output, hb.size, hb.block⟩
      have hs2 : Hid (G < (wr.drewN q).heap.size) := Lib.hid hsz.out
      obtain ⟨W, hW⟩ : ∃ W, wr.drewN q = W := ⟨_, rfl⟩
      rw [hW] at hn1 hf1 hg2 hb2 hs2 ⊢
      clear hW hg hset hget hsz hb cI
      have hb3 := hb2.setCell (p := ⟨G, k, none⟩) (Nat.le_refl G) (.int .u8 ((c[P]).toNat : Int))
      have hs3 : Hid (G < (W.setCell ⟨G, k, none⟩ (.int .u8 ((c[P]).toNat : Int))).heap.size) := Lib.hid (by simpa using hs2.out)
      clear hb2 hs2
      go_wp2_with fail
      refine (dirD _ _ _).mono ?_
      rintro e w2 ⟨rfl, rfl⟩
      go_wp2
      go_roundw
      case rel => exact ⟨k + 1, by omega, by go_num, hg2, hs3, hb3⟩
      case measure => simp [intOf]; omega
    · obtain rfl : k = n := by omega
      have dk : decide ((k : Int) < (k : Int)) = false := decide_eq_false (by omega)
      have hg2 := hg.out
      rw [hall.out] at hg2
      have hcv := hg2.conv (P := Try.prog) (cap := k) (n := k) (by rw [← hall.out]; exact hlen.out) Try.underlying34 Try.underlying5 Try.underlying9
      obtain ⟨O, hO⟩ : ∃ O : ByteArray, ⟨(dl r c.data.toList).toArray⟩ = O := ⟨_, rfl⟩
      replace hcv : (convert 34 9 (.slice (some ⟨G, 0, none⟩) k k)).run Try.prog wr = .ok (.string O) wr := by rw [← hO]; exact hcv
      replace hO := Lib.hid hO
      clear hg2
      go_wp2
      go_ret2
      exact ⟨by rw [hO.out]; rfl, by rw [hG.out]; exact hb⟩
theorem perm_arg (c : ByteArray) (r : Int) (F : Value) (w : World) (h : r < 1) : Calls Try.prog 21 #[.string c, .int .i64 r, F] w fun e w' => e = .returned (.tuple #[.string ⟨#[]⟩, .int .i64 1]) ∧ w = w' := by
  have d1 : decide (r < 1) = true := decide_eq_true h
  go_enter Try.func21, Try.ntmps21
  go_wp2
  go_ret2
  exact ⟨rfl, rfl⟩
/-- The landed functions, for any number of rows. -/
theorem il_own (c : ByteArray) (r : Int) (w : World) (hc : c.size ≤ 1000000) (r1 : -9223372036854775808 ≤ r) (r2 : r ≤ 9223372036854775807) : Calls Try.prog 12 #[.string c, .int .i64 r] w (Iled c r w) := by
  unfold Iled
  by_cases h : r < 1
  · obtain ⟨g1, g2, _⟩ := p_arg (c := c) h
    rw [g1, g2]
    have cP := Lib.hid (perm_arg c r (.func (.func 22) #[] #[]) w h)
    clear g1 g2
    go_enter Try.func12, Try.ntmps12
    go_wp2_with fail
    refine cP.out.mono ?_
    rintro e w1 ⟨rfl, rfl⟩
    go_wp2
    go_ret2
    exact ⟨rfl, Below.refl _ _⟩
  · obtain ⟨R, rfl⟩ : ∃ I : Nat, r = I := ⟨r.toNat, by omega⟩
    rw [p_ok (by omega), iS_at (by omega)]
    have cP := permI c R w (by omega) (by omega) hc
    obtain ⟨O, hO⟩ : ∃ O : ByteArray, ⟨(il R c.data.toList).toArray⟩ = O := ⟨_, rfl⟩
    rw [hO] at cP ⊢
    replace cP := Lib.hid cP
    clear hO
    go_enter Try.func12, Try.ntmps12
    go_wp2_with fail
    refine cP.out.mono ?_
    rintro e w1 ⟨rfl, hb⟩
    go_wp2
    go_ret2
    exact ⟨rfl, hb⟩
theorem dl_own (c : ByteArray) (r : Int) (w : World) (hc : c.size ≤ 1000000) (r1 : -9223372036854775808 ≤ r) (r2 : r ≤ 9223372036854775807) : Calls Try.prog 14 #[.string c, .int .i64 r] w (Dled c r w) := by
  unfold Dled
  by_cases h : r < 1
  · obtain ⟨g1, _, g2⟩ := p_arg (c := c) h
    rw [g1, g2]
    have cP := Lib.hid (perm_arg c r (.func (.func 24) #[] #[]) w h)
    clear g1 g2
    go_enter Try.func14, Try.ntmps14
    go_wp2_with fail
    refine cP.out.mono ?_
    rintro e w1 ⟨rfl, rfl⟩
    go_wp2
    go_ret2
    exact ⟨rfl, Below.refl _ _⟩
  · obtain ⟨R, rfl⟩ : ∃ I : Nat, r = I := ⟨r.toNat, by omega⟩
    rw [p_ok (by omega), dS_at (by omega)]
    have cP := permD c R w (by omega) (by omega) hc
    obtain ⟨O, hO⟩ : ∃ O : ByteArray, ⟨(dl R c.data.toList).toArray⟩ = O := ⟨_, rfl⟩
    rw [hO] at cP ⊢
    replace cP := Lib.hid cP
    clear hO
    go_enter Try.func14, Try.ntmps14
    go_wp2_with fail
    refine cP.out.mono ?_
    rintro e w1 ⟨rfl, hb⟩
    go_wp2
    go_ret2
    exact ⟨rfl, hb⟩
end Go.Proofs.Ythncpflbojoejaa.I11
