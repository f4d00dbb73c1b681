/- The walk of the law InterleavePermutation, under the package's contracts. -/
import Derived.Test.YthncpflbojoejaaI11Dev
import Derived.Test.YthncpflbojoejaaI11Mk
namespace Go.Proofs.Ythncpflbojoejaa.I11
open Go.RowKit Mem
set_option linter.unusedVariables false
set_option linter.unusedSimpArgs false

theorem byte_getD (S : ByteArray) {i : Nat} (h : i < S.size) : S[i] = S.data.toList.getD i 0 := by
  rw [getD_of (by simpa using h)]
  rfl
theorem iS_byte (c : ByteArray) {n r k : Nat} (hr : 1 ≤ r) (hn : c.size = n) (hk : k < c.size) (hp : pos n r k < (iS c (r : Int)).size) : (iS c (r : Int))[pos n r k] = c[k] := by
  subst hn
  rw [byte_getD _ hp, byte_getD _ hk]
  have e : (iS c (r : Int)).data.toList = il r c.data.toList := by rw [iS_at hr]
  rw [e]
  have := il_at hr c.data.toList (i := k) (by simpa using hk)
  rwa [size_list] at this
/-- Which places have been met behind k positions. -/
def mt (n r : Nat) : Nat → List Bool
  | 0 => List.replicate n false
  | k + 1 => (mt n r k).set (pos n r k) true
theorem mt_len (n r : Nat) : ∀ k, (mt n r k).length = n
  | 0 => by simp [mt]
  | k + 1 => by rw [mt, List.length_set]; exact mt_len n r k
theorem mt_new {n r k : Nat} (hr : 1 ≤ r) (hk : k < n) : ∀ m, m ≤ k → (mt n r m)[pos n r k]? = some false
  | 0, _ => by
    rw [mt, List.getElem?_replicate, if_pos (pos_lt hr hk)]
  | m + 1, h => by
    rw [mt, List.getElem?_set_ne, mt_new hr hk m (by omega)]
    intro e
    have := pos_inj hr (show m < n by omega) hk e
    omega
def bls (l : List Bool) : List Value := l.map .bool
theorem bls_len (l : List Bool) : (bls l).length = l.length := by simp [bls]
theorem bls_set (l : List Bool) (k : Nat) (b : Bool) : (bls l).set k (.bool b) = bls (l.set k b) := by simp [bls, List.map_set]
theorem info_boolI : (Try.prog.info? 4).map (fun i => (i.zero, i.size, i.bytes)) = some (some (.bool false), 1, 1) := by kernel_rfl
theorem make_boolsI (w : World) (n : Nat) (h : n ≤ 1000000) : ∃ l : List Value, l = bls (List.replicate n false) ∧ (Instr.makeSlice 30 (.int .i64 (n : Int)) (.int .i64 (n : Int))).run Try.prog w = .ok (.slice (some ⟨w.heap.size, 0, none⟩) n n) (w.alloc (.cells l.toArray 4)) := by
  obtain ⟨i0, hi, hz0, hz1, hz2⟩ := info_parts info_boolI
  have hr := run_make (P := Try.prog) w 30 4 i0 _ Try.underlying30 hi hz0 .i64 .i64 (n : Int) (n : Int) (by omega) (Int.le_refl _) (by rw [hz2]; omega) (by omega)
  simp only [Int.toNat_natCast] at hr
  rw [hz1] at hr
  refine ⟨_, rfl, ?_⟩
  rw [Nat.mul_one] at hr
  have e : (madeCells (Value.bool false).cells n) = (bls (List.replicate n false)).toArray := by
    apply Array.toList_inj.1
    apply List.ext_getElem
    · simp [size_madeCells, bls]
    · intro i h1 h2
      simp [madeCells, Value.cells, bls]
      rw [Nat.mod_one]
      rfl
  rw [e] at hr
  exact hr
theorem blk_vat {W : World} {g : Nat} {l : List Value} {T : TypeId} (h : W.heap[g]? = some (.cells l.toArray T (0, 0))) : VAt W g l := fun j hj => by
  have q := List.getElem?_eq_getElem hj
  refine ⟨?_, ?_⟩
  · simp [World.cell?, h, q]
  · simp [World.frozen?, h]
set_option maxRecDepth 100000 in
set_option maxHeartbeats 4000000 in
theorem walk_permutation (D : Dev) (c : ByteArray) (r : Int) (w : World) (hc : c.size ≤ 140737488351232) (wr : (Lit.int .i64 r).wf = true) :
    Calls Try.prog 6 #[.string c, .int .i64 r] w fun e w' => e = .returned (.bool true) ∧ Below w.heap.size w w' := by
  have cA := Lib.hid (fun W => awake_any D W)
  obtain ⟨r1, r2⟩ : -9223372036854775808 ≤ r ∧ r ≤ 9223372036854775807 := (Lit.wf_int_iff .i64 _).1 wr
  clear wr
  by_cases h1 : c.size ≤ 300
  · have d1 : decide (300 < c.size) = false := decide_eq_false (by omega)
    have d1' : decide ((300 : Int) < (c.size : Int)) = false := decide_eq_false (by omega)
    by_cases h2 : r < 1
    · have d2 : decide (r < 1) = true := decide_eq_true h2
      clear h1 h2 hc r1 r2
      go_enter Try.func6, Try.ntmps6
      go_wp2_with fail
      refine (cA.out _).mono ?_
      rintro e w1 ⟨rfl, hB⟩
      go_wp2
      go_ret
      exact ⟨rfl, hB⟩
    · have d2 : decide (r < 1) = false := decide_eq_false h2
      obtain ⟨R, rfl⟩ : ∃ I : Nat, r = I := ⟨r.toNat, by omega⟩
      have hR : 1 ≤ R := by omega
      have sA := iS_size c hR
      have hbyte := fun n k (hn : c.size = n) (hk : k < c.size) hp => iS_byte c hR hn hk hp
      obtain ⟨A, hA⟩ : ∃ A, iS c (R : Int) = A := ⟨_, rfl⟩
      have c1 := Lib.hid (fun W => D.inter_as (by omega) r1 r2 hA (p_ok hR) W)
      have cX := fun (n k P : Nat) W (hn : c.size = n) (hk : k < n) (h : pos n R k = P) => D.index_as (i := (k : Int)) (n := (n : Int)) (r := (R : Int)) (k := (P : Int)) (f := 0) (by omega) (by omega) (by omega) (by omega) r1 r2 (h ▸ (ix_ok hR hk).2) (ix_ok hR hk).1 W
      rw [hA] at sA hbyte
      obtain ⟨n, hn⟩ : ∃ n, c.size = n := ⟨_, rfl⟩
      have hn3 : n ≤ 300 := by omega
      have hmk0 := Lib.hid (fun W => make_boolsI W n (by omega))
      have hstep : ∀ k, k < n → ∃ P, pos n R k = P ∧ P < n ∧ ∃ (h1 : P < A.size) (h2 : k < c.size), A[P] = c[k] := by
        intro k hk
        have hlt := pos_lt (n := n) (r := R) (i := k) hR hk
        have hkc : k < c.size := by omega
        refine ⟨_, rfl, hlt, by rw [sA, hn]; exact hlt, hkc, hbyte n k hn hkc _⟩
      have cX2 := fun k P W hk h => cX n k P W hn hk h
      have hnew := fun k (hk : k < n) => mt_new hR hk k (Nat.le_refl k)
      replace hstep := Lib.hid hstep
      replace cX2 := Lib.hid cX2
      replace hnew := Lib.hid hnew
      have hsA : A.size = n := by rw [sA, hn]
      have hnh := Lib.hid hn
      have hsAh := Lib.hid hsA
      clear h1 h2 hc hA sA hbyte cX r1 r2
      go_enter Try.func6, Try.ntmps6
      go_wp2_with fail
      refine (c1.out _).mono ?_
      rintro e w1 ⟨rfl, hB⟩
      obtain ⟨l0, hl0, hmk⟩ := hmk0.out w1
      have hB0 : VAt (w1.alloc (.cells l0.toArray 4)) w1.heap.size (bls (mt n R 0)) := by
        rw [hl0]
        exact blk_vat (World.alloc_heap_new w1 _)
      have hb0 : Below w1.heap.size w1 (w1.alloc (.cells l0.toArray 4)) := (Below.refl _ w1).alloc (Nat.le_refl _) _
      have hs0 : w1.heap.size < (w1.alloc (.cells l0.toArray 4)).heap.size := by simp
      obtain ⟨W0, hW0⟩ : ∃ W0, w1.alloc (.cells l0.toArray 4) = W0 := ⟨_, rfl⟩
      obtain ⟨G, hG⟩ : ∃ G, w1.heap.size = G := ⟨_, rfl⟩
      rw [hW0, hG] at hmk hB0 hb0 hs0
      replace hB0 := Lib.hid hB0
      replace hs0 := Lib.hid hs0
      have hGh := Lib.hid hG
      clear hW0 hl0 hmk0 c1
      go_wp2
      go_loopw [8] (fun x wr => ∃ k : Nat, k ≤ n ∧ x = .int .i64 (k : Int) ∧ Hid (VAt wr G (bls (mt n R k))) ∧ Hid (G < wr.heap.size) ∧ Below G w1 wr) (fun x _ => n - (intOf x).toNat)
      case atStart => exact ⟨0, Nat.zero_le _, rfl, hB0, hs0, hb0⟩
      case round =>
        clear hB0 hs0 hb0 hmk
        obtain ⟨k, hk, rfl, hg, hsz, hb⟩ := hrel
        by_cases hlt : k < n
        · obtain ⟨P, hP, hPn, hPA, hkc, hbe⟩ := hstep.out k hlt
          have cI := Lib.hid (cX2.out k P wr hlt hP)
          have hl : P < (bls (mt n R k)).length := by rw [bls_len, mt_len]; exact hPn
          have hcell := (hg.out P hl).1
          have hfrz := (hg.out P hl).2
          have hv : (bls (mt n R k))[P] = .bool false := by
            have := hnew.out k hlt
            rw [hP] at this
            have h3 : (bls (mt n R k))[P]? = some (.bool false) := by simp [bls, this]
            rw [List.getElem?_eq_getElem hl] at h3
            exact Option.some.inj h3
          rw [hv] at hcell
          have d3 : decide ((k : Int) < (n : Int)) = true := decide_eq_true (by omega)
          have d3' : decide (k < n) = true := decide_eq_true (by omega)
          have d4 : decide ((P : Int) < 0) = false := decide_eq_false (by omega)
          have d5 : decide ((n : Int) ≤ (P : Int)) = false := decide_eq_false (by omega)
          have d5' : decide (n ≤ P) = false := decide_eq_false (by omega)
          have dne : (((A[P]).toNat : Int) != ((c[k]).toNat : Int)) = false := by rw [hbe]; simp
          have dne' : ((A[P]).toNat != (c[k]).toNat) = false := by rw [hbe]; simp
          have k0 : (0 : Int) ≤ (k : Int) := by omega
          have k1 : (k : Int) < (n : Int) := by omega
          have P0 : (0 : Int) ≤ (P : Int) := by omega
          have P1 : (P : Int) < (n : Int) := by omega
          replace hP := Lib.hid hP
          replace hl := Lib.hid hl
          clear hbe hv
          go_wp2_with fail
          refine cI.out.mono ?_
          rintro e w2 ⟨rfl, q, rfl⟩
          clear cI
          go_wp2_with fail
          go_quiet (fail)
          rename_i nq _
          have hgW := (hg.out.drewN q).drewN nq
          have hbW : Below G w1 ((wr.drewN q).drewN nq) := ⟨hb.os, hb.tape, hb.output, hb.size, hb.block⟩
          have hsW : Hid (G < ((wr.drewN q).drewN nq).heap.size) := Lib.hid hsz.out
          have hcW : ((wr.drewN q).drewN nq).cell? ⟨G, P, none⟩ = some (.bool false) := hcell
          have hfW : ((wr.drewN q).drewN nq).frozen? ⟨G, P, none⟩ = false := hfrz
          obtain ⟨W, hW⟩ : ∃ W, (wr.drewN q).drewN nq = W := ⟨_, rfl⟩
          rw [hW] at hgW hbW hsW hcW hfW ⊢
          have hg2 : Hid (VAt (W.setCell ⟨G, P, none⟩ (.bool true)) G (bls (mt n R (k + 1)))) := Lib.hid (by
            have := hgW.set hl.out (.bool true)
            rw [bls_set, ← hP.out] at this
            rw [← hP.out]
            exact this)
          have hb3 := hbW.setCell (p := ⟨G, P, none⟩) (Nat.le_refl G) (.bool true)
          have hs3 : Hid (G < (W.setCell ⟨G, P, none⟩ (.bool true)).heap.size) := Lib.hid (by simpa using hsW.out)
          clear hg hb hsz hcell hfrz hgW hbW hsW hW dne dne' d3 d3' d4 d5 d5'
          go_wp2
          go_roundw
          case rel => exact ⟨k + 1, by omega, by go_num, hg2, hs3, hb3⟩
          case measure => simp [intOf]; omega
        · obtain rfl : k = n := by omega
          have d3 : decide ((k : Int) < (k : Int)) = false := decide_eq_false (by omega)
          have d3' : decide (k < k) = false := decide_eq_false (by omega)
          have hBk := chain hB (show Below w1.heap.size w1 wr by rw [hGh.out]; exact hb)
          clear hg hsz hb
          go_wp2_with (go_at_call 11; refine (cA.out _).mono ?_; rintro e w5 ⟨rfl, hb⟩)
          go_ret
          exact ⟨rfl, chain hBk hb⟩
  · have d1 : decide (300 < c.size) = true := decide_eq_true (by omega)
    have d1' : decide ((300 : Int) < (c.size : Int)) = true := decide_eq_true (by omega)
    clear h1 hc r1 r2
    go_enter Try.func6, Try.ntmps6
    go_wp2_with fail
    refine (cA.out _).mono ?_
    rintro e w1 ⟨rfl, hB⟩
    go_wp2
    go_ret
    exact ⟨rfl, hB⟩
end Go.Proofs.Ythncpflbojoejaa.I11
