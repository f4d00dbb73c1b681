/- The contracts of the landed candidate and Extract. -/
import Derived.Test.YtmkmikegddafdaaC9Own3
namespace Go.Proofs.Ytmkmikegddafdaa.C9
open Go.RowKit Go.Shelf Mem
set_option linter.unusedVariables false
set_option linter.unusedSimpArgs false

theorem info_byte9 : (Try.prog.info? 5).map (fun i => (i.zero, i.size, i.bytes)) = some (some (.int .u8 0), 1, 1) := by kernel_rfl
theorem make_bytes (w : World) (n : Nat) (h : n ≤ 1000000) : (Instr.makeSlice 31 (.int .i64 (n : Int)) (.int .i64 (n : Int))).run Try.prog w = .ok (.slice (some ⟨w.heap.size, 0, none⟩) n n) (w.alloc (.cells (madeCells #[.int .u8 0] n) 5)) := by
  obtain ⟨i0, hi, hz0, hz1, hz2⟩ := info_parts info_byte9
  have hr := run_make (P := Try.prog) w 31 5 i0 (.int .u8 0) Try.underlying31 hi hz0 .i64 .i64 (n : Int) (n : Int) (by omega) (Int.le_refl _) (by rw [hz2]; omega) (by omega)
  rw [hz1, Nat.mul_one, show (Value.int .u8 0).cells = #[.int .u8 0] from rfl] at hr
  simp only [Int.toNat_natCast] at hr
  exact hr
theorem bytes_at (w : World) (n : Nat) (h : n ≤ 1000000) : BAt (w.alloc (.cells (madeCells #[.int .u8 0] n) 5)) w.heap.size (List.replicate n 0) := by
  have hz := World.ownsRow_lit (base := w.heap.size) (e := 5) (size := 1) w (madeCells #[.int .u8 0] n) n (Nat.le_refl _) (by unfold maxLen; omega) (by rw [← Array.length_toList, toList_madeCells_one]; simp)
  rw [toList_madeCells_one] at hz
  have hv := VAt.of_own hz
  intro j hj
  have hj' : j < n := by simpa using hj
  have := hv j (by simpa using hj')
  simpa using this
/-- The bits read so far, and zeros. -/
def rowk (p : List Bool) (n : Nat) : List UInt8 := cs p ++ List.replicate (n - p.length) 0
theorem rowk_nil (n : Nat) : rowk [] n = List.replicate n 0 := rfl
theorem rowk_len (p : List Bool) (n : Nat) (h : p.length ≤ n) : (rowk p n).length = n := by
  unfold rowk
  rw [List.length_append, cs_len, List.length_replicate]
  omega
theorem rowk_set (p : List Bool) (n : Nat) (h : p.length < n) (b : Bool) : (rowk p n).set p.length (cell b) = rowk (p ++ [b]) n := by
  unfold rowk
  have e : n - p.length = (n - (p.length + 1)) + 1 := by omega
  rw [List.set_append, if_neg (by rw [cs_len]; omega), cs_len, Nat.sub_self, e, List.replicate_succ, List.set_cons_zero, cs_app, List.length_append, List.length_singleton, List.append_assoc]
  rfl
theorem rowk_full (p : List Bool) (n : Nat) (h : p.length = n) : rowk p n = cs p := by
  unfold rowk
  rw [h, Nat.sub_self, List.replicate_zero, List.append_nil]
theorem str_beq_no {a b : ByteArray} (h : ¬ a = b) : (a.toList == b.toList) = false := beq_eq_false_iff_ne.2 fun e => h (by
  rw [str_toList, str_toList] at e
  exact ByteArray.ext (Array.toList_inj.1 e))
theorem str_beq_yes {a b : ByteArray} (h : a = b) : (a.toList == b.toList) = true := by
  rw [h]
  exact beq_self_eq_true _
set_option maxRecDepth 100000 in
set_option maxHeartbeats 4000000 in
theorem candidate_own (c : ByteArray) (n : Nat) (w : World) (hn : c.size = 2 * n + 4) (hn6 : n ≤ 1000000) :
    Calls Try.prog 39 #[.string c] w fun e w' => ∃ p : List Bool, p.length = n ∧ Reads c p ∧ e = .returned (.string (sb p)) ∧ Below w.heap.size w w' := by
  have hmk := make_bytes w n hn6
  have hat := bytes_at w n hn6
  rw [← rowk_nil] at hat
  have hcn : (c.size : Int) = 2 * (n : Int) + 4 := by omega
  have q1 : (c.size : Int) / 2 - 2 = (n : Int) := by omega
  have q2 : c.size / 2 = n + 2 := by omega
  have q3 : (c.size : Int) / 2 = (n : Int) + 2 := by omega
  have hB0 : Below w.heap.size w (w.alloc (.cells (madeCells #[.int .u8 0] n) 5)) := (Below.refl _ w).alloc (Nat.le_refl _) _
  have hcn' := Lib.hid hcn
  have hnh := Lib.hid hn
  replace hat := Lib.hid hat
  clear hcn hn
  go_enter Try.func39, Try.ntmps39
  go_wp2
  clear hmk q1 q2 q3
  go_loopw [4, 16] (fun st i wr => ∃ p : List Bool, p.length ≤ n ∧ i = .int .i64 (p.length : Int) ∧ st = .int .i64 (stN (fin false false p).1 (fin false false p).2 : Int) ∧ Hid (BAt wr w.heap.size (rowk p n)) ∧ Hid (Reads c p) ∧ w.heap.size < wr.heap.size ∧ Below w.heap.size w wr)
    (fun _ i _ => n - (intOf i).toNat)
  case atStart => exact ⟨[], Nat.zero_le _, rfl, rfl, hat, Lib.hid (Reads.nil c), by simp, hB0⟩
  case round =>
    obtain ⟨p, hp, rfl, rfl, hA, hR, hlt0, hb⟩ := hrel
    clear hat hB0
    obtain ⟨k, hk⟩ : ∃ k, p.length = k := ⟨_, rfl⟩
    rw [hk] at hp ⊢
    by_cases hlt : k < n
    · have hrs := fun b => rowk_set p n (by rw [hk]; exact hlt) b
      rw [hk] at hrs
      have hrl := rowk_len p n (by rw [hk]; exact hp)
      have hstep := fun b => hR.out.step (b := b) hnh.out (by rw [hk]; exact hlt)
      rw [hk] at hstep
      have hfs := fun b => fin_snoc p b false false
      have cn := fun u W => next_at (fin false false p).1 (fin false false p).2 u W
      obtain ⟨s1, hs1⟩ : ∃ s, (fin false false p).1 = s := ⟨_, rfl⟩
      obtain ⟨s2, hs2⟩ : ∃ s, (fin false false p).2 = s := ⟨_, rfl⟩
      rw [hs1, hs2] at cn hstep ⊢
      rw [hs1] at hfs
      have hst3 : stN s1 s2 ≤ 3 := by cases s1 <;> cases s2 <;> decide
      have c0 := cn false
      have c1 := cn true
      rw [show (bn false : Int) = 0 from rfl] at c0
      rw [show (bn true : Int) = 1 from rfl] at c1
      have hP0 : sb (two (false ^^ s1 ^^ s2, false ^^ s2)) = sb (out2 s1 s2 false) := rfl
      rw [hP0] at c0
      obtain ⟨P0, hP⟩ : ∃ P, sb (out2 s1 s2 false) = P := ⟨_, rfl⟩
      obtain ⟨P1, hP1⟩ : ∃ P, sb (two (true ^^ s1 ^^ s2, true ^^ s2)) = P := ⟨_, rfl⟩
      rw [hP] at c0 hstep
      rw [hP1] at c1
      obtain ⟨st, hst⟩ : ∃ z, stN s1 s2 = z := ⟨_, rfl⟩
      obtain ⟨t0, ht0⟩ : ∃ z, stN false s1 = z := ⟨_, rfl⟩
      obtain ⟨t1, ht1⟩ : ∃ z, stN true s1 = z := ⟨_, rfl⟩
      rw [hst, ht0] at c0
      rw [hst, ht1] at c1
      rw [hst] at hst3 ⊢
      have hf0 : stN (fin false false (p ++ [false])).1 (fin false false (p ++ [false])).2 = t0 := by rw [hfs]; exact ht0
      have hf1 : stN (fin false false (p ++ [true])).1 (fin false false (p ++ [true])).2 = t1 := by rw [hfs]; exact ht1
      have hl1 : ∀ b, (p ++ [b]).length = k + 1 := fun b => by rw [List.length_append, hk]; rfl
      replace c0 := Lib.hid c0
      replace c1 := Lib.hid c1
      replace hf0 := Lib.hid hf0
      replace hf1 := Lib.hid hf1
      replace hl1 := Lib.hid hl1
      replace hrs := Lib.hid hrs
      have hI0 : (0 : Int) ≤ (k : Int) := by omega
      have hI1 : (k : Int) < (n : Int) := by omega
      have hcI := hcn'.out
      have hcN := hnh.out
      obtain ⟨A, hA1⟩ : ∃ A, k * 2 = A := ⟨_, rfl⟩
      obtain ⟨B, hB1⟩ : ∃ B, (k + 1) * 2 = B := ⟨_, rfl⟩
      have a1 : (k : Int) * 2 = (A : Int) := by omega
      have a2 : ((k : Int) + 1) * 2 = (B : Int) := by omega
      have a3 : (A : Int) ≤ (B : Int) := by omega
      have a4 : (B : Int) ≤ (c.size : Int) := by omega
      have a5 : A ≤ B := by omega
      have a6 : B ≤ c.size := by omega
      have a7 : (0 : Int) ≤ (A : Int) := by omega
      have a8 : IntKind.i64.wrap (A : Int) = (A : Int) := IntWalk.i64_in _ (by omega)
      have a9 : IntKind.i64.wrap (B : Int) = (B : Int) := IntWalk.i64_in _ (by omega)
      rw [hA1, hB1] at hstep
      obtain ⟨E, hE⟩ : ∃ E, c.extract A B = E := ⟨_, rfl⟩
      rw [hE] at hstep
      clear hcI hcN hA1 hB1 hs1 hs2 hfs hst ht0 ht1 hP hP1 cn hP0
      by_cases hPE : P0 = E
      · have hR1 := Lib.hid (hstep false ⟨fun _ => hPE.symm, fun _ => rfl⟩)
        have d1 := str_beq_yes hPE
        replace hPE := Lib.hid hPE
        clear hstep
        go_wp2_with fail
        refine (c0.out _).mono ?_
        rintro e w1 ⟨rfl, hbA⟩
        have hbb := chain hb hbA
        have hA2 := hA.out.below hbA hlt0
        have hck := (hA2 k (by rw [hrl]; exact hlt))
        have hcf := hck.2
        have hcc := hck.1
        have hset := hA2.set (k := k) (by rw [hrl]; exact hlt) (cell false)
        rw [hrs.out, show ((cell false).toNat : Int) = 48 from rfl] at hset
        have hb3 := hbb.setCell (p := ⟨w.heap.size, k, none⟩) (Nat.le_refl _) (.int .u8 48)
        have hlt3 : w.heap.size < (w1.setCell ⟨w.heap.size, k, none⟩ (.int .u8 48)).heap.size := Nat.lt_of_lt_of_le (Nat.lt_of_lt_of_le hlt0 hbA.size) (by simp)
        replace hset := Lib.hid hset
        have hset := hset
        clear hA hA2 hck hbA
        go_wp2
        go_roundw
        case rel => exact ⟨p ++ [false], by rw [hl1.out]; omega, by rw [hl1.out]; go_num, by rw [hf0.out], hset, hR1, hlt3, hb3⟩
        case measure => simp [intOf]; omega
      · have hR1 := Lib.hid (hstep true ⟨fun e => Bool.noConfusion e, fun e => absurd e.symm hPE⟩)
        have d1 := str_beq_no hPE
        replace hPE := Lib.hid hPE
        clear hstep
        go_wp2_with fail
        refine (c0.out _).mono ?_
        rintro e w0 ⟨rfl, hbA0⟩
        have hbb0 := chain hb hbA0
        go_wp2_with fail
        refine (c1.out _).mono ?_
        rintro e w1 ⟨rfl, hbA1⟩
        have hbb := chain hbb0 hbA1
        have hbA := chain hbA0 hbA1
        clear hbA0 hbA1 hbb0
        have hA2 := hA.out.below hbA hlt0
        have hck := (hA2 k (by rw [hrl]; exact hlt))
        have hcf := hck.2
        have hcc := hck.1
        have hset := hA2.set (k := k) (by rw [hrl]; exact hlt) (cell true)
        rw [hrs.out, show ((cell true).toNat : Int) = 49 from rfl] at hset
        have hb3 := hbb.setCell (p := ⟨w.heap.size, k, none⟩) (Nat.le_refl _) (.int .u8 49)
        have hlt3 : w.heap.size < (w1.setCell ⟨w.heap.size, k, none⟩ (.int .u8 49)).heap.size := Nat.lt_of_lt_of_le (Nat.lt_of_lt_of_le hlt0 hbA.size) (by simp)
        replace hset := Lib.hid hset
        have hset := hset
        clear hA hA2 hck hbA
        go_wp2
        go_roundw
        case rel => exact ⟨p ++ [true], by rw [hl1.out]; omega, by rw [hl1.out]; go_num, by rw [hf1.out], hset, hR1, hlt3, hb3⟩
        case measure => simp [intOf]; omega
    · obtain rfl : k = n := by omega
      rw [rowk_full p k hk] at hA
      have hcv := hA.out.conv (P := Try.prog) (cap := k) (n := k) (dst := 9) (by rw [cs_len]; exact hk) Try.underlying31 Try.underlying5 Try.underlying9
      have hd : decide ((k : Int) < (k : Int)) = false := decide_eq_false (by omega)
      have hkh := Lib.hid hk
      clear hk hA
      go_wp2
      go_ret
      exact ⟨p, hkh.out, hR.out, rfl, hb⟩
theorem Enco.good {p : List Bool} {w w' : World} {e : Ending} (h : Enco (sb p) w e w') (hp : p.length ≤ 65536) : e = .returned (.tuple #[.string (sb (enc p)), .int .i64 0]) ∧ Below w.heap.size w w' := by
  obtain ⟨S, k, hq, rfl, hb⟩ := h
  obtain ⟨rfl, rfl⟩ := hq.sb hp
  exact ⟨rfl, hb⟩
set_option maxRecDepth 100000 in
set_option maxHeartbeats 4000000 in
theorem extract_own (c : ByteArray) (w : World) (hc : c.size ≤ 100000) : Calls Try.prog 22 #[.string c] w (Extr c w) := by
  have c1 := consists_cells c w (by omega)
  cases hb : c.data.toList.all okC
  · have hq : ExtQ c ⟨#[]⟩ 3 := ⟨fun _ => ⟨rfl, rfl⟩, fun h => by rw [hb] at h; cases h⟩
    rw [hb] at c1
    replace hq := Lib.hid hq
    replace c1 := Lib.hid c1
    clear hb
    go_enter Try.func22, Try.ntmps22
    go_wp2_with fail
    refine c1.out.mono ?_
    rintro e w1 ⟨rfl, rfl⟩
    go_wp2
    go_ret2
    exact ⟨_, _, hq.out, rfl, Below.refl _ _⟩
  · rw [hb] at c1
    replace c1 := Lib.hid c1
    by_cases hodd : c.size % 2 = 1
    · have hq : ExtQ c ⟨#[]⟩ 4 := ⟨fun h => (by rw [hb] at h; cases h), fun _ => ⟨fun _ => ⟨rfl, rfl⟩, fun h => by omega⟩⟩
      replace hq := Lib.hid hq
      have q1 : (c.size : Int) % 2 = 1 := by omega
      clear hb
      go_enter Try.func22, Try.ntmps22
      go_wp2_with fail
      refine c1.out.mono ?_
      rintro e w1 ⟨rfl, rfl⟩
      go_wp2
      go_ret2
      exact ⟨_, _, hq.out, rfl, Below.refl _ _⟩
    · have q1 : (c.size : Int) % 2 = 0 := by omega
      have q1' : c.size % 2 = 0 := by omega
      by_cases hsh : c.size < 4
      · have hq : ExtQ c ⟨#[]⟩ 4 := ⟨fun h => (by rw [hb] at h; cases h), fun _ => ⟨fun _ => ⟨rfl, rfl⟩, fun h => by omega⟩⟩
        replace hq := Lib.hid hq
        have d1 : decide (c.size < 4) = true := decide_eq_true hsh
        have d2 : decide ((c.size : Int) < 4) = true := decide_eq_true (by omega)
        clear hb hodd hsh
        go_enter Try.func22, Try.ntmps22
        go_wp2_with fail
        refine c1.out.mono ?_
        rintro e w1 ⟨rfl, rfl⟩
        go_wp2
        go_ret2
        exact ⟨_, _, hq.out, rfl, Below.refl _ _⟩
      · obtain ⟨n, hn⟩ : ∃ n, c.size = 2 * n + 4 := ⟨(c.size - 4) / 2, by omega⟩
        have d1 : decide (c.size < 4) = false := decide_eq_false hsh
        have d2 : decide ((c.size : Int) < 4) = false := decide_eq_false (by omega)
        have c2 := Lib.hid (candidate_own c n w hn (by omega))
        have hyes : ∀ p : List Bool, p.length = n → c = sb (enc p) → ExtQ c (sb p) 0 := fun p hp he => ⟨fun h => (by rw [hb] at h; cases h), fun _ => ⟨fun h => by omega, fun _ => ⟨fun l hl => by
          have := hl.only (l := l) ⟨by omega, he⟩
          rw [this]
          exact ⟨rfl, rfl⟩, fun h => absurd (⟨by omega, he⟩ : CodeOf c p) (h p)⟩⟩⟩
        have hno : ∀ p : List Bool, p.length = n → Reads c p → ¬ c = sb (enc p) → ExtQ c ⟨#[]⟩ 11 := fun p hp hr he => ⟨fun h => (by rw [hb] at h; cases h), fun _ => ⟨fun h => by omega, fun _ => ⟨fun l hl => by
          have hll : l.length = n := by
            have := congrArg ByteArray.size hl.eq
            rw [sb_size, enc_len] at this
            omega
          have := hr.whole hl.eq (by omega)
          rw [this] at he
          exact absurd hl.eq he, fun _ => ⟨rfl, rfl⟩⟩⟩⟩
        have hn6 : n ≤ 65536 := by omega
        replace hyes := Lib.hid hyes
        replace hno := Lib.hid hno
        replace hn := Lib.hid hn
        clear hb hodd hsh hc
        go_enter Try.func22, Try.ntmps22
        go_wp2_with fail
        refine c1.out.mono ?_
        rintro e w1 ⟨rfl, rfl⟩
        go_wp2_with fail
        refine c2.out.mono ?_
        rintro e w1 ⟨p, hp, hr, rfl, hb⟩
        have c3 := Lib.hid ((encode_own (sb p) w1 (by rw [sb_size]; omega)).mono fun e w' h => h.good (by omega))
        have hy := hyes.out p hp
        have hnn := hno.out p hp hr
        obtain ⟨Z, hZ⟩ : ∃ Z, sb (enc p) = Z := ⟨_, rfl⟩
        obtain ⟨P, hP⟩ : ∃ P, sb p = P := ⟨_, rfl⟩
        rw [hZ, hP] at c3 hy
        rw [hZ] at hnn
        rw [hP]
        clear hZ hP hr c1 c2
        by_cases hcz : Z = c
        · have hq := Lib.hid (hy hcz.symm)
          have d3 := str_beq_yes hcz
          clear hy hnn hcz
          go_wp2_with fail
          refine c3.out.mono ?_
          rintro e w2 ⟨rfl, hb2⟩
          go_wp2
          go_ret2
          exact ⟨_, _, hq.out, rfl, chain hb hb2⟩
        · have hq := Lib.hid (hnn fun e => hcz e.symm)
          have d3 := str_beq_no hcz
          clear hy hnn hcz
          go_wp2_with fail
          refine c3.out.mono ?_
          rintro e w2 ⟨rfl, hb2⟩
          go_wp2
          go_ret2
          exact ⟨_, _, hq.out, rfl, chain hb hb2⟩
end Go.Proofs.Ytmkmikegddafdaa.C9
