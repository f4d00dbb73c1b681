/- The contracts of the reference of layer 9: Encode, Weight. -/
import Derived.Test.YthbhjbbgghpiaaaC9Own1
import Derived.Laws.OwnMore
import Derived.Laws.MakeOwn
import Derived.Laws.BitsAllLaws
namespace Go.Proofs.Ythbhjbbgghpiaaa.C9
open Go.RowKit Mem
set_option linter.unusedVariables false
set_option linter.unusedSimpArgs false

theorem info_byteR : (Try.prog.info? 5).map (fun i => (i.zero, i.size, i.bytes)) = some (some (.int .u8 0), 1, 1) := by kernel_rfl
theorem xor8 : ∀ a b c : Bool, bits .xor .u8 (bits .xor .u8 (bn a : Int) (bn b : Int)) (bn c : Int) = (bn (a ^^ b ^^ c) : Int) := by decide
theorem xor8b : ∀ a b : Bool, bits .xor .u8 (bn a : Int) (bn b : Int) = (bn (a ^^ b) : Int) := by decide
theorem fin_get (N : List Bool) : ∀ k, k ≤ N.length → fin false false (N.take k) = (([false, false] ++ N).getD (k + 1) false, ([false, false] ++ N).getD k false)
  | 0, _ => rfl
  | k + 1, h => by
    have hk : k < N.length := by omega
    rw [List.take_succ_eq_append_getElem hk, fin_snoc, fin_get N k (by omega)]
    have e : ([false, false] ++ N).getD (k + 1 + 1) false = N[k] := by
      show (false :: false :: N).getD (k + 1 + 1) false = _
      simp [List.getD_eq_getElem?_getD, List.getElem?_eq_getElem hk]
    rw [e]
theorem run_snoc (l : List Bool) (u : Bool) : run false false (l ++ [u]) = run false false l ++ out2 (fin false false l).1 (fin false false l).2 u := by
  rw [run_app]
  show _ ++ (out2 _ _ u ++ []) = _
  rw [List.append_nil]
theorem sb_byte (l : List Bool) (k : Nat) (h : k < (sb l).size) : (((sb l)[k]).toNat : Int) = 48 + (bn (l.getD k false) : Int) := by
  have h' : k < l.length := by rw [← sb_size]; exact h
  have e : (sb l)[k] = cell (l.getD k false) := by
    show (cs l).toArray[k]'_ = _
    simp [cs, List.getD_eq_getElem?_getD, List.getElem?_eq_getElem h']
  rw [e]
  cases l.getD k false <;> rfl
theorem two_cells (w : World) (x y : Value) (t : TypeId) : ∀ j u, ([x, y] : List Value)[j]? = some u → (w.alloc (.cells #[x, y] t)).cell? ((⟨w.heap.size, 0, none⟩ : Addr).add j) = some u := by
  intro j u hj
  match j, hj with
  | 0, hj =>
    simp at hj
    subst hj
    rw [add_at]
    exact (two_new w x y t).1
  | 1, hj =>
    simp at hj
    subst hj
    rw [add_at]
    exact (two_new w x y t).2
theorem two_one (k : IntKind) (n m : Int) : ∀ u ∈ ([.int k n, .int k m] : List Value), u.oneCell' = true := by
  intro u hu
  simp at hu
  rcases hu with rfl | rfl <;> rfl
theorem bys_out (s1 s2 u : Bool) (v1 v2 : Nat) (h1 : bn (u ^^ s1 ^^ s2) = v1) (h2 : bn (u ^^ s2) = v2) : ([.int .u8 (48 + (v1 : Int)), .int .u8 (48 + (v2 : Int))] : List Value) = bys (cs (out2 s1 s2 u)) := by
  subst h1 h2
  show _ = ([.int .u8 ((cell (u ^^ s1 ^^ s2)).toNat : Int), .int .u8 ((cell (u ^^ s2)).toNat : Int)] : List Value)
  cases (u ^^ s1 ^^ s2) <;> cases (u ^^ s2) <;> rfl
theorem is48 {c : UInt8} (h : ((c.toNat : Int) == 48) = true) : c = 48 := by
  apply UInt8.toNat_inj.1
  have : ((c.toNat : Int)) = 48 := by simpa using h
  show c.toNat = 48
  omega
theorem is49 {c : UInt8} (h : ((c.toNat : Int) == 49) = true) : c = 49 := by
  apply UInt8.toNat_inj.1
  have : ((c.toNat : Int)) = 49 := by simpa using h
  show c.toNat = 49
  omega
theorem bit_no {c : UInt8} (h : ((c.toNat : Int) == 48) = false) (h' : ((c.toNat : Int) == 49) = false) : bitB c = false := by
  unfold bitB
  have n1 : (c == 48) = false := by
    apply beq_eq_false_iff_ne.2
    rintro rfl
    cases h
  have n2 : (c == 49) = false := by
    apply beq_eq_false_iff_ne.2
    rintro rfl
    cases h'
  rw [n1, n2]
  rfl
theorem ne_yes {c : Int} {n : Int} (h : (c == n) = true) : (c != n) = false := by simp [bne, h]
theorem ne_no {c : Int} {n : Int} (h : (c == n) = false) : (c != n) = true := by simp [bne, h]
set_option maxRecDepth 100000 in
set_option maxHeartbeats 8000000 in
theorem rencode_any (s : ByteArray) (w : World) (hs : s.size ≤ 281474976710656) : Calls Try.prog 13 #[.string s] w (Enco s w) := by
  obtain ⟨i0, hi, hz0, hz1, hz2⟩ := info_parts info_byteR
  by_cases h1 : 65536 < s.size
  · have hq : EncQ s ⟨#[]⟩ 6 := ⟨fun _ => ⟨rfl, rfl⟩, fun h => absurd h (by omega)⟩
    have d0 : decide ((65536 : Int) < (s.size : Int)) = true := decide_eq_true (by omega)
    have d1 : decide (65536 < s.size) = true := decide_eq_true h1
    replace hq := Lib.hid hq
    clear h1
    go_enter Try.func13, Try.ntmps13
    go_wp2
    go_ret2
    exact ⟨_, _, hq.out, rfl, Below.refl _ _⟩
  · have d0 : decide ((65536 : Int) < (s.size : Int)) = false := decide_eq_false (by omega)
    have d1 : decide (65536 < s.size) = false := decide_eq_false h1
    have h6 : s.size ≤ 65536 := by omega
    go_enter Try.func13, Try.ntmps13
    go_wp2
    clear d0 d1 h1 hs
    go_loop [4] (fun i => ∃ k : Nat, k ≤ s.size ∧ i = .int .i64 k ∧ Hid ((s.data.toList.take k).all bitB = true)) (fun i => s.size - (intOf i).toNat)
    case atStart => exact ⟨0, Nat.zero_le _, rfl, Lib.hid rfl⟩
    case round =>
      obtain ⟨k, hk, rfl, hall⟩ := hrel
      by_cases hlt : k < s.size
      · have hn := all_take s bitB k hlt
        rw [hall.out, Bool.true_and] at hn
        rcases h1 : (((s[k]).toNat : Int) == 48) with _ | _
        · have h1' := ne_no h1
          rcases h2 : (((s[k]).toNat : Int) == 49) with _ | _
          · have h2' := ne_no h2
            have hq : EncQ s ⟨#[]⟩ 3 := ⟨fun h => absurd h (by omega), fun _ => ⟨fun _ => ⟨rfl, rfl⟩, fun h => by
              unfold Bits at h
              rw [← List.take_append_drop (k + 1) s.data.toList, List.all_append, hn, bit_no h1 h2] at h
              cases h⟩⟩
            replace hq := Lib.hid hq
            replace hn := Lib.hid hn
            go_wp2
            go_ret2
            exact ⟨_, _, hq.out, rfl, Below.refl _ _⟩
          · have h2' := ne_yes h2
            rw [is49 h2] at hn
            replace hn := Lib.hid hn
            go_wp2
            go_round
            case rel => exact ⟨k + 1, by omega, by go_num, Lib.hid (hn.out.trans rfl)⟩
            case measure => simp [intOf]; omega
        · have h1' := ne_yes h1
          rw [is48 h1] at hn
          replace hn := Lib.hid hn
          go_wp2
          go_round
          case rel => exact ⟨k + 1, by omega, by go_num, Lib.hid (hn.out.trans rfl)⟩
          case measure => simp [intOf]; omega
      · obtain rfl : k = s.size := by omega
        have hbs : Bits s := by
          have e : s.data.toList.take s.size = s.data.toList := List.take_of_length_le (by simp)
          unfold Bits
          rw [← e]
          exact hall.out
        have hq : EncQ s (sb (enc (tb s))) 0 := ⟨fun h => absurd h (by omega), fun _ => ⟨fun h => absurd hbs h, fun _ => ⟨rfl, rfl⟩⟩⟩
        have hsm := sb_tb hbs
        have hml := tb_len s
        obtain ⟨m, hm⟩ : ∃ m, tb s = m := ⟨_, rfl⟩
        rw [hm] at hq hsm hml
        obtain ⟨T1, hT1⟩ : ∃ T, sb ([false, false] ++ m) = T := ⟨_, rfl⟩
        obtain ⟨N, hN⟩ : ∃ N, m ++ [false, false] = N := ⟨_, rfl⟩
        obtain ⟨T, hT⟩ : ∃ T, sb ([false, false] ++ N) = T := ⟨_, rfl⟩
        have hNl : N.length = s.size + 2 := by rw [← hN, List.length_append, hml]; rfl
        have hT1s : T1.size = s.size + 2 := by rw [← hT1, sb_size, List.length_append, hml]; show 2 + _ = _; omega
        have hTs : T.size = s.size + 4 := by rw [← hT, sb_size, List.length_append, hNl]; show 2 + _ = _; omega
        have r1 : ∀ W, (Op.stringOp .add ⟨#[48, 48]⟩ s).run Try.prog W = .ok (.string T1) W := fun W => by
          rw [Go.run_string_add_sum _ _ _ (by show 2 + s.size ≤ _; omega), ← hT1, ← sb_app, hsm]
          rfl
        have r2 : ∀ W, (Op.stringOp .add T1 ⟨#[48, 48]⟩).run Try.prog W = .ok (.string T) W := fun W => by
          rw [Go.run_string_add_sum _ _ _ (by show T1.size + 2 ≤ _; omega), ← hT, ← hT1, ← hN, ← List.append_assoc, ← sb_app ([false, false] ++ m)]
          rfl
        have hget : ∀ (j : Nat) (h : j < T.size), ((T[j]).toNat : Int) = 48 + (bn (([false, false] ++ N).getD j false) : Int) := fun j h => by
          subst hT
          exact sb_byte _ j h
        have hfin := fin_get N
        replace hget := Lib.hid hget
        replace hq := Lib.hid hq
        replace hfin := Lib.hid hfin
        replace hN := Lib.hid hN
        replace hNl := Lib.hid hNl
        obtain ⟨L, hL⟩ : ∃ L, s.size + 4 = L := ⟨_, rfl⟩
        rw [hL] at hTs
        obtain ⟨z, hz⟩ : ∃ z, s.size = z := ⟨_, rfl⟩
        rw [hz] at hL h6
        rw [hz] at hNl
        replace hL := Lib.hid hL
        have hzh := Lib.hid hz
        clear hbs hall hlt hk hsm hml hm hT1 hT hT1s
        go_wp2_with (at_make; refine wpList_make_own _ rfl _ _ 39 rfl w.heap.size 5 i0 (.int .u8 0) 1 Try.underlying39 hi hz0 hz1 _ _ _ (2 * z + 4) rfl (by first | rfl | simp) (by omega) ?b2 ?b3 (Nat.le_refl _) ?_)
        case b2 => first | omega | (rw [hz2]; omega)
        case b3 => unfold maxLen; omega
        intro w0 hown0 hgrow0
        go_wp2
        clear r1 r2
        go_loopw [6, 7] (fun v i wr => ∃ k I : Nat, k ≤ z + 2 ∧ I = k + 2 ∧ i = .int .i64 (I : Int) ∧ wr.ownsRow w.heap.size 5 1 v (2 * k) (bys (cs (run false false (N.take k)))) ∧ Below w.heap.size w wr) (fun _ i _ => z + 4 - (intOf i).toNat)
        case atStart => exact ⟨0, 2, by omega, rfl, rfl, hown0, (Below.refl _ _).grown hgrow0 (Nat.le_refl _) (fun k h => by cases h)⟩
        case round =>
          obtain ⟨k, I, hk, hIk, rfl, hown, hb⟩ := hrel
          clear hown0 hgrow0
          have hLo := hL.out
          by_cases hlt : k < z + 2
          · have hkN : k < N.length := by rw [hNl.out]; exact hlt
            obtain ⟨J, hJ⟩ : ∃ J, k + 1 = J := ⟨_, rfl⟩
            have p0 : I < T.size := by omega
            have p1 : J < T.size := by omega
            have p2 : k < T.size := by omega
            have g0 := hget.out I p0
            have g1 := hget.out J p1
            have g2 := hget.out k p2
            have hf := hfin.out k (by omega)
            rw [hJ] at hf
            have hu : ([false, false] ++ N).getD I false = N[k] := by
              rw [hIk]
              show (false :: false :: N).getD (k + 2) false = _
              simp [List.getD_eq_getElem?_getD, List.getElem?_eq_getElem hkN]
            rw [hu] at g0
            have hsn := run_snoc (N.take k) N[k]
            rw [← List.take_succ_eq_append_getElem hkN, hf] at hsn
            obtain ⟨u, hu'⟩ : ∃ u, N[k] = u := ⟨_, rfl⟩
            obtain ⟨s1, hs1⟩ : ∃ u, ([false, false] ++ N).getD J false = u := ⟨_, rfl⟩
            obtain ⟨s2, hs2⟩ : ∃ u, ([false, false] ++ N).getD k false = u := ⟨_, rfl⟩
            rw [hu'] at g0 hsn
            rw [hs1] at g1 hsn
            rw [hs2] at g2 hsn
            replace hsn : run false false (N.take (k + 1)) = run false false (N.take k) ++ out2 s1 s2 u := hsn
            have x1 := xor8 u s1 s2
            have x2 := xor8b u s2
            have l0 := bn_le u
            have l1 := bn_le s1
            have l2 := bn_le s2
            have l3 := bn_le (u ^^ s1 ^^ s2)
            have l4 := bn_le (u ^^ s2)
            obtain ⟨d0, hd0⟩ : ∃ n, bn u = n := ⟨_, rfl⟩
            obtain ⟨d1, hd1⟩ : ∃ n, bn s1 = n := ⟨_, rfl⟩
            obtain ⟨d2, hd2⟩ : ∃ n, bn s2 = n := ⟨_, rfl⟩
            obtain ⟨v1, hv1⟩ : ∃ n, bn (u ^^ s1 ^^ s2) = n := ⟨_, rfl⟩
            obtain ⟨v2, hv2⟩ : ∃ n, bn (u ^^ s2) = n := ⟨_, rfl⟩
            have hbo := bys_out s1 s2 u v1 v2 hv1 hv2
            rw [hd0] at g0 x1 x2 l0
            rw [hd1] at g1 x1 l1
            rw [hd2] at g2 x1 x2 l2
            rw [hv1] at x1 l3
            rw [hv2] at x2 l4
            have hrow : bys (cs (run false false (N.take k))) ++ [.int .u8 (48 + (v1 : Int)), .int .u8 (48 + (v2 : Int))] = bys (cs (run false false (N.take (k + 1)))) := by
              rw [hsn, cs_app, bys_append, hbo]
            replace hrow := Lib.hid hrow
            have i1 : (I : Int) - 1 = (J : Int) := by omega
            have i2 : (I : Int) - 2 = (k : Int) := by omega
            have b1 : (0 : Int) ≤ (I : Int) := by omega
            have b2 : (I : Int) < (L : Int) := by omega
            have b3 : (0 : Int) ≤ (J : Int) := by omega
            have b4 : (J : Int) < (L : Int) := by omega
            have b5 : (0 : Int) ≤ (k : Int) := by omega
            have b6 : (k : Int) < (L : Int) := by omega
            have c0 : 48 + (d0 : Int) - 48 = (d0 : Int) := by omega
            have c1 : 48 + (d1 : Int) - 48 = (d1 : Int) := by omega
            have c2 : 48 + (d2 : Int) - 48 = (d2 : Int) := by omega
            have dl : decide ((I : Int) < (L : Int)) = true := decide_eq_true b2
            replace hIk := Lib.hid hIk
            replace hLo := Lib.hid hLo
            clear hJ hf hu hsn hu' hs1 hs2 hd0 hd1 hd2 hv1 hv2 hbo hkN
            go_wp2
            go_quiet (fail)
            obtain ⟨W0, hW0⟩ : ∃ W0, wr.drewN nq = W0 := ⟨_, rfl⟩
            have hownW : W0.ownsRow w.heap.size 5 1 u6 (2 * k) (bys (cs (run false false (N.take k)))) := by rw [← hW0]; exact hown
            have hbW : Below w.heap.size w W0 := by rw [← hW0]; exact chainN hb nq
            rw [hW0]
            clear hW0 hown hb g0 g1 g2 b1 b2 b3 b4 b5 b6 i1 i2 c0 c1 c2
            go_wp2_with (at_builtin; refine wpList_append_own _ rfl _ _ 39 rfl w.heap.size 5 i0 (.int .u8 0) 1 1 Try.underlying39 hi hz0 hz1 hz2 rfl (by decide) _ _ _ rfl (hownW.alloc _) ⟨W0.heap.size, 0, none⟩ 2 2 [.int .u8 (48 + (v1 : Int)), .int .u8 (48 + (v2 : Int))] rfl rfl (two_cells _ _ _ _) (two_one _ _ _) ?c3 ?c4 ?c5 ?_)
            case c3 => unfold maxLen; omega
            case c4 => omega
            case c5 => have := hbW.size; simp; omega
            intro v' w1 hown' hgrow _
            rw [hrow.out] at hown'
            have hb' : Below w.heap.size w w1 := (hbW.alloc hbW.size _).grown hgrow (by have := hbW.size; simp; omega) (fun j hj => (hownW.lt j hj).1)
            have hIk' := hIk.out
            have hI7 : I ≤ 70000 := by omega
            replace hIk' := Lib.hid hIk'
            clear hownW hbW hgrow x1 x2 hrow
            go_wp2
            go_roundw
            case rel => exact ⟨k + 1, I + 1, by omega, by have := hIk'.out; omega, by go_num, by rw [show 2 * (k + 1) = 2 * k + 2 by omega]; exact hown', hb'⟩
            case measure => have := hIk'.out; simp [intOf]; omega
          · obtain rfl : k = z + 2 := by omega
            have hall : N.take (z + 2) = N := List.take_of_length_le (by rw [hNl.out]; exact Nat.le_refl _)
            rw [hall] at hown
            have hconv := conv_own (dst := 9) Try.underlying39 Try.underlying5 Try.underlying9 hown
            have hIL : I = L := by omega
            subst hIL
            have dl : decide ((I : Int) < (I : Int)) = false := decide_eq_false (by omega)
            have hend : sb (enc m) = ⟨(cs (run false false N)).toArray⟩ := by rw [← hN.out]; rfl
            have hq2 := hq.out
            rw [hend] at hq2
            replace hq2 := Lib.hid hq2
            replace hIk := Lib.hid hIk
            clear hq hend hall hLo
            go_wp2
            go_ret2
            exact ⟨_, _, hq2.out, rfl, hb⟩
theorem wgt_snoc (l : List Bool) (b : Bool) : wgt (l ++ [b]) = wgt l + bn b := by
  rw [wgt_app]
  cases b <;> rfl
set_option maxRecDepth 100000 in
set_option maxHeartbeats 4000000 in
theorem rweight_any (s : ByteArray) (w : World) (hs : s.size ≤ 281474976710656) : Calls Try.prog 15 #[.string s] w (Wght s w) := by
  have c1 := Lib.hid (rencode_any s w hs)
  go_enter Try.func15, Try.ntmps15
  go_wp2_with fail
  refine c1.out.mono ?_
  rintro e w1 ⟨S, k, hq, rfl, hb⟩
  have hl : ∃ l : List Bool, S = sb l ∧ l.length ≤ 131076 ∧ WgtQ s (wgt l : Int) k := by
    by_cases h1 : 65536 < s.size
    · obtain ⟨rfl, rfl⟩ := hq.1 h1
      exact ⟨[], rfl, by decide, ⟨fun _ => ⟨rfl, rfl⟩, fun h => absurd h1 (by omega)⟩⟩
    · by_cases hb : Bits s
      · obtain ⟨rfl, rfl⟩ := (hq.2 (by omega)).2 hb
        exact ⟨_, rfl, by rw [enc_len, tb_len]; omega, ⟨fun h => absurd h h1, fun _ => ⟨fun h => absurd hb h, fun _ => ⟨rfl, rfl⟩⟩⟩⟩
      · obtain ⟨rfl, rfl⟩ := (hq.2 (by omega)).1 hb
        exact ⟨[], rfl, by decide, ⟨fun h => absurd h h1, fun _ => ⟨fun _ => ⟨rfl, rfl⟩, fun h => absurd h hb⟩⟩⟩
  obtain ⟨l, rfl, hll, hwq⟩ := hl
  have hsz := sb_size l
  have hget := Lib.hid (fun (j : Nat) (h : j < (sb l).size) => sb_byte l j h)
  obtain ⟨S, hS⟩ : ∃ S, sb l = S := ⟨_, rfl⟩
  rw [hS] at hsz hget ⊢
  obtain ⟨L, hL⟩ : ∃ L, l.length = L := ⟨_, rfl⟩
  rw [hL] at hsz hll
  replace hwq := Lib.hid hwq
  replace hL := Lib.hid hL
  clear hq c1 hS
  go_wp2
  go_loopw [6, 7] (fun n i wr => ∃ j c : Nat, j ≤ L ∧ i = .int .i64 (j : Int) ∧ n = .int .i64 (c : Int) ∧ c ≤ j ∧ Hid (c = wgt (l.take j)) ∧ wr = w1) (fun _ i _ => L - (intOf i).toNat)
  case atStart => exact ⟨0, 0, Nat.zero_le _, rfl, rfl, Nat.le_refl _, Lib.hid rfl, rfl⟩
  case round =>
    obtain ⟨j, c, hj, rfl, rfl, hc, hcw, rfl⟩ := hrel
    by_cases hlt : j < L
    · have hjl : j < l.length := by rw [hL.out]; exact hlt
      have hg := hget.out j (by omega)
      have hw := wgt_snoc (l.take j) l[j]
      rw [← List.take_succ_eq_append_getElem hjl, ← hcw.out] at hw
      rw [show l.getD j false = l[j] by simp [List.getD_eq_getElem?_getD, List.getElem?_eq_getElem hjl]] at hg
      obtain ⟨b, hb'⟩ : ∃ b, l[j] = b := ⟨_, rfl⟩
      rw [hb'] at hw hg
      have dl : decide ((j : Int) < (L : Int)) = true := decide_eq_true (by omega)
      have i0 : (0 : Int) ≤ (j : Int) := by omega
      have i1 : (j : Int) < (L : Int) := by omega
      cases b
      · replace hg : ((S[j]).toNat : Int) = 48 := hg
        replace hw := Lib.hid (show c = wgt (l.take (j + 1)) from hw.symm)
        clear hb'
        go_wp2
        go_roundw
        case rel => exact ⟨j + 1, c, by omega, by go_num, rfl, by omega, hw, trivial⟩
        case measure => simp [intOf]; omega
      · replace hg : ((S[j]).toNat : Int) = 49 := hg
        replace hw := Lib.hid (show c + 1 = wgt (l.take (j + 1)) from hw.symm)
        clear hb'
        go_wp2
        go_roundw
        case rel => exact ⟨j + 1, c + 1, by omega, by go_num, by go_num, by omega, hw, trivial⟩
        case measure => simp [intOf]; omega
    · obtain rfl : j = L := by omega
      have dl : decide ((j : Int) < (j : Int)) = false := decide_eq_false (by omega)
      have he : (c : Int) = (wgt l : Int) := by
        have := hcw.out
        rw [List.take_of_length_le (by rw [hL.out]; exact Nat.le_refl _)] at this
        omega
      have hq2 := hwq.out
      rw [← he] at hq2
      replace hq2 := Lib.hid hq2
      clear he
      go_wp2
      go_ret2
      exact ⟨_, _, hq2.out, rfl, hb⟩
end Go.Proofs.Ythbhjbbgghpiaaa.C9
