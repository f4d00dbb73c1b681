/- Facts and contracts that the walks of this layer use, merged: C9Ref2, C9Ref3. -/
import Derived.Test.YtiodkllckcpinaaGreatDoorM14AB
import Derived.Laws.OwnMore
import Derived.Laws.MakeOwn
import Derived.Laws.BitsAllLaws
import Derived.Test.YtiodkllckcpinaaGreatDoorM14AC
import Derived.Deep.AppendLies
import Derived.Deep.RegionHeld3
set_option linter.unusedVariables false
set_option linter.unusedSimpArgs false
set_option maxRecDepth 100000
namespace Go.Proofs.YtiodkllckcpinaaGreatDoor
namespace C9
open Go.RowKit Mem

theorem info_byteR : (Tryz.prog.info? 5).map (fun i => (i.zero, i.size, i.bytes)) = some (some (.int .u8 0), 1, 1) := by kernel_rfl
theorem xor8 : ∀ a b c : Bool, bits .xor .u8 (bits .xor .u8 (bn a : Int) (bn b : Int)) (bn c : Int) = (bn (a ^^ b ^^ c) : Int) := by decide
theorem xor8b : ∀ a b : Bool, bits .xor .u8 (bn a : Int) (bn b : Int) = (bn (a ^^ b) : Int) := by decide
theorem fin_get (N : List Bool) : ∀ k, k ≤ N.length → fin false false (N.take k) = (([false, false] ++ N).getD (k + 1) false, ([false, false] ++ N).getD k false)
 | 0, _ => rfl
 | k + 1, h => by
  have hk : k < N.length := by omega
  rw [List.take_succ_eq_append_getElem hk, fin_snoc, fin_get N k (by omega)]
  have e : ([false, false] ++ N).getD (k + 1 + 1) false = N[k] := by
   show (false :: false :: N).getD (k + 1 + 1) false = _
   simp [List.getD_eq_getElem?_getD, List.getElem?_eq_getElem hk]
  rw [e]
theorem run_snoc (l : List Bool) (u : Bool) : run false false (l ++ [u]) = run false false l ++ out2 (fin false false l).1 (fin false false l).2 u := by
 rw [run_app]
 show _ ++ (out2 _ _ u ++ []) = _
 rw [List.append_nil]
theorem sb_byte (l : List Bool) (k : Nat) (h : k < (sb l).size) : (((sb l)[k]).toNat : Int) = 48 + (bn (l.getD k false) : Int) := by
 have h' : k < l.length := by rw [← sb_size]; exact h
 have e : (sb l)[k] = cell (l.getD k false) := by
  show (cs l).toArray[k]'_ = _
  simp [cs, List.getD_eq_getElem?_getD, List.getElem?_eq_getElem h']
 rw [e]
 cases l.getD k false <;> rfl
theorem two_cells (w : World) (x y : Value) (t : TypeId) : ∀ j u, ([x, y] : List Value)[j]? = some u → (w.alloc (.cells #[x, y] t)).cell? ((⟨w.heap.size, 0, none⟩ : Addr).add j) = some u := by
 intro j u hj
 match j, hj with
 | 0, hj =>
  simp at hj
  subst hj
  rw [add_at]
  exact (two_new w x y t).1
 | 1, hj =>
  simp at hj
  subst hj
  rw [add_at]
  exact (two_new w x y t).2
theorem two_one (k : IntKind) (n m : Int) : ∀ u ∈ ([.int k n, .int k m] : List Value), u.oneCell' = true := by
 intro u hu
 simp at hu
 rcases hu with rfl | rfl <;> rfl
theorem bys_out (s1 s2 u : Bool) (v1 v2 : Nat) (h1 : bn (u ^^ s1 ^^ s2) = v1) (h2 : bn (u ^^ s2) = v2) : ([.int .u8 (48 + (v1 : Int)), .int .u8 (48 + (v2 : Int))] : List Value) = bys (cs (out2 s1 s2 u)) := by
 subst h1 h2
 show _ = ([.int .u8 ((cell (u ^^ s1 ^^ s2)).toNat : Int), .int .u8 ((cell (u ^^ s2)).toNat : Int)] : List Value)
 cases (u ^^ s1 ^^ s2) <;> cases (u ^^ s2) <;> rfl
theorem is48 {c : UInt8} (h : ((c.toNat : Int) == 48) = true) : c = 48 := by
 apply UInt8.toNat_inj.1
 have : ((c.toNat : Int)) = 48 := by simpa using h
 show c.toNat = 48
 omega
theorem is49 {c : UInt8} (h : ((c.toNat : Int) == 49) = true) : c = 49 := by
 apply UInt8.toNat_inj.1
 have : ((c.toNat : Int)) = 49 := by simpa using h
 show c.toNat = 49
 omega
theorem bit_no {c : UInt8} (h : ((c.toNat : Int) == 48) = false) (h' : ((c.toNat : Int) == 49) = false) : bitB c = false := by
 unfold bitB
 have n1 : (c == 48) = false := by
  apply beq_eq_false_iff_ne.2
  rintro rfl
  cases h
 have n2 : (c == 49) = false := by
  apply beq_eq_false_iff_ne.2
  rintro rfl
  cases h'
 rw [n1, n2]
 rfl
theorem ne_yes {c : Int} {n : Int} (h : (c == n) = true) : (c != n) = false := by simp [bne, h]
theorem ne_no {c : Int} {n : Int} (h : (c == n) = false) : (c != n) = true := by simp [bne, h]
set_option maxHeartbeats 8000000 in
theorem rencode_any (s : ByteArray) (w : World) (hs : s.size ≤ 281474976710656) : Calls Tryz.prog 50 #[.string s] w (Enco s w) := by
 obtain ⟨i0, hi, hz0, hz1, hz2⟩ := info_parts info_byteR
 by_cases h1 : 65536 < s.size
 ·have hq : EncQ s ⟨#[]⟩ 6 := ⟨fun _ => ⟨rfl, rfl⟩, fun h => absurd h (by omega)⟩
  have d0 : decide ((65536 : Int) < (s.size : Int)) = true := decide_eq_true (by omega)
  have d1 : decide (65536 < s.size) = true := decide_eq_true h1
  replace hq := Lib.hid hq
  clear h1
  go_enter Tryz.func50, Tryz.ntmps50
  go_wp2
  go_ret2
  exact ⟨_, _, hq.out, rfl, Below.refl _ _⟩
 ·have d0 : decide ((65536 : Int) < (s.size : Int)) = false := decide_eq_false (by omega)
  have d1 : decide (65536 < s.size) = false := decide_eq_false h1
  have h6 : s.size ≤ 65536 := by omega
  go_enter Tryz.func50, Tryz.ntmps50
  go_wp2
  clear d0 d1 h1 hs
  go_loop [4] (fun i => ∃ k : Nat, k ≤ s.size ∧ i = .int .i64 k ∧ Hid ((s.data.toList.take k).all bitB = true)) (fun i => s.size - (intOf i).toNat)
  case atStart => exact ⟨0, Nat.zero_le _, rfl, Lib.hid rfl⟩
  case round =>
   obtain ⟨k, hk, rfl, hall⟩ := hrel
   by_cases hlt : k < s.size
   ·have hn := all_take s bitB k hlt
    rw [hall.out, Bool.true_and] at hn
    rcases h1 : (((s[k]).toNat : Int) == 48) with _ | _
    ·have h1' := ne_no h1
     rcases h2 : (((s[k]).toNat : Int) == 49) with _ | _
     ·have h2' := ne_no h2
      have hq : EncQ s ⟨#[]⟩ 3 := ⟨fun h => absurd h (by omega), fun _ => ⟨fun _ => ⟨rfl, rfl⟩, fun h => by
       unfold Bits at h
       rw [← List.take_append_drop (k + 1) s.data.toList, List.all_append, hn, bit_no h1 h2] at h
       cases h⟩⟩
      replace hq := Lib.hid hq
      replace hn := Lib.hid hn
      go_wp2
      go_ret2
      exact ⟨_, _, hq.out, rfl, Below.refl _ _⟩
     ·have h2' := ne_yes h2
      rw [is49 h2] at hn
      replace hn := Lib.hid hn
      go_wp2
      go_round
      case rel => exact ⟨k + 1, by omega, by go_num, Lib.hid (hn.out.trans rfl)⟩
      case measure => simp [intOf]; omega
    ·have h1' := ne_yes h1
     rw [is48 h1] at hn
     replace hn := Lib.hid hn
     go_wp2
     go_round
     case rel => exact ⟨k + 1, by omega, by go_num, Lib.hid (hn.out.trans rfl)⟩
     case measure => simp [intOf]; omega
   ·obtain rfl : k = s.size := by omega
    have hbs : Bits s := by
     have e : s.data.toList.take s.size = s.data.toList := List.take_of_length_le (by simp)
     unfold Bits
     rw [← e]
     exact hall.out
    have hq : EncQ s (sb (enc (tb s))) 0 := ⟨fun h => absurd h (by omega), fun _ => ⟨fun h => absurd hbs h, fun _ => ⟨rfl, rfl⟩⟩⟩
    have hsm := sb_tb hbs
    have hml := tb_len s
    obtain ⟨m, hm⟩ : ∃ m, tb s = m := ⟨_, rfl⟩
    rw [hm] at hq hsm hml
    obtain ⟨T1, hT1⟩ : ∃ T, sb ([false, false] ++ m) = T := ⟨_, rfl⟩
    obtain ⟨N, hN⟩ : ∃ N, m ++ [false, false] = N := ⟨_, rfl⟩
    obtain ⟨T, hT⟩ : ∃ T, sb ([false, false] ++ N) = T := ⟨_, rfl⟩
    have hNl : N.length = s.size + 2 := by rw [← hN, List.length_append, hml]; rfl
    have hT1s : T1.size = s.size + 2 := by rw [← hT1, sb_size, List.length_append, hml]; show 2 + _ = _; omega
    have hTs : T.size = s.size + 4 := by rw [← hT, sb_size, List.length_append, hNl]; show 2 + _ = _; omega
    have r1 : ∀ W, (Op.stringOp .add ⟨#[48, 48]⟩ s).run Tryz.prog W = .ok (.string T1) W := fun W => by
     rw [Go.run_string_add_sum _ _ _ (by show 2 + s.size ≤ _; omega), ← hT1, ← sb_app, hsm]
     rfl
    have r2 : ∀ W, (Op.stringOp .add T1 ⟨#[48, 48]⟩).run Tryz.prog W = .ok (.string T) W := fun W => by
     rw [Go.run_string_add_sum _ _ _ (by show T1.size + 2 ≤ _; omega), ← hT, ← hT1, ← hN, ← List.append_assoc, ← sb_app ([false, false] ++ m)]
     rfl
    have hget : ∀ (j : Nat) (h : j < T.size), ((T[j]).toNat : Int) = 48 + (bn (([false, false] ++ N).getD j false) : Int) := fun j h => by
     subst hT
     exact sb_byte _ j h
    have hfin := fin_get N
    replace hget := Lib.hid hget
    replace hq := Lib.hid hq
    replace hfin := Lib.hid hfin
    replace hN := Lib.hid hN
    replace hNl := Lib.hid hNl
    obtain ⟨L, hL⟩ : ∃ L, s.size + 4 = L := ⟨_, rfl⟩
    rw [hL] at hTs
    obtain ⟨z, hz⟩ : ∃ z, s.size = z := ⟨_, rfl⟩
    rw [hz] at hL h6
    rw [hz] at hNl
    replace hL := Lib.hid hL
    have hzh := Lib.hid hz
    clear hbs hall hlt hk hsm hml hm hT1 hT hT1s
    go_wp2_with (at_make; refine wpList_make_own _ rfl _ _ 53 rfl w.heap.size 5 i0 (.int .u8 0) 1 Tryz.underlying53 hi hz0 hz1 _ _ _ (2 * z + 4) rfl (by first | rfl | simp) (by omega) ?b2 ?b3 (Nat.le_refl _) ?_)
    case b2 => first | omega | (rw [hz2]; omega)
    case b3 => unfold maxLen; omega
    intro w0 hown0 hgrow0
    go_wp2
    clear r1 r2
    go_loopw [6, 7] (fun v i wr => ∃ k I : Nat, k ≤ z + 2 ∧ I = k + 2 ∧ i = .int .i64 (I : Int) ∧ wr.ownsRow w.heap.size 5 1 v (2 * k) (bys (cs (run false false (N.take k)))) ∧ Below w.heap.size w wr) (fun _ i _ => z + 4 - (intOf i).toNat)
    case atStart => exact ⟨0, 2, by omega, rfl, rfl, hown0, (Below.refl _ _).grown hgrow0 (Nat.le_refl _) (fun k h => by cases h)⟩
    case round =>
     obtain ⟨k, I, hk, hIk, rfl, hown, hb⟩ := hrel
     clear hown0 hgrow0
     have hLo := hL.out
     by_cases hlt : k < z + 2
     ·have hkN : k < N.length := by rw [hNl.out]; exact hlt
      obtain ⟨J, hJ⟩ : ∃ J, k + 1 = J := ⟨_, rfl⟩
      have p0 : I < T.size := by omega
      have p1 : J < T.size := by omega
      have p2 : k < T.size := by omega
      have g0 := hget.out I p0
      have g1 := hget.out J p1
      have g2 := hget.out k p2
      have hf := hfin.out k (by omega)
      rw [hJ] at hf
      have hu : ([false, false] ++ N).getD I false = N[k] := by
       rw [hIk]
       show (false :: false :: N).getD (k + 2) false = _
       simp [List.getD_eq_getElem?_getD, List.getElem?_eq_getElem hkN]
      rw [hu] at g0
      have hsn := run_snoc (N.take k) N[k]
      rw [← List.take_succ_eq_append_getElem hkN, hf] at hsn
      obtain ⟨u, hu'⟩ : ∃ u, N[k] = u := ⟨_, rfl⟩
      obtain ⟨s1, hs1⟩ : ∃ u, ([false, false] ++ N).getD J false = u := ⟨_, rfl⟩
      obtain ⟨s2, hs2⟩ : ∃ u, ([false, false] ++ N).getD k false = u := ⟨_, rfl⟩
      rw [hu'] at g0 hsn
      rw [hs1] at g1 hsn
      rw [hs2] at g2 hsn
      replace hsn : run false false (N.take (k + 1)) = run false false (N.take k) ++ out2 s1 s2 u := hsn
      have x1 := xor8 u s1 s2
      have x2 := xor8b u s2
      have l0 := bn_le u
      have l1 := bn_le s1
      have l2 := bn_le s2
      have l3 := bn_le (u ^^ s1 ^^ s2)
      have l4 := bn_le (u ^^ s2)
      obtain ⟨d0, hd0⟩ : ∃ n, bn u = n := ⟨_, rfl⟩
      obtain ⟨d1, hd1⟩ : ∃ n, bn s1 = n := ⟨_, rfl⟩
      obtain ⟨d2, hd2⟩ : ∃ n, bn s2 = n := ⟨_, rfl⟩
      obtain ⟨v1, hv1⟩ : ∃ n, bn (u ^^ s1 ^^ s2) = n := ⟨_, rfl⟩
      obtain ⟨v2, hv2⟩ : ∃ n, bn (u ^^ s2) = n := ⟨_, rfl⟩
      have hbo := bys_out s1 s2 u v1 v2 hv1 hv2
      rw [hd0] at g0 x1 x2 l0
      rw [hd1] at g1 x1 l1
      rw [hd2] at g2 x1 x2 l2
      rw [hv1] at x1 l3
      rw [hv2] at x2 l4
      have hrow : bys (cs (run false false (N.take k))) ++ [.int .u8 (48 + (v1 : Int)), .int .u8 (48 + (v2 : Int))] = bys (cs (run false false (N.take (k + 1)))) := by
       rw [hsn, cs_app, bys_append, hbo]
      replace hrow := Lib.hid hrow
      have i1 : (I : Int) - 1 = (J : Int) := by omega
      have i2 : (I : Int) - 2 = (k : Int) := by omega
      have b1 : (0 : Int) ≤ (I : Int) := by omega
      have b2 : (I : Int) < (L : Int) := by omega
      have b3 : (0 : Int) ≤ (J : Int) := by omega
      have b4 : (J : Int) < (L : Int) := by omega
      have b5 : (0 : Int) ≤ (k : Int) := by omega
      have b6 : (k : Int) < (L : Int) := by omega
      have c0 : 48 + (d0 : Int) - 48 = (d0 : Int) := by omega
      have c1 : 48 + (d1 : Int) - 48 = (d1 : Int) := by omega
      have c2 : 48 + (d2 : Int) - 48 = (d2 : Int) := by omega
      have dl : decide ((I : Int) < (L : Int)) = true := decide_eq_true b2
      replace hIk := Lib.hid hIk
      replace hLo := Lib.hid hLo
      clear hJ hf hu hsn hu' hs1 hs2 hd0 hd1 hd2 hv1 hv2 hbo hkN
      go_wp2
      go_quiet (fail)
      obtain ⟨W0, hW0⟩ : ∃ W0, wr.drewN nq = W0 := ⟨_, rfl⟩
      have hownW : W0.ownsRow w.heap.size 5 1 u6 (2 * k) (bys (cs (run false false (N.take k)))) := by rw [← hW0]; exact hown
      have hbW : Below w.heap.size w W0 := by rw [← hW0]; exact chainN hb nq
      rw [hW0]
      clear hW0 hown hb g0 g1 g2 b1 b2 b3 b4 b5 b6 i1 i2 c0 c1 c2
      go_wp2_with (at_builtin; refine wpList_append_own _ rfl _ _ 53 rfl w.heap.size 5 i0 (.int .u8 0) 1 1 Tryz.underlying53 hi hz0 hz1 hz2 rfl (by decide) _ _ _ rfl (hownW.alloc _) ⟨W0.heap.size, 0, none⟩ 2 2 [.int .u8 (48 + (v1 : Int)), .int .u8 (48 + (v2 : Int))] rfl rfl (two_cells _ _ _ _) (two_one _ _ _) ?c3 ?c4 ?c5 ?_)
      case c3 => unfold maxLen; omega
      case c4 => omega
      case c5 => have := hbW.size; simp; omega
      intro v' w1 hown' hgrow _
      rw [hrow.out] at hown'
      have hb' : Below w.heap.size w w1 := (hbW.alloc hbW.size _).grown hgrow (by have := hbW.size; simp; omega) (fun j hj => (hownW.lt j hj).1)
      have hIk' := hIk.out
      have hI7 : I ≤ 70000 := by omega
      replace hIk' := Lib.hid hIk'
      clear hownW hbW hgrow x1 x2 hrow
      go_wp2
      go_roundw
      case rel => exact ⟨k + 1, I + 1, by omega, by have := hIk'.out; omega, by go_num, by rw [show 2 * (k + 1) = 2 * k + 2 by omega]; exact hown', hb'⟩
      case measure => have := hIk'.out; simp [intOf]; omega
     ·obtain rfl : k = z + 2 := by omega
      have hall : N.take (z + 2) = N := List.take_of_length_le (by rw [hNl.out]; exact Nat.le_refl _)
      rw [hall] at hown
      have hconv := conv_own (dst := 9) Tryz.underlying53 Tryz.underlying5 Tryz.underlying9 hown
      have hIL : I = L := by omega
      subst hIL
      have dl : decide ((I : Int) < (I : Int)) = false := decide_eq_false (by omega)
      have hend : sb (enc m) = ⟨(cs (run false false N)).toArray⟩ := by rw [← hN.out]; rfl
      have hq2 := hq.out
      rw [hend] at hq2
      replace hq2 := Lib.hid hq2
      replace hIk := Lib.hid hIk
      clear hq hend hall hLo
      go_wp2
      go_ret2
      exact ⟨_, _, hq2.out, rfl, hb⟩
end C9
namespace C9
open Go.RowKit Mem

/-! ### what is read off the second cells -/
/-- Whatever bits have this word, the list is two zeros and these bits, as far as they reach. -/
def RQ (c : ByteArray) (n : Nat) (Q : List Bool) : Prop := ∀ m, c = sb (enc m) → ∀ j, j < Q.length → j < n + 2 → Q.getD j false = ([false, false] ++ m).getD j false
theorem RQ.start (c : ByteArray) (n : Nat) : RQ c n [false, false] := fun m _ j hj _ => by
 match j, hj with
 | 0, _ => rfl
 | 1, _ => rfl
theorem getD_snoc_lt {Q : List Bool} {x : Bool} {j : Nat} (h : j < Q.length) : (Q ++ [x]).getD j false = Q.getD j false := by
 simp [List.getD_eq_getElem?_getD, List.getElem?_append_left h]
theorem getD_snoc_eq (Q : List Bool) (x : Bool) : (Q ++ [x]).getD Q.length false = x := by
 simp [List.getD_eq_getElem?_getD]
theorem odd_cell (m : List Bool) (k : Nat) (h : k < m.length) (h1 : 2 * k + 1 < (sb (enc m)).size) : (sb (enc m))[2 * k + 1] = cell (m[k] ^^ ([false, false] ++ m).getD k false) := by
 have hp := pair_at m k h
 rw [fin_get m k (by omega)] at hp
 have h2 : ((sb (enc m)).extract (k * 2) ((k + 1) * 2)).data.toList = cs (out2 (([false, false] ++ m).getD (k + 1) false) (([false, false] ++ m).getD k false) m[k]) := by
  rw [hp]
  rfl
 simp only [ByteArray.data_extract, Array.toList_extract, List.extract_eq_take_drop] at h2
 have h3 := congrArg (fun l : List UInt8 => l[1]?) h2
 have e : (k + 1) * 2 - k * 2 = 2 := by omega
 simp only [e] at h3
 rw [List.getElem?_take_of_lt (by decide), List.getElem?_drop] at h3
 have h4 : (cs (out2 (([false, false] ++ m).getD (k + 1) false) (([false, false] ++ m).getD k false) m[k]))[1]? = some (cell (m[k] ^^ ([false, false] ++ m).getD k false)) := rfl
 rw [h4, show k * 2 + 1 = 2 * k + 1 by omega] at h3
 have h5 : 2 * k + 1 < (sb (enc m)).data.toList.length := by simpa using h1
 rw [List.getElem?_eq_getElem h5] at h3
 exact Option.some.inj h3
theorem RQ.step {c : ByteArray} {n k : Nat} {Q : List Bool} {x : Bool} (h : RQ c n Q) (hc : c.size = 2 * n + 4) (hQ : Q.length = k + 2) (h1 : 2 * k + 1 < c.size) (hx : c[2 * k + 1] = cell x) : RQ c n (Q ++ [x ^^ Q.getD k false]) := by
 intro m hm j hj hjn
 rw [List.length_append, List.length_singleton] at hj
 by_cases hlt : j < Q.length
 ·rw [getD_snoc_lt hlt]
  exact h m hm j hlt hjn
 ·obtain rfl : j = Q.length := by omega
  rw [getD_snoc_eq]
  have hml : m.length = n := by
   rw [hm, sb_size, enc_len] at hc
   omega
  have hkm : k < m.length := by omega
  have hq := h m hm k (by omega) (by omega)
  subst hm
  have ho := odd_cell m k hkm h1
  rw [hx, ← hq] at ho
  have hcx := cell_inj ho
  have e : ([false, false] ++ m).getD Q.length false = m[k] := by
   rw [hQ]
   show (false :: false :: m).getD (k + 2) false = _
   simp [List.getD_eq_getElem?_getD, List.getElem?_eq_getElem hkm]
  rw [e, hcx]
  cases m[k] <;> cases Q.getD k false <;> rfl
theorem RQ.reads {c : ByteArray} {n : Nat} {Q : List Bool} (h : RQ c n Q) (hc : c.size = 2 * n + 4) (hQ : Q.length = n + 4) : Reads c ((Q.drop 2).take n) := by
 intro m hm
 have hml : m.length = n := by
  rw [hm, sb_size, enc_len] at hc
  omega
 have hl : ((Q.drop 2).take n).length = n := by rw [List.length_take, List.length_drop]; omega
 have em : m.take n = m := List.take_of_length_le (by omega)
 rw [hl, em]
 apply List.ext_getElem
 ·rw [hl, hml]
 ·intro j h1 h2
  have := h m hm (j + 2) (by omega) (by omega)
  rw [List.getElem_take, List.getElem_drop]
  have e1 : Q.getD (j + 2) false = Q[2 + j]'(by omega) := by
   rw [Nat.add_comm]
   simp [List.getD_eq_getElem?_getD, List.getElem?_eq_getElem (show 2 + j < Q.length by omega)]
  have e2 : ([false, false] ++ m).getD (j + 2) false = m[j] := by
   show (false :: false :: m).getD (j + 2) false = _
   simp [List.getD_eq_getElem?_getD, List.getElem?_eq_getElem h2]
  rw [e1, e2] at this
  exact this
theorem no_code {c : ByteArray} {i : Nat} (h : i < c.size) (hx : c[i] = 63) (l : List Bool) : ¬ CodeOf c l := by
 intro hl
 have hb : Bits (sb (enc l)) := Bits.sb _
 rw [← hl.eq] at hb
 unfold Bits at hb
 rw [List.all_eq_true] at hb
 have := hb c[i] (by
  have h' : i < c.data.toList.length := by simpa using h
  exact List.getElem_mem h')
 rw [hx] at this
 exact absurd this (by decide)

/-! ### memory -/
def qv (Q : List Bool) : List Value := Q.map fun b => .int .u8 (bn b : Int)
theorem qv_len (Q : List Bool) : (qv Q).length = Q.length := by simp [qv]
theorem qv_snoc (Q : List Bool) (b : Bool) : qv Q ++ [.int .u8 (bn b : Int)] = qv (Q ++ [b]) := by simp [qv]
theorem qv_get (Q : List Bool) (j : Nat) (h : j < (qv Q).length) : (qv Q)[j] = .int .u8 (bn (Q.getD j false) : Int) := by
 have h' : j < Q.length := by rw [← qv_len]; exact h
 simp [qv, List.getD_eq_getElem?_getD, List.getElem?_eq_getElem h']
theorem row_form {w : World} {base n : Nat} {e : TypeId} {v : Value} {xs : List Value} (h : w.ownsRow base e 1 v n xs) (hn : 0 < n) : ∃ g cap, v = .slice (some ⟨g, 0, none⟩) n cap ∧ n ≤ cap ∧ cap ≤ maxLen ∧ base ≤ g ∧ g < w.heap.size := by
 rcases h.2 with ⟨_, h0⟩ | ⟨g, cap, cur, hv, hb, _, hle, hm, _⟩
 ·omega
 ·have hlt := h.lt g (by rw [hv]; rfl)
  exact ⟨g, cap, hv, hle, hm, hb, hlt.2⟩
theorem step_append_byte {w : World} {ops : Array Oper} {o : Oper} {a : Act} {K : Act → World → Prop} {Q : Exit → Act → World → Prop} {E : Prop} (hgd : o.guard = none) (s x : Operand)
  (ho : o.op = .call { callee := .builtin .append, args := #[s, x], argTypes := #[53, 53] }) (base : Nat) (v : Value) (n : Nat) (xs : List Value) (b : Nat) (z : Int)
  (hs : a.eval s = v) (hown : w.ownsRow base 5 1 v n xs) (hx : a.eval x = .slice (some ⟨b, 0, none⟩) 1 1) (hc : w.cell? ⟨b, 0, none⟩ = some (.int .u8 z)) (hn : n ≤ 1000000) (hbase : base ≤ w.heap.size)
  (h : ∀ g cap w', w'.ownsRow base 5 1 (.slice (some ⟨g, 0, none⟩) (n + 1) cap) (n + 1) (xs ++ [.int .u8 z]) → Below base w w' → K (a.put o.dst (.slice (some ⟨g, 0, none⟩) (n + 1) cap)) w') :
  if Region.wanted o (yielded ops a.tmps) = true then Oper.wp Tryz.prog o a w K Q else E := by
 rw [if_pos (by simp [Region.wanted, hgd])]
 obtain ⟨i0, hi0, hz0, hz1, hz2⟩ := info_parts info_byteR
 refine wp_append_own w s x 53 ho base 5 i0 (.int .u8 0) 1 1 Tryz.underlying53 hi0 hz0 hz1 hz2 rfl (by decide) v n xs hs hown ⟨b, 0, none⟩ 1 1 [.int .u8 z] hx rfl ?_ (one_cell _ _) (by unfold maxLen; omega) (by omega) hbase fun v' w' h1 h2 _ => ?_
 ·intro j u hj
  match j, hj with
  | 0, hj =>
   simp at hj
   subst hj
   rw [add_at]
   exact hc
 ·obtain ⟨g, cap, rfl, _⟩ := row_form h1 (by omega)
  exact h g cap w' h1 ((Below.refl base w).grown h2 hbase (fun j hj => (hown.lt j hj).1))
theorem one_at (w : World) (x : Value) (t : TypeId) : (w.alloc (.cells #[x] t)).cell? ⟨w.heap.size, 0, none⟩ = some x := by
 have h := one_new w x t 0 x rfl
 rw [add_at] at h
 exact h
theorem conv_one {P : Program} (w W : World) {src dst e : TypeId} {x : UInt8} {a : Int} (ha : a = (x.toNat : Int)) (hs : P.underlying src = some (.slice e)) (he : P.underlying e = some (.int .u8)) (hd : P.underlying dst = some .string)
  (h0 : W.cell? ⟨w.heap.size, 0, none⟩ = some (.int .u8 a)) :
  (convert src dst (.slice (some ⟨w.heap.size, 0, none⟩) 1 1)).run P W = .ok (.string ⟨#[x]⟩) W := by
 subst ha
 refine run_convert_bytes_back _ src dst e ⟨w.heap.size, 0, none⟩ 1 [x] hs he hd fun j hj => ?_
 match j, hj with
 | 0, _ => exact h0
theorem enco_good {p : List Bool} {w w' : World} {e : Ending} (h : Enco (sb p) w e w') (hp : p.length ≤ 65536) : e = .returned (.tuple #[.string (sb (enc p)), .int .i64 0]) ∧ Below w.heap.size w w' := by
 obtain ⟨S, k, hq, rfl, hb⟩ := h
 obtain ⟨rfl, rfl⟩ := hq.sb hp
 exact ⟨rfl, hb⟩
theorem beq_no {a b : ByteArray} (h : ¬ a = b) : (a.toList == b.toList) = false := beq_eq_false_iff_ne.2 fun e => h (by
 rw [str_toList, str_toList] at e
 exact ByteArray.ext (Array.toList_inj.1 e))
theorem beq_yes {a b : ByteArray} (h : a = b) : (a.toList == b.toList) = true := by
 rw [h]
 exact beq_self_eq_true _
set_option maxHeartbeats 8000000 in
theorem rextract_any (c : ByteArray) (w : World) (hc : c.size ≤ 100000) : Calls Tryz.prog 59 #[.string c] w (Extr c w) := by
 have c1 := C1.rcheck_any c w (by omega)
 have hchk : C1.chk c.data.toList = if c.data.toList.all okC = true then 0 else 3 := rfl
 cases hb : c.data.toList.all okC
 ·have hq : ExtQ c ⟨#[]⟩ 3 := ⟨fun _ => ⟨rfl, rfl⟩, fun h => by rw [hb] at h; cases h⟩
  rw [hchk, hb] at c1
  replace c1 : Calls Tryz.prog 56 #[.string c] w (fun e w' => e = .returned (.int .i64 3) ∧ w = w') := c1
  replace hq := Lib.hid hq
  replace c1 := Lib.hid c1
  clear hb hchk
  go_enter Tryz.func59, Tryz.ntmps59
  go_wp2_with fail
  refine c1.out.mono ?_
  rintro e w1 ⟨rfl, rfl⟩
  go_wp2
  go_ret2
  exact ⟨_, _, hq.out, rfl, Below.refl _ _⟩
 ·rw [hchk, hb] at c1
  replace c1 : Calls Tryz.prog 56 #[.string c] w (fun e w' => e = .returned (.int .i64 0) ∧ w = w') := c1
  replace c1 := Lib.hid c1
  clear hchk
  by_cases hodd : c.size % 2 = 1
  ·have hq : ExtQ c ⟨#[]⟩ 4 := ⟨fun h => (by rw [hb] at h; cases h), fun _ => ⟨fun _ => ⟨rfl, rfl⟩, fun h => by omega⟩⟩
   replace hq := Lib.hid hq
   have q1 : (c.size : Int) % 2 = 1 := by omega
   clear hb
   go_enter Tryz.func59, Tryz.ntmps59
   go_wp2_with fail
   refine c1.out.mono ?_
   rintro e w1 ⟨rfl, rfl⟩
   go_wp2
   go_ret2
   exact ⟨_, _, hq.out, rfl, Below.refl _ _⟩
  ·have q1 : (c.size : Int) % 2 = 0 := by omega
   have q1' : c.size % 2 = 0 := by omega
   by_cases hsh : c.size < 4
   ·have hq : ExtQ c ⟨#[]⟩ 4 := ⟨fun h => (by rw [hb] at h; cases h), fun _ => ⟨fun _ => ⟨rfl, rfl⟩, fun h => by omega⟩⟩
    replace hq := Lib.hid hq
    have d1 : decide (c.size < 4) = true := decide_eq_true hsh
    have d2 : decide ((c.size : Int) < 4) = true := decide_eq_true (by omega)
    clear hb hodd hsh
    go_enter Tryz.func59, Tryz.ntmps59
    go_wp2_with fail
    refine c1.out.mono ?_
    rintro e w1 ⟨rfl, rfl⟩
    go_wp2
    go_ret2
    exact ⟨_, _, hq.out, rfl, Below.refl _ _⟩
   ·obtain ⟨n, hn⟩ : ∃ n, c.size = 2 * n + 4 := ⟨(c.size - 4) / 2, by omega⟩
    have d1 : decide (c.size < 4) = false := decide_eq_false hsh
    have d2 : decide ((c.size : Int) < 4) = false := decide_eq_false (by omega)
    have hyes : ∀ p : List Bool, p.length = n → c = sb (enc p) → ExtQ c (sb p) 0 := fun p hp he => ⟨fun h => (by rw [hb] at h; cases h), fun _ => ⟨fun h => by omega, fun _ => ⟨fun l hl => by
     have := hl.only (l := l) ⟨by omega, he⟩
     rw [this]
     exact ⟨rfl, rfl⟩, fun h => absurd (⟨by omega, he⟩ : CodeOf c p) (h p)⟩⟩⟩
    have hno : (∀ l, ¬ CodeOf c l) → ExtQ c ⟨#[]⟩ 11 := fun h => ⟨fun h => (by rw [hb] at h; cases h), fun _ => ⟨fun h => by omega, fun _ => ⟨fun l hl => absurd hl (h l), fun _ => ⟨rfl, rfl⟩⟩⟩⟩
    have hno2 : ∀ p : List Bool, p.length = n → Reads c p → ¬ c = sb (enc p) → ∀ l, ¬ CodeOf c l := fun p hp hr he l hl => by
     have hll : l.length = n := by
      have := congrArg ByteArray.size hl.eq
      rw [sb_size, enc_len] at this
      omega
     have := hr.whole hl.eq (by omega)
     rw [this] at he
     exact he hl.eq
    have hok : ∀ (i : Nat) (h : i < c.size), c[i] = 48 ∨ c[i] = 49 ∨ c[i] = 63 := fun i h => by
     rw [List.all_eq_true] at hb
     have h' : i < c.data.toList.length := by simpa using h
     have := hb _ (List.getElem_mem h')
     unfold okC at this
     simp only [Bool.or_eq_true, beq_iff_eq] at this
     rcases this with (h1 | h1) | h1
     ·exact .inl h1
     ·exact .inr (.inl h1)
     ·exact .inr (.inr h1)
    have hn6 : n ≤ 65536 := by omega
    have hstart := World.ownsRow_lit (base := w.heap.size) (e := 5) (size := 1) w #[.int .u8 0, .int .u8 0] 2 (Nat.le_refl _) (by decide) rfl
    replace hstart : (w.alloc (.cells #[.int .u8 0, .int .u8 0] 5)).ownsRow w.heap.size 5 1 (.slice (some ⟨w.heap.size, 0, none⟩) 2 2) 2 (qv [false, false]) := hstart
    replace hyes := Lib.hid hyes
    replace hno := Lib.hid hno
    replace hno2 := Lib.hid hno2
    replace hok := Lib.hid hok
    have hnh := Lib.hid hn
    obtain ⟨z, hz⟩ : ∃ z, c.size = z := ⟨_, rfl⟩
    have hz4 : z = 2 * n + 4 := by omega
    rw [hz] at d1 d2 q1 q1'
    replace hz4 := Lib.hid hz4
    clear hb hodd hsh hc hn
    go_enter Tryz.func59, Tryz.ntmps59
    go_wp2_with fail
    refine c1.out.mono ?_
    rintro e w1 ⟨rfl, rfl⟩
    go_wp2
    clear c1 d1 d2 q1 q1'
    go_loopw [4, 5] (fun v i wr => ∃ (k I Ln g cap : Nat) (Q : List Bool), k ≤ n + 2 ∧ Hid (I = 2 * k + 1) ∧ Hid (Ln = k + 2) ∧ I ≤ 140000 ∧ Ln ≤ 70000 ∧ Q.length = Ln ∧ i = .int .i64 (I : Int) ∧ v = .slice (some ⟨g, 0, none⟩) Ln cap ∧
      wr.ownsRow w.heap.size 5 1 (.slice (some ⟨g, 0, none⟩) Ln cap) Ln (qv Q) ∧ Hid (RQ c n Q) ∧ Below w.heap.size w wr) (fun _ i _ => z - (intOf i).toNat)
    case atStart => exact ⟨0, 1, 2, w.heap.size, 2, [false, false], by omega, Lib.hid rfl, Lib.hid rfl, by omega, by omega, rfl, rfl, rfl, hstart, Lib.hid (RQ.start c n), (Below.refl _ _).alloc (Nat.le_refl _) _⟩
    case round =>
     obtain ⟨k, I, Ln, g, cap, Q, hk, hIk, hLk, hI6, hL6, hQl, rfl, rfl, hown, hRQ, hb⟩ := hrel
     clear hstart
     by_cases hlt : k < n + 2
     ·have hIz : I < z := by have := hIk.out; have := hz4.out; omega
      have hIc : I < c.size := by omega
      obtain ⟨X, hX⟩ : ∃ X, c[I] = X := ⟨_, rfl⟩
      have hcases := hok.out I hIc
      rw [hX] at hcases
      have i0 : (0 : Int) ≤ (I : Int) := by omega
      have i1 : (I : Int) < (z : Int) := by omega
      have dl : decide ((I : Int) < (z : Int)) = true := decide_eq_true i1
      by_cases h63 : X = 63
      ·have hq := Lib.hid (hno.out (no_code hIc (hX.trans h63)))
       subst h63
       clear hcases
       go_wp2
       go_ret2
       exact ⟨_, _, hq.out, rfl, hb⟩
      ·obtain ⟨x, hx⟩ : ∃ x : Bool, X = cell x := by
        rcases hcases with h | h | h
        ·exact ⟨false, h⟩
        ·exact ⟨true, h⟩
        ·exact absurd h h63
       have hIk' := hIk.out
       have hQk : Q.length = k + 2 := by rw [hQl]; exact hLk.out
       have hstep := RQ.step (x := x) hRQ.out hnh.out hQk (by omega) (by subst hIk'; exact hX.trans hx)
       have hbX : ((c[I]).toNat : Int) = 48 + (bn x : Int) := by rw [hX, hx]; cases x <;> rfl
       have hcl := VAt.of_own hown k (by rw [qv_len, hQk]; omega)
       rw [qv_get] at hcl
       obtain ⟨hcl, _⟩ := hcl
       have hx8 := xor8b x (Q.getD k false)
       have hsn := qv_snoc Q (x ^^ Q.getD k false)
       have hQl' : (Q ++ [x ^^ Q.getD k false]).length = Ln + 1 := by rw [List.length_append, hQl]; rfl
       obtain ⟨Q2, hQ2⟩ : ∃ Q2, Q ++ [x ^^ Q.getD k false] = Q2 := ⟨_, rfl⟩
       rw [hQ2] at hstep hsn hQl'
       have l0 := bn_le x
       have l1 := bn_le (Q.getD k false)
       have l2 := bn_le (x ^^ Q.getD k false)
       obtain ⟨d, hd⟩ : ∃ d, bn x = d := ⟨_, rfl⟩
       obtain ⟨q, hq⟩ : ∃ d, bn (Q.getD k false) = d := ⟨_, rfl⟩
       obtain ⟨v, hv⟩ : ∃ d, bn (x ^^ Q.getD k false) = d := ⟨_, rfl⟩
       rw [hd] at hbX hx8 l0
       rw [hq] at hcl hx8 l1
       rw [hv] at hx8 hsn l2
       have hgl := (hown.lt g rfl).2
       have e1 : (Ln : Int) - 2 = (k : Int) := by have := hLk.out; omega
       have w1' : IntKind.i64.wrap (k : Int) = (k : Int) := IntWalk.i64_in _ (by omega)
       have w2' : IntKind.u8.wrap (d : Int) = (d : Int) := by rw [IntKind.wrap_u8]; omega
       have k0 : (0 : Int) ≤ (k : Int) := by omega
       have k1 : (k : Int) < (Ln : Int) := by have := hLk.out; omega
       have n63 : ((48 + (d : Int)) == 63) = false := beq_eq_false_iff_ne.2 (by omega)
       have b0 : 48 + (d : Int) - 48 = (d : Int) := by omega
       replace hstep := Lib.hid hstep
       replace hsn := Lib.hid hsn
       replace hQl' := Lib.hid hQl'
       have hbs := hb.size
       clear hcases h63 hX hx hQ2 hd hq hv hIk'
       go_wp2_with fail
       go_region_law ((refine step_append_byte (by rfl) _ _ (by rfl) w.heap.size _ Ln (qv Q) _ (v : Int) (by rfl) (show World.ownsRow _ _ _ _ _ _ _ from hown.alloc _) (by rfl) (one_at wr _ _) (by omega) (by simp; omega) ?_; intro g' cap' w5 hrow5 hbel5))
       all_goals
        rw [hsn.out] at hrow5
        have hb5 : Below w.heap.size w w5 := Below.trans (chainN (hb.alloc hb.size _) 1) hbel5
        clear hbel5 hown hcl hx8 e1 k0 k1 n63 b0 w1' w2' hbX i0 i1 dl
        go_wp2
        go_roundw
        case rel => exact ⟨k + 1, I + 2, Ln + 1, g', cap', Q2, by omega, Lib.hid (by have := hIk.out; omega), Lib.hid (by have := hLk.out; omega), by have := hIk.out; omega, by have := hLk.out; omega, hQl'.out, by go_num, rfl, hrow5, hstep, hb5⟩
        case measure => simp [intOf]; omega
     ·obtain rfl : k = n + 2 := by omega
      have hIn : I = 2 * n + 5 := by have := hIk.out; omega
      have hLn : Ln = n + 4 := by have := hLk.out; omega
      have hzn := hz4.out
      have dl : decide ((I : Int) < (z : Int)) = false := decide_eq_false (by omega)
      have dln : decide (I < z) = false := decide_eq_false (by omega)
      have hQn : Q.length = n + 4 := by rw [hQl]; exact hLn
      have hreads := hRQ.out.reads hnh.out hQn
      have hpl : ((Q.drop 2).take n).length = n := by rw [List.length_take, List.length_drop]; omega
      have hpg : ∀ j (h : j < ((Q.drop 2).take n).length), Q.getD (j + 2) false = ((Q.drop 2).take n)[j] := fun j h => by
       rw [List.getElem_take, List.getElem_drop, Nat.add_comm j 2]
       simp [List.getD_eq_getElem?_getD, List.getElem?_eq_getElem (show 2 + j < Q.length by omega)]
      obtain ⟨p, hp⟩ : ∃ p, (Q.drop 2).take n = p := ⟨_, rfl⟩
      simp only [hp] at hpg
      rw [hp] at hreads hpl
      have hat := VAt.of_own hown
      have hgl := (hown.lt g rfl).2
      have hcell : ∀ W, Below wr.heap.size wr W → ∀ j (h : j < p.length), W.cell? ⟨g, j + 2, none⟩ = some (.int .u8 (bn p[j] : Int)) := fun W h j hj => by
       have h1 := (hat (j + 2) (by rw [qv_len]; omega)).1
       rw [qv_get, hpg j hj] at h1
       exact (h.cell (p := ⟨g, j + 2, none⟩) hgl).trans h1
      obtain ⟨E, hE⟩ : ∃ E, n + 2 = E := ⟨_, rfl⟩
      have e1 : (Ln : Int) - 2 = (E : Int) := by omega
      have hc3 := fun W => (rencode_any (sb p) W (by rw [sb_size]; omega)).mono fun e w' h => enco_good h (by omega)
      have hy := hyes.out p hpl
      have hnn := fun h => hno.out (hno2.out p hpl hreads h)
      replace hcell := Lib.hid hcell
      replace hc3 := Lib.hid hc3
      replace hy := Lib.hid hy
      replace hnn := Lib.hid hnn
      replace hpl := Lib.hid hpl
      replace hE := Lib.hid hE
      replace hLn := Lib.hid hLn
      obtain ⟨w2, hw2⟩ : ∃ w2 : World, w2 = wr := ⟨_, rfl⟩
      subst hw2
      clear hreads hpg hp hat hRQ hown hIn hzn hQn hyes hno hno2 hok hnh hQl hIk hLk
      go_wp2
      go_loopw [6, 7] (fun v i wq => ∃ j J : Nat, j ≤ n ∧ Hid (J = j + 2) ∧ J ≤ 70000 ∧ i = .int .i64 (J : Int) ∧ v = .string (sb (p.take j)) ∧ Below w2.heap.size w2 wq) (fun _ i _ => E - (intOf i).toNat)
      case atStart => exact ⟨0, 2, Nat.zero_le _, Lib.hid rfl, by omega, rfl, rfl, Below.refl _ _⟩
      case round =>
       obtain ⟨j, J, hj, hJ, hJ7, rfl, rfl, hbq⟩ := hrel
       by_cases hlt2 : j < n
       ·have hjp : j < p.length := by rw [hpl.out]; exact hlt2
        have hcl := hcell.out wr hbq j hjp
        rw [← hJ.out] at hcl
        have hts := List.take_succ_eq_append_getElem hjp
        obtain ⟨b, hb'⟩ : ∃ b, p[j] = b := ⟨_, rfl⟩
        rw [hb'] at hcl hts
        have l0 := bn_le b
        have hC : 48 + (bn b : Int) = ((cell b).toNat : Int) := by cases b <;> rfl
        obtain ⟨d, hd⟩ : ∃ d, bn b = d := ⟨_, rfl⟩
        rw [hd] at hcl l0 hC
        obtain ⟨C, hCC⟩ : ∃ C, cell b = C := ⟨_, rfl⟩
        obtain ⟨S, hS⟩ : ∃ S, sb (p.take j) = S := ⟨_, rfl⟩
        obtain ⟨S2, hS2⟩ : ∃ S, sb (p.take (j + 1)) = S := ⟨_, rfl⟩
        have hSs : S.size = j := by rw [← hS, sb_size, List.length_take]; omega
        have r1 : ∀ W, (Op.stringOp .add S ⟨#[C]⟩).run Tryz.prog W = .ok (.string S2) W := fun W => by
         rw [Go.run_string_add_sum _ _ _ (by show S.size + 1 ≤ _; omega), ← hS2, hts, ← sb_app, hS, ← hCC]
         rfl
        have cv := conv_one (P := Tryz.prog) (dst := 9) wr (wr.alloc (.cells #[.int .u8 (48 + (d : Int))] 5)) (x := C) (by rw [hC, hCC]) Tryz.underlying53 Tryz.underlying5 Tryz.underlying9 (one_at wr _ _)
        have i0 : (0 : Int) ≤ (J : Int) := by omega
        have i1 : (J : Int) < (Ln : Int) := by have := hJ.out; have := hLn.out; omega
        have dl2 : decide ((J : Int) < (E : Int)) = true := decide_eq_true (by have := hJ.out; have := hE.out; omega)
        have dl3 : decide (J < E) = true := decide_eq_true (by have := hJ.out; have := hE.out; omega)
        have hb2 : Below w2.heap.size w2 (wr.alloc (.cells #[.int .u8 (48 + (d : Int))] 5)) := hbq.alloc hbq.size _
        rw [hS]
        replace hS2 := Lib.hid hS2
        have hEo := hE.out
        clear hts hb' hd hC hCC hS hSs
        go_wp2
        go_roundw
        case rel => exact ⟨j + 1, J + 1, by omega, Lib.hid (by have := hJ.out; omega), by have := hJ.out; omega, by go_num, by rw [hS2.out], hb2⟩
        case measure => have := hJ.out; simp [intOf]; omega
       ·obtain rfl : j = n := by omega
        have hpn : p.take j = p := List.take_of_length_le (by rw [hpl.out]; exact Nat.le_refl _)
        rw [hpn]
        have dl2 : decide ((J : Int) < (E : Int)) = false := decide_eq_false (by have := hJ.out; have := hE.out; omega)
        have dl3 : decide (J < E) = false := decide_eq_false (by have := hJ.out; have := hE.out; omega)
        have hyo := hy.out
        have hno := hnn.out
        have hc4 := hc3.out wr
        obtain ⟨S, hS⟩ : ∃ S, sb p = S := ⟨_, rfl⟩
        obtain ⟨Z, hZ⟩ : ∃ Z, sb (enc p) = Z := ⟨_, rfl⟩
        rw [hS] at hyo hc4 ⊢
        rw [hZ] at hyo hno hc4
        have hbw : Below w.heap.size w wr := chain hb hbq
        replace hc4 := Lib.hid hc4
        clear hpn hS hZ
        by_cases hcz : Z = c
        ·have hq := Lib.hid (hyo hcz.symm)
         have d3 := beq_yes hcz
         clear hyo hno hcz
         go_wp2_with fail
         refine hc4.out.mono ?_
         rintro e w3 ⟨rfl, hb3⟩
         go_wp2
         go_ret2
         exact ⟨_, _, hq.out, rfl, chain hbw hb3⟩
        ·have hq := Lib.hid (hno fun e => hcz e.symm)
         have d3 := beq_no hcz
         clear hyo hno hcz
         go_wp2_with fail
         refine hc4.out.mono ?_
         rintro e w3 ⟨rfl, hb3⟩
         go_wp2
         go_ret2
         exact ⟨_, _, hq.out, rfl, chain hbw hb3⟩
end C9
end Go.Proofs.YtiodkllckcpinaaGreatDoor
