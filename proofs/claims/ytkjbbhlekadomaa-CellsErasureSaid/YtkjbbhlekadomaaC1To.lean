/- The contracts of ToBytes, of the package and of the reference: the bytes of the cells, and the indices of those with unreadable cells; or the first error. -/
import Derived.Test.YtkjbbhlekadomaaC1Inv
import Derived.Test.YtkjbbhlekadomaaC1Dist
import Derived.Laws.BitsAllLaws
import Derived.Lib.Strings
namespace Go.Proofs.Ytkjbbhlekadomaa.C1
open Go.RowKit Mem

/-- The number that cells read as, the highest first; an unreadable one counts as nought. -/
def num (l : List UInt8) : Nat := l.foldl (fun n c => n * 2 + (if c = 49 then 1 else 0)) 0
theorem num_snoc (l : List UInt8) (c : UInt8) : num (l ++ [c]) = num l * 2 + (if c = 49 then 1 else 0) := by simp [num]
theorem num_lt (l : List UInt8) : num l < 2 ^ l.length := by
  suffices h : ∀ m : List UInt8, num m.reverse < 2 ^ m.length by simpa using h l.reverse
  intro m
  induction m with
  | nil => decide
  | cons c m ih =>
    rw [List.reverse_cons, num_snoc, List.length_cons, Nat.pow_succ]
    split <;> omega
theorem num_take_lt (s : ByteArray) (k : Nat) : num (s.data.toList.take k) < 2 ^ k := by
  refine Nat.lt_of_lt_of_le (num_lt _) (Nat.pow_le_pow_right (by decide) (List.length_take_le _ _))

theorem num_yes (s : ByteArray) (k : Nat) (h : k < s.size) (hc : (((s[k]).toNat : Int) == 49) = true) : num (s.data.toList.take (k + 1)) = num (s.data.toList.take k) * 2 + 1 := by
  rw [take_snoc s k h, num_snoc, if_pos (i49 _ hc)]
theorem num_no (s : ByteArray) (k : Nat) (h : k < s.size) (hc : (((s[k]).toNat : Int) == 49) = false) : num (s.data.toList.take (k + 1)) = num (s.data.toList.take k) * 2 := by
  rw [take_snoc s k h, num_snoc, if_neg (n49 _ hc)]
  rfl
theorem or_one (n : Nat) (h : n < 128) : bits .or .u8 ((n : Int) * 2) 1 = (n : Int) * 2 + 1 := by
  rw [show (n : Int) * 2 = ((n * 2 : Nat) : Int) by simp, show (1 : Int) = ((1 : Nat) : Int) from rfl, u8_or_nat _ _ (by omega) (by decide), nat_join 1 _ _ (by omega) (by decide)]
  rfl

/-- The eight cells of byte i. -/
def grp (l : List UInt8) (i : Nat) : List UInt8 := (l.drop (8 * i)).take 8
def toB (l : List UInt8) (n : Nat) : List UInt8 := (List.range n).map fun i => UInt8.ofNat (num (grp l i))
def bad (l : List UInt8) (n : Nat) : List Nat := (List.range n).filter fun i => decide (0 < unr (grp l i))
theorem toB_snoc (l : List UInt8) (n : Nat) : toB l (n + 1) = toB l n ++ [UInt8.ofNat (num (grp l n))] := by simp [toB, List.range_succ]
theorem toB_len (l : List UInt8) (n : Nat) : (toB l n).length = n := by simp [toB]
theorem bad_yes (l : List UInt8) (n : Nat) (h : 0 < unr (grp l n)) : bad l (n + 1) = bad l n ++ [n] := by simp [bad, List.range_succ, h]
theorem bad_no (l : List UInt8) (n : Nat) (h : ¬ 0 < unr (grp l n)) : bad l (n + 1) = bad l n := by
  have h' : unr (grp l n) = 0 := by omega
  simp [bad, List.range_succ, h']
theorem bad_le (l : List UInt8) (n : Nat) : (bad l n).length ≤ n := Nat.le_trans (List.length_filter_le _ _) (by simp)
theorem grp_len (l : List UInt8) (i : Nat) (h : 8 * i + 8 ≤ l.length) : (grp l i).length = 8 := by simp [grp]; omega
theorem grp_num (l : List UInt8) (i : Nat) : num (grp l i) < 256 := by
  refine Nat.lt_of_lt_of_le (num_lt _) ?_
  have : 2 ^ (grp l i).length ≤ 2 ^ 8 := Nat.pow_le_pow_right (by decide) (List.length_take_le _ _)
  omega
theorem grp_byte (l : List UInt8) (i : Nat) : ((UInt8.ofNat (num (grp l i))).toNat : Int) = (num (grp l i) : Int) := by
  have := grp_num l i
  rw [UInt8.toNat_ofNat']
  omega

theorem toB_cells (l : List UInt8) (k : Nat) : bys (toB l k) ++ [.int .u8 (num (grp l k) : Int)] = bys (toB l (k + 1)) := by
  rw [toB_snoc, bys_snoc, grp_byte]
theorem bad_cells (l : List UInt8) (k : Nat) (h : 0 < unr (grp l k)) : nats (bad l k) ++ [.int .i64 (k : Int)] = nats (bad l (k + 1)) := by
  rw [bad_yes l k h, nats_snoc]
theorem bad_yes_len (l : List UInt8) (k : Nat) (h : 0 < unr (grp l k)) : (bad l (k + 1)).length = (bad l k).length + 1 := by
  rw [bad_yes l k h]; simp
theorem ext_grp (s : ByteArray) (k : Nat) : (s.extract (k * 8) ((k + 1) * 8)).data.toList = grp s.data.toList k := by
  rw [Lib.extract_data]
  simp only [grp]
  rw [show (k + 1) * 8 - k * 8 = 8 by omega, show k * 8 = 8 * k by omega]
theorem ext_size (s : ByteArray) (k : Nat) (h : 8 * k + 8 ≤ s.size) : (s.extract (k * 8) ((k + 1) * 8)).size = 8 := by
  simp; omega

/-- What ToBytes answers: the error's number, the bytes, the indices. -/
def tbE (l : List UInt8) : Int := if chk l = 0 then (if l.length % 8 = 0 then 0 else 4) else 3
def tbS (l : List UInt8) : List UInt8 := if tbE l = 0 then toB l (l.length / 8) else []
def tbL (l : List UInt8) : List Nat := if tbE l = 0 then bad l (l.length / 8) else []
theorem tbE_ok {l : List UInt8} (h : chk l = 0) (h8 : l.length % 8 = 0) : tbE l = 0 := by unfold tbE; rw [if_pos h, if_pos h8]
theorem tbE_short {l : List UInt8} (h : chk l = 0) (h8 : l.length % 8 ≠ 0) : tbE l = 4 := by unfold tbE; rw [if_pos h, if_neg h8]
theorem tbE_syn {l : List UInt8} (h : chk l = 3) : tbE l = 3 := by unfold tbE; rw [if_neg (by omega)]
theorem tbS_ok {l : List UInt8} (h : tbE l = 0) : tbS l = toB l (l.length / 8) := by unfold tbS; rw [if_pos h]
theorem tbL_ok {l : List UInt8} (h : tbE l = 0) : tbL l = bad l (l.length / 8) := by unfold tbL; rw [if_pos h]
theorem tbS_no {l : List UInt8} (h : tbE l ≠ 0) : tbS l = [] := by unfold tbS; rw [if_neg h]
theorem tbL_no {l : List UInt8} (h : tbE l ≠ 0) : tbL l = [] := by unfold tbL; rw [if_neg h]

/-- What a call of ToBytes leaves: the string, the row of indices (of the call's own), the error. -/
def TbPost (l : List UInt8) (w : World) (e : Ending) (w' : World) : Prop :=
  ∃ v : Value, e = .returned (.tuple #[.string ⟨(tbS l).toArray⟩, v, .int .i64 (tbE l)]) ∧ w'.ownsRow w.heap.size 3 1 v (tbL l).length (nats (tbL l)) ∧ Below w.heap.size w w'
theorem tbPost_no {l : List UInt8} {w : World} {e : Int} (h : tbE l = e) (h0 : e ≠ 0) : TbPost l w (.returned (.tuple #[.string ⟨#[]⟩, .slice none 0 0, .int .i64 e])) w := by
  refine ⟨.slice none 0 0, ?_, ?_, Below.refl _ _⟩
  · rw [tbS_no (by omega), h]
  · rw [tbL_no (by omega)]
    exact World.ownsRow_nil _ _ _ _
theorem tbPost_ok {l : List UInt8} {w w' : World} {v : Value} {n : Nat} (h : tbE l = 0) (hn : l.length / 8 = n) (hown : w'.ownsRow w.heap.size 3 1 v (bad l n).length (nats (bad l n))) (hb : Below w.heap.size w w') :
    TbPost l w (.returned (.tuple #[.string ⟨(toB l n).toArray⟩, v, .int .i64 0])) w' := by
  subst hn
  refine ⟨v, ?_, ?_, hb⟩
  · rw [tbS_ok h, h]
  · rw [tbL_ok h]
    exact hown

set_option maxHeartbeats 1000000 in
theorem byteOf_any (s : ByteArray) (w : World) (hs : s.size ≤ 8) :
    Calls Try.prog 29 #[.string s] w fun e w' => e = .returned (.int .u8 (num s.data.toList)) ∧ w = w' := by
  go_enter Try.func29, Try.ntmps29
  go_wp2
  go_loop [3, 7] (fun b i => ∃ k : Nat, k ≤ s.size ∧ i = .int .i64 k ∧ b = .int .u8 (num (s.data.toList.take k))) (fun _ i => s.size - (intOf i).toNat)
  case atStart => exact ⟨0, Nat.zero_le _, rfl, rfl⟩
  case round =>
    obtain ⟨k, hk, rfl, rfl⟩ := hrel
    by_cases hlt : k < s.size
    · have hn := num_take_lt s k
      have hp : 2 ^ k ≤ 2 ^ 7 := Nat.pow_le_pow_right (by decide) (by omega)
      have hn128 : num (s.data.toList.take k) < 128 := by omega
      have hor := or_one _ hn128
      rcases hc : (((s[k]).toNat : Int) == 49) with _ | _
      · have hnext := Lib.hid (num_no s k hlt hc)
        clear hp hn hor
        go_wp2
        go_round
        case rel => exact ⟨k + 1, by omega, by go_num, by rw [hnext.out]; go_num⟩
        case measure => simp [intOf]; omega
      · have hnext := Lib.hid (num_yes s k hlt hc)
        clear hp hn
        go_wp2
        go_round
        case rel => exact ⟨k + 1, by omega, by go_num, by rw [hnext.out]; go_num⟩
        case measure => simp [intOf]; omega
    · go_wp2
      go_ret
      exact ⟨ret_int (by rw [show k = s.size by omega, take_all]), rfl⟩

theorem info_int : (Try.prog.info? 3).map (fun i => (i.zero, i.size, i.bytes)) = some (some (.int .i64 0), 1, 8) := by kernel_rfl

set_option maxHeartbeats 2000000 in
theorem toBytes_any (s : ByteArray) (w : World) (hs : s.size ≤ 100000) :
    Calls Try.prog 18 #[.string s] w (TbPost s.data.toList w) := by
  rcases chk_cases s.data.toList with hc | hc
  · by_cases h8 : s.size % 8 = 0
    · have hE := Lib.hid (tbE_ok hc h8)
      obtain ⟨n, hn⟩ : ∃ n, s.size = 8 * n := ⟨s.size / 8, by omega⟩
      have hn8 : s.data.toList.length / 8 = n := by simp; omega
      have hn8h := Lib.hid hn8
      have hq : ((s.size : Nat) : Int) % 8 = 0 := by omega
      have hd : ((s.size : Nat) : Int) / 8 = (n : Int) := by omega
      have hnn : n ≤ 12500 := by omega
      have hnh := Lib.hid hn
      clear hn hn8 h8
      obtain ⟨i0, hi, hz0, hz1, hz2⟩ := info_parts info_byte
      obtain ⟨j0, hj, hy0, hy1, hy2⟩ := info_parts info_int
      go_enter Try.func18, Try.ntmps18
      go_wp2_with (first
        | (go_at_call 12; refine (check_any _ _ (by omega)).mono ?_; rintro e w' ⟨rfl, rfl⟩)
        | (at_make; refine wpList_make_own _ rfl _ _ 36 rfl w.heap.size 5 i0 (.int .u8 0) 1 Try.underlying36 hi hz0 hz1 _ _ _ n rfl rfl (by omega) ?b2 ?b3 (Nat.le_refl _) ?_))
      case b2 => rw [hz2]; omega
      case b3 => unfold maxLen; omega
      intro w0 hown0 hgrow0
      go_wp2
      clear hc hq
      go_loopw [6, 7, 26] (fun b v i wr => ∃ k : Nat, k ≤ n ∧ i = .int .i64 k ∧ wr.ownsRow w.heap.size 5 1 b k (bys (toB s.data.toList k)) ∧
        wr.ownsRow w.heap.size 3 1 v (bad s.data.toList k).length (nats (bad s.data.toList k)) ∧ Below w.heap.size w wr) (fun _ _ i _ => n - (intOf i).toNat)
      case atStart => exact ⟨0, Nat.zero_le _, rfl, hown0, World.ownsRow_nil _ _ _ _, (Below.refl _ _).grown hgrow0 (Nat.le_refl _) (fun k h => by cases h)⟩
      case round =>
        obtain ⟨k, hk, rfl, hob, hov, hb⟩ := hrel
        by_cases hlt : k < n
        · obtain ⟨g, hg⟩ : ∃ g, s.extract (k * 8) ((k + 1) * 8) = g := ⟨_, rfl⟩
          have hgs : g.size = 8 := by rw [← hg]; exact ext_size s k (by have := hnh.out; omega)
          have hgl : g.data.toList = grp s.data.toList k := by rw [← hg]; exact ext_grp s k
          have hB := Lib.hid (fun W => byteOf_any g W (by omega))
          have hU := Lib.hid (fun W => unreadable_any g W (by omega))
          rw [hgl] at hB hU
          have hul := unr_le (grp s.data.toList k)
          have hul2 : (grp s.data.toList k).length ≤ 8 := List.length_take_le _ _
          have hbl := bad_le s.data.toList k
          have hgsh := Lib.hid hgs
          have hglh := Lib.hid hgl
          clear hgs hgl
          by_cases hu : 0 < unr (grp s.data.toList k)
          · have huI : (0 : Int) < (unr (grp s.data.toList k) : Int) := by omega
            have hbc := Lib.hid (bad_cells s.data.toList k hu)
            have hbn := Lib.hid (bad_yes_len s.data.toList k hu)
            have htc := Lib.hid (toB_cells s.data.toList k)
            go_wp2_with (first
              | (go_at_call 29; refine (hB.out _).mono ?_; rintro e w' ⟨rfl, rfl⟩)
              | (at_builtin; refine wpList_append_own _ rfl _ _ 36 rfl w.heap.size 5 i0 (.int .u8 0) 1 1 Try.underlying36 hi hz0 hz1 hz2 rfl (by decide) _ _ _ rfl (hob.alloc _) ⟨wr.heap.size, 0, none⟩ 1 1 [.int .u8 (num (grp s.data.toList k) : Int)] rfl rfl (one_new _ _ _) (one_cell _ _) ?c3 ?c4 ?c5 ?_))
            case c3 => unfold maxLen; omega
            case c4 => omega
            case c5 => have := hb.size; simp; omega
            intro b' w1 hob' hgrow _
            rw [htc.out] at hob'
            have hov' := (hov.alloc _).kept hgrow (own_apart hov hob (by decide))
            have hb' : Below w.heap.size w w1 := (hb.alloc hb.size _).grown hgrow (by have := hb.size; simp; omega) (fun j hj => (hob.lt j hj).1)
            clear hob hov hb hgrow htc
            go_wp2_with (first
              | (go_at_call 14; refine (hU.out _).mono ?_; rintro e w' ⟨rfl, rfl⟩)
              | (at_builtin; refine wpList_append_own _ rfl _ _ 28 rfl w.heap.size 3 j0 (.int .i64 0) 1 8 Try.underlying28 hj hy0 hy1 hy2 rfl (by decide) _ _ _ rfl (hov'.alloc _) ⟨w1.heap.size, 0, none⟩ 1 1 [.int .i64 (k : Int)] rfl rfl (one_new _ _ _) (one_cell _ _) ?d3 ?d4 ?d5 ?_))
            case d3 => unfold maxLen; omega
            case d4 => omega
            case d5 => have := hb'.size; simp; omega
            intro v' w2 hov2 hgrow2 _
            rw [hbc.out] at hov2
            have hob2 := (hob'.alloc _).kept hgrow2 (own_apart hob' hov' (by decide))
            have hb2 : Below w.heap.size w w2 := (hb'.alloc hb'.size _).grown hgrow2 (by have := hb'.size; simp; omega) (fun j hj => (hov'.lt j hj).1)
            clear hob' hov' hb' hgrow2 hbc
            go_wp2
            go_roundw
            case rel => exact ⟨k + 1, by omega, by go_num, hob2, by rw [hbn.out]; exact hov2, hb2⟩
            case measure => simp [intOf]; omega
          · have huI : ¬ (0 : Int) < (unr (grp s.data.toList k) : Int) := by omega
            have hbn := Lib.hid (bad_no s.data.toList k hu)
            have htc := Lib.hid (toB_cells s.data.toList k)
            go_wp2_with (first
              | (go_at_call 29; refine (hB.out _).mono ?_; rintro e w' ⟨rfl, rfl⟩)
              | (at_builtin; refine wpList_append_own _ rfl _ _ 36 rfl w.heap.size 5 i0 (.int .u8 0) 1 1 Try.underlying36 hi hz0 hz1 hz2 rfl (by decide) _ _ _ rfl (hob.alloc _) ⟨wr.heap.size, 0, none⟩ 1 1 [.int .u8 (num (grp s.data.toList k) : Int)] rfl rfl (one_new _ _ _) (one_cell _ _) ?c3 ?c4 ?c5 ?_))
            case c3 => unfold maxLen; omega
            case c4 => omega
            case c5 => have := hb.size; simp; omega
            intro b' w1 hob' hgrow _
            rw [htc.out] at hob'
            have hov' := (hov.alloc _).kept hgrow (own_apart hov hob (by decide))
            have hb' : Below w.heap.size w w1 := (hb.alloc hb.size _).grown hgrow (by have := hb.size; simp; omega) (fun j hj => (hob.lt j hj).1)
            clear hob hov hb hgrow htc
            go_wp2_with (go_at_call 14; refine (hU.out _).mono ?_; rintro e w' ⟨rfl, rfl⟩)
            go_roundw
            case rel => exact ⟨k + 1, by omega, by go_num, hob', by rw [hbn.out]; exact hov', hb'⟩
            case measure => simp [intOf]; omega
        · have hconv := conv_own (dst := 9) Try.underlying36 Try.underlying5 Try.underlying9 hob
          obtain rfl : k = n := by omega
          go_wp2
          go_ret3
          exact tbPost_ok hE.out hn8h.out hov hb
    · have hE := Lib.hid (tbE_short hc h8)
      have hq : (((s.size : Nat) : Int) % 8 == 0) = false := by simp; omega
      have hq' := ne_of_no hq
      go_enter Try.func18, Try.ntmps18
      go_wp2_with (go_at_call 12; refine (check_any _ _ (by omega)).mono ?_; rintro e w' ⟨rfl, rfl⟩)
      go_ret3
      exact tbPost_no hE.out (by decide)
  · have hE := Lib.hid (tbE_syn hc)
    go_enter Try.func18, Try.ntmps18
    go_wp2_with (go_at_call 12; refine (check_any _ _ (by omega)).mono ?_; rintro e w' ⟨rfl, rfl⟩)
    go_ret3
    exact tbPost_no hE.out (by decide)
end Go.Proofs.Ytkjbbhlekadomaa.C1
