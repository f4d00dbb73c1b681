/- The contracts of the package's field, isNatural and isInteger. -/
import Derived.Test.YtjmnjcjpcmonjaaDoorN2Lay
namespace Go.Proofs.YtjmnjcjpcmonjaaDoor.N2
open Go.RowKit Mem
set_option linter.unusedVariables false

/-- What a call of field leaves. -/
def FdPost (l : List UInt8) (a : Int) (c : UInt8) (w : World) (e : Ending) (w' : World) : Prop := e = .returned (.tuple #[.string ⟨(fld l a c).1.toArray⟩, .int .i64 (fld l a c).2.1, .int .i64 (fld l a c).2.2]) ∧ w = w'
theorem fd_of {l x : List UInt8} {a : Int} {c : UInt8} {w : World} {y z : Int} (h : fld l a c = (x, y, z)) : FdPost l a c w (.returned (.tuple #[.string ⟨x.toArray⟩, .int .i64 y, .int .i64 z])) w := by
  refine ⟨?_, rfl⟩
  rw [h]
theorem drop_str (s : ByteArray) (a : Nat) : (s.extract a s.size).data.toList = s.data.toList.drop a := by
  rw [cut_list]
  exact List.take_of_length_le (by simp)

set_option maxHeartbeats 2000000 in
theorem field_any (s : ByteArray) (a : Int) (c : UInt8) (w : World) (hs : s.size ≤ 1000000) (h1 : -9223372036854775808 ≤ a) (h2 : a ≤ 9223372036854775807) :
    Calls Tryd.prog 31 #[.string s, .int .i64 a, .int .u8 (c.toNat : Int)] w (FdPost s.data.toList a c w) := by
  have hlen : s.data.toList.length = s.size := rfl
  by_cases ha : a < 0
  · have hr := Lib.hid (fld_arg (l := s.data.toList) (c := c) (.inl ha))
    have hd : decide (a < 0) = true := by simpa using ha
    clear hlen
    go_enter Tryd.func31, Tryd.ntmps31
    go_wp2
    go_ret3
    exact fd_of hr.out
  · by_cases hb : (s.size : Int) < a
    · have hr := Lib.hid (fld_arg (l := s.data.toList) (a := a) (c := c) (.inr hb))
      have hd : decide (a < 0) = false := by simpa using ha
      have hd2 : decide ((s.size : Int) < a) = true := by simpa using hb
      clear hlen
      go_enter Tryd.func31, Tryd.ntmps31
      go_wp2
      go_ret3
      exact fd_of hr.out
    · obtain ⟨k, rfl⟩ : ∃ k : Nat, a = (k : Int) := ⟨a.toNat, by omega⟩
      have hk : k ≤ s.size := by omega
      have hd : decide ((k : Int) < 0) = false := by simp
      have hd2 : decide ((s.size : Int) < (k : Int)) = false := by simp; omega
      have hi := ibyte_any (s.extract k s.size) c w
      rw [drop_str] at hi
      rcases index_pos s.data.toList k c with ⟨e1, e2⟩ | ⟨j, e1, e2⟩
      · have hr := Lib.hid (fld_short (l := s.data.toList) (a := k) hk e2)
        rw [e1] at hi
        have hi := Lib.hid hi
        clear e1 e2 hlen
        go_enter Tryd.func31, Tryd.ntmps31
        go_wp2_with fail
        refine hi.out.mono ?_
        rintro e w1 ⟨rfl, rfl⟩
        go_wp2
        go_ret3
        exact fd_of hr.out
      · have hr := Lib.hid (fld_at (l := s.data.toList) (a := k) hk e2)
        rw [e1] at hi
        have hi := Lib.hid hi
        have hj : k + j < s.size := by
          rcases posI_cases s.data.toList k c with h | ⟨i, h, _, hlt, _⟩
          · rw [h] at e2; omega
          · rw [h] at e2; omega
        have hcut := cut_str s k (k + j)
        rw [show k + j - k = j by omega] at hcut
        have hcut := Lib.hid hcut
        clear e1 e2 hlen
        go_enter Tryd.func31, Tryd.ntmps31
        go_wp2_with fail
        refine hi.out.mono ?_
        rintro e w1 ⟨rfl, rfl⟩
        go_wp2
        go_ret3
        have e := fd_of (w := w) hr.out
        rw [← hcut.out] at e
        exact e

set_option maxHeartbeats 2000000 in
theorem natural_any (s : ByteArray) (w : World) (hs : s.size ≤ 1000000) :
    Calls Tryd.prog 36 #[.string s] w fun e w' => e = .returned (.bool (dcok s.data.toList)) ∧ w = w' := by
  go_enter Tryd.func36, Tryd.ntmps36
  go_wp2
  go_loop [6] (fun i => ∃ k : Nat, k ≤ s.size ∧ i = .int .i64 k ∧ Hid ((s.data.toList.take k).all isDg = true)) (fun i => s.size - (intOf i).toNat)
  case atStart => exact ⟨0, Nat.zero_le _, rfl, Lib.hid rfl⟩
  case round =>
    obtain ⟨k, hk, rfl, hall⟩ := hrel
    by_cases hlt : k < s.size
    · by_cases h48 : (((s[k]).toNat : Int) < 48)
      · have hd : decide (((s[k]).toNat : Int) < 48) = true := decide_eq_true h48
        have hr := Lib.hid (dcok_bad (mem_get s k hlt) (isDg_lo h48))
        go_wp2
        go_ret
        exact ⟨ret_bool hr.out.symm, rfl⟩
      · have hd : decide (((s[k]).toNat : Int) < 48) = false := decide_eq_false h48
        by_cases h57 : (57 : Int) < ((s[k]).toNat : Int)
        · have hd2 : decide ((57 : Int) < ((s[k]).toNat : Int)) = true := decide_eq_true h57
          have hr := Lib.hid (dcok_bad (mem_get s k hlt) (isDg_hi h57))
          go_wp2
          go_ret
          exact ⟨ret_bool hr.out.symm, rfl⟩
        · have hd2 : decide ((57 : Int) < ((s[k]).toNat : Int)) = false := decide_eq_false h57
          have hall' := Lib.hid (show (s.data.toList.take (k + 1)).all isDg = true by
            rw [take_snoc s k hlt, List.all_append, hall.out]
            simp [isDg_in h48 h57])
          go_wp2
          go_round
          case rel => exact ⟨k + 1, by omega, by go_num, hall'⟩
          case measure => simp [intOf]; omega
    · obtain rfl : k = s.size := by omega
      have hall := Lib.hid (show s.data.toList.all isDg = true by rw [← take_all s]; exact hall.out)
      by_cases h0 : s.size = 0
      · obtain rfl : s = ByteArray.empty := by
          apply ByteArray.ext
          apply Array.eq_empty_of_size_eq_zero h0
        go_wp2
        go_ret
        exact ⟨rfl, rfl⟩
      · by_cases hone : s = ⟨#[48]⟩
        · subst hone
          go_wp2
          go_ret
          exact ⟨rfl, rfl⟩
        · have hI : (0 : Int) < (s.size : Int) := by omega
          have hE : ¬ s.toList = [48] := by
            rw [str_toList]
            intro e
            apply hone
            apply ByteArray.ext
            exact Array.toList_inj.1 e
          have hE2 : ¬ s.toList = [] := by
            rw [str_toList]
            intro e
            apply h0
            have : s.data.toList.length = s.size := rfl
            rw [← this, e]
            rfl
          have hB : (s.toList == [48]) = false := beq_eq_false_iff_ne.2 hE
          have hB2 : s.toList.isEmpty = false := by simpa using hE2
          have hBh := Lib.hid hB
          have hB2h := Lib.hid hB2
          clear hB hB2
          rcases hq : (((s[0]).toNat : Int) == 48) with _ | _
          · have hr := Lib.hid (show dcok s.data.toList = true by
              apply dcok_good
              · rw [← str_toList]; exact hE2
              · by_cases h1 : 1 < s.size
                · rw [lead_of s h1, hq]
                · exact lead_one s (by omega)
              · exact hall.out)
            have hq2 := ne_no hq
            go_wp2
            go_ret
            exact ⟨ret_bool (by first | (rw [hr.out, hBh.out]; done) | (rw [hr.out, hBh.out, hB2h.out]; rfl)), rfl⟩
          · have hr := Lib.hid (show dcok s.data.toList = false by
              apply dcok_lead
              by_cases h1 : 1 < s.size
              · rw [lead_of s h1, hq]
              · exfalso
                apply hone
                apply ByteArray.ext
                apply Array.ext
                · show s.size = 1; omega
                · intro i hi hi'
                  have hi0 : i = 0 := by have : i < s.size := hi; omega
                  subst hi0
                  have h3 : ((s[0]).toNat : Int) = 48 := by simpa using hq
                  show s[0] = 48
                  exact UInt8.toNat_inj.1 (by show (s[0]).toNat = 48; omega))
            have hq2 := ne_yes hq
            go_wp2
            go_ret
            exact ⟨ret_bool (by first | (rw [hr.out, hBh.out]; done) | (rw [hr.out, hBh.out, hB2h.out]; rfl)), rfl⟩

/-- Whether a text is a decimal representation of an integer. -/
def intok (l : List UInt8) : Bool := dcok (if l.head? = some 45 then l.tail else l) && !(decide (l.head? = some 45) && decide ((if l.head? = some 45 then l.tail else l) = [48]))

set_option maxHeartbeats 2000000 in
theorem integer_any (s : ByteArray) (w : World) (hs : s.size ≤ 1000000) :
    Calls Tryd.prog 32 #[.string s] w fun e w' => e = .returned (.bool (intok s.data.toList)) ∧ w = w' := by
  have c1 := minus_any s w
  obtain ⟨V, hV⟩ : ∃ V, (if s.data.toList.head? = some 45 then s.data.toList.tail else s.data.toList) = V := ⟨_, rfl⟩
  have hVs : V.length ≤ s.size := by
    have : s.data.toList.length = s.size := rfl
    rw [← hV]
    split
    · rw [List.length_tail]; omega
    · omega
  have hk : intok s.data.toList = (dcok V && !(decide (s.data.toList.head? = some 45) && decide (V = [48]))) := by
    unfold intok
    rw [hV]
  rw [hV] at c1
  have c2 := natural_any ⟨V.toArray⟩ w (by rw [str_size]; omega)
  rw [str_list] at c2
  obtain ⟨n, hn⟩ : ∃ n, decide (s.data.toList.head? = some 45) = n := ⟨_, rfl⟩
  rw [hn] at c1 hk
  have hk := Lib.hid hk
  clear hn hV
  obtain ⟨d, hd⟩ : ∃ d, dcok V = d := ⟨_, rfl⟩
  rw [hd] at c2
  have hd := Lib.hid hd
  have c1 := Lib.hid c1
  have c2 := Lib.hid c2
  by_cases h48 : V = [48]
  · subst h48
    rcases d with _ | _ <;> rcases n with _ | _
    all_goals
      go_enter Tryd.func32, Tryd.ntmps32
      go_wp2_with fail
      refine c1.out.mono ?_
      rintro e w1 ⟨rfl, rfl⟩
      go_wp2_with fail
      refine c2.out.mono ?_
      rintro e w1 ⟨rfl, rfl⟩
      go_wp2
      go_ret
      exact ⟨ret_bool (by rw [hk.out, hd.out]; rfl), rfl⟩
  · have hE3 := Lib.hid (show (V == [48]) = false from beq_eq_false_iff_ne.2 h48)
    have hE : ¬ (⟨V.toArray⟩ : ByteArray).toList = [48] := by rw [str_toList, str_list]; exact h48
    have hE2 : decide (V = [48]) = false := decide_eq_false h48
    rcases d with _ | _ <;> rcases n with _ | _
    all_goals
      go_enter Tryd.func32, Tryd.ntmps32
      go_wp2_with fail
      refine c1.out.mono ?_
      rintro e w1 ⟨rfl, rfl⟩
      go_wp2_with fail
      refine c2.out.mono ?_
      rintro e w1 ⟨rfl, rfl⟩
      go_wp2
      go_ret
      exact ⟨ret_bool (by rw [hk.out, hd.out, hE2]; first | rfl | (rw [hE3.out]; rfl)), rfl⟩
end Go.Proofs.YtjmnjcjpcmonjaaDoor.N2
