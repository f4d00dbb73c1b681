/- The contracts of the landed predicates on bytes and of prefix (layer 18). -/
import Derived.Test.YthmgocjmfhpafaaDoorA18Mem
import Derived.Test.YthmgocjmfhpafaaDoorShelf
namespace Go.Proofs.YthmgocjmfhpafaaDoor.A18
set_option maxRecDepth 100000
open Go.RowKit Mem
set_option linter.unusedVariables false
set_option linter.unusedSimpArgs false

/-- A predicate on bytes as a function of the program. -/
def Has (F : Nat) (p : UInt8 → Bool) : Prop := ∀ (c : UInt8) (w : World), Calls Tryd.prog F #[.int .u8 (c.toNat : Int)] w fun e w' => e = .returned (.bool (p c)) ∧ w = w'
/-- It has a body. -/
def Ent (F : Nat) : Prop := ∀ (v : Value) (w : World), (callFunc F #[v]).run Tryd.prog w = .ok (.enter F #[v]) w
theorem ent_digit : Ent 34 := fun _ _ => rfl
theorem ent_line : Ent 56 := fun _ _ => rfl
theorem ent_token : Ent 57 := fun _ _ => rfl
theorem ent_instruction : Ent 125 := fun _ _ => rfl
theorem ent_name : Ent 128 := fun _ _ => rfl
theorem tst (c : UInt8) (n : Nat) (hn : n < 256) : ((c.toNat : Int) == (n : Int)) = (c == UInt8.ofNat n) := by
  have : ((c.toNat : Int) == (n : Int)) = decide (c.toNat = n) := by
    rw [Bool.eq_iff_iff, beq_iff_eq, decide_eq_true_eq]; omega
  rw [this, Bool.eq_iff_iff, decide_eq_true_eq, beq_iff_eq]
  constructor
  · intro h; rw [← h]; simp
  · intro h; rw [h]; simp [Nat.mod_eq_of_lt hn]
theorem tsn (c : UInt8) (n : Nat) (hn : n < 256) : ((c.toNat : Int) != (n : Int)) = !(c == UInt8.ofNat n) := by
  rw [← tst c n hn]; rfl
set_option maxHeartbeats 2000000 in
theorem isDigit_any : Has 34 isDg := by
  intro c w
  unfold isDg
  obtain ⟨m, hm⟩ : ∃ m, c.toNat = m := ⟨_, rfl⟩
  rw [hm]
  clear hm
  by_cases h1 : 48 ≤ m
  · have t1 : decide ((48 : Int) ≤ (m : Int)) = true := decide_eq_true (by omega)
    by_cases h2 : m ≤ 57
    · have t2 : decide ((m : Int) ≤ 57) = true := decide_eq_true (by omega)
      rw [decide_eq_true h1, decide_eq_true h2]
      clear h1 h2
      go_enter Tryd.func34, Tryd.ntmps34
      go_wp2
      first | go_ret | skip
      exact ⟨rfl, rfl⟩
    · have t2 : decide ((m : Int) ≤ 57) = false := decide_eq_false (by omega)
      rw [decide_eq_true h1, decide_eq_false h2]
      clear h1 h2
      go_enter Tryd.func34, Tryd.ntmps34
      go_wp2
      first | go_ret | skip
      exact ⟨rfl, rfl⟩
  · have t1 : decide ((48 : Int) ≤ (m : Int)) = false := decide_eq_false (by omega)
    rw [decide_eq_false h1]
    clear h1
    go_enter Tryd.func34, Tryd.ntmps34
    go_wp2
    first | go_ret | skip
    exact ⟨rfl, rfl⟩
set_option maxHeartbeats 2000000 in
theorem isLetter_any : Has 127 isLt := by
  intro c w
  unfold isLt
  obtain ⟨m, hm⟩ : ∃ m, c.toNat = m := ⟨_, rfl⟩
  rw [hm]
  clear hm
  by_cases h1 : 97 ≤ m
  · have t1 : decide ((97 : Int) ≤ (m : Int)) = true := decide_eq_true (by omega)
    by_cases h2 : m ≤ 122
    · have t2 : decide ((m : Int) ≤ 122) = true := decide_eq_true (by omega)
      rw [decide_eq_true h1, decide_eq_true h2]
      clear h1 h2
      go_enter Tryd.func127, Tryd.ntmps127
      go_wp2
      first | go_ret | skip
      exact ⟨rfl, rfl⟩
    · have t2 : decide ((m : Int) ≤ 122) = false := decide_eq_false (by omega)
      rw [decide_eq_true h1, decide_eq_false h2]
      clear h1 h2
      go_enter Tryd.func127, Tryd.ntmps127
      go_wp2
      first | go_ret | skip
      exact ⟨rfl, rfl⟩
  · have t1 : decide ((97 : Int) ≤ (m : Int)) = false := decide_eq_false (by omega)
    rw [decide_eq_false h1]
    clear h1
    go_enter Tryd.func127, Tryd.ntmps127
    go_wp2
    first | go_ret | skip
    exact ⟨rfl, rfl⟩
/-- Where a byte is searched for in the signs. -/
theorem idx_sg (c : UInt8) : (isSg c = true → 0 ≤ Lib.indexByte sgs c) ∧ (isSg c = false → Lib.indexByte sgs c = -1) := by
  have h := all8 (P := fun c => if isSg c then decide (0 ≤ Lib.indexByte sgs c) else decide (Lib.indexByte sgs c = -1)) (by decide +kernel) c
  constructor
  · intro e; rw [e] at h; simpa using h
  · intro e; rw [e] at h; simpa using h
set_option maxHeartbeats 2000000 in
theorem isSign_any : Has 36 isSg := by
  intro c w
  have cI := fun W => Tryd.strings_IndexByte ⟨#[43, 45, 42, 47, 37, 94, 60, 64, 33, 63, 58, 59, 44, 46, 36]⟩ (c.toNat : Int) W
  rw [show ((c.toNat : Int)).toNat.toUInt8 = c by simp] at cI
  obtain ⟨i1, i2⟩ := idx_sg c
  obtain ⟨x, hx⟩ : ∃ x : Int, Lib.indexByte sgs c = x := ⟨_, rfl⟩
  rw [show (Lib.indexByte (ByteArray.mk #[43, 45, 42, 47, 37, 94, 60, 64, 33, 63, 58, 59, 44, 46, 36]).data.toList c) = x from hx] at cI
  rw [hx] at i1 i2
  have cI := Lib.hid cI
  obtain ⟨b, hb⟩ : ∃ b, isSg c = b := ⟨_, rfl⟩
  rw [hb] at i1 i2 ⊢
  clear hx hb
  cases b
  · obtain rfl := i2 rfl
    clear i1 i2
    go_enter Tryd.func36, Tryd.ntmps36
    go_wp2_with fail
    refine (cI.out _).mono ?_
    rintro e w1 ⟨rfl, rfl⟩
    go_wp2
    first | go_ret | skip
    exact ⟨rfl, rfl⟩
  · have t1 : decide ((0 : Int) ≤ x) = true := decide_eq_true (i1 rfl)
    clear i1 i2
    go_enter Tryd.func36, Tryd.ntmps36
    go_wp2_with fail
    refine (cI.out _).mono ?_
    rintro e w1 ⟨rfl, rfl⟩
    go_wp2
    first | go_ret | skip
    exact ⟨rfl, rfl⟩
set_option maxHeartbeats 2000000 in
theorem isSpace_any : Has 37 isSp := by
  intro c w
  have t1 := tst c 32 (by decide)
  have t2 := tst c 10 (by decide)
  rw [show ((32 : Nat) : Int) = 32 from rfl, show UInt8.ofNat 32 = 32 from rfl] at t1
  rw [show ((10 : Nat) : Int) = 10 from rfl, show UInt8.ofNat 10 = 10 from rfl] at t2
  unfold isSp
  obtain ⟨m, hm⟩ : ∃ m, c.toNat = m := ⟨_, rfl⟩
  rw [hm] at t1 t2 ⊢
  rcases e1 : (c == 32) with _ | _ <;> rcases e2 : (c == 10) with _ | _ <;> rw [e1] at t1 <;> rw [e2] at t2 <;> clear e1 e2 hm
  all_goals
    go_enter Tryd.func37, Tryd.ntmps37
    go_wp2
    first | go_ret | skip
    exact ⟨rfl, rfl⟩
set_option maxHeartbeats 2000000 in
theorem isInLine_any : Has 56 (fun c => !(c == 10)) := by
  intro c w
  have t2 := tsn c 10 (by decide)
  rw [show ((10 : Nat) : Int) = 10 from rfl, show UInt8.ofNat 10 = 10 from rfl] at t2
  show Calls _ _ _ _ fun e w' => e = Ending.returned (.bool (!(c == 10))) ∧ w = w'
  obtain ⟨m, hm⟩ : ∃ m, c.toNat = m := ⟨_, rfl⟩
  rw [hm] at t2 ⊢
  rcases e2 : (c == 10) with _ | _ <;> rw [e2] at t2 <;> clear e2 hm
  all_goals
    go_enter Tryd.func56, Tryd.ntmps56
    go_wp2
    first | go_ret | skip
    exact ⟨rfl, rfl⟩
set_option maxHeartbeats 2000000 in
theorem isInToken_any : Has 57 isTk := by
  intro c w
  have cS := Lib.hid isSpace_any
  have hS := cS.out c
  have t2 := tsn c 35 (by decide)
  rw [show ((35 : Nat) : Int) = 35 from rfl, show UInt8.ofNat 35 = 35 from rfl] at t2
  have hk : isTk c = (!isSp c && !(c == 35)) := by unfold isTk isSp; rcases (c == 32) with _ | _ <;> rcases (c == 10) with _ | _ <;> rfl
  rw [hk]
  obtain ⟨b, hb⟩ : ∃ b, isSp c = b := ⟨_, rfl⟩
  rw [hb] at hS ⊢
  obtain ⟨m, hm⟩ : ∃ m, c.toNat = m := ⟨_, rfl⟩
  rw [hm] at t2 hS ⊢
  replace hS := Lib.hid hS
  clear cS hk hb
  rcases e2 : (c == 35) with _ | _ <;> rw [e2] at t2 <;> clear e2 hm <;> cases b
  all_goals
    go_enter Tryd.func57, Tryd.ntmps57
    go_wp2_with fail
    refine (hS.out _).mono ?_
    rintro e w1 ⟨rfl, rfl⟩
    go_wp2
    first | go_ret | skip
    exact ⟨rfl, rfl⟩
set_option maxHeartbeats 2000000 in
theorem isInstruction_any : Has 125 isIn := by
  intro c w
  have h1 := isDigit_any c
  have h2 := isSign_any c
  unfold isIn
  obtain ⟨b, hb⟩ : ∃ b, isDg c = b := ⟨_, rfl⟩
  obtain ⟨d, hd⟩ : ∃ b, isSg c = b := ⟨_, rfl⟩
  rw [hb] at h1 ⊢
  rw [hd] at h2 ⊢
  obtain ⟨m, hm⟩ : ∃ m, c.toNat = m := ⟨_, rfl⟩
  rw [hm] at h1 h2 ⊢
  replace h1 := Lib.hid h1
  replace h2 := Lib.hid h2
  clear hm hb hd
  cases b
  · go_enter Tryd.func125, Tryd.ntmps125
    go_wp2_with fail
    refine (h1.out _).mono ?_
    rintro e w1 ⟨rfl, rfl⟩
    go_wp2_with fail
    refine (h2.out _).mono ?_
    rintro e w1 ⟨rfl, rfl⟩
    go_wp2
    first | go_ret | skip
    exact ⟨rfl, rfl⟩
  · go_enter Tryd.func125, Tryd.ntmps125
    go_wp2_with fail
    refine (h1.out _).mono ?_
    rintro e w1 ⟨rfl, rfl⟩
    go_wp2
    first | go_ret | skip
    exact ⟨rfl, rfl⟩
set_option maxHeartbeats 2000000 in
theorem isInName_any : Has 128 isNm := by
  intro c w
  have h1 := isLetter_any c
  have h2 := isDigit_any c
  have t2 := tst c 95 (by decide)
  rw [show ((95 : Nat) : Int) = 95 from rfl, show UInt8.ofNat 95 = 95 from rfl] at t2
  unfold isNm
  obtain ⟨b, hb⟩ : ∃ b, isLt c = b := ⟨_, rfl⟩
  obtain ⟨d, hd⟩ : ∃ b, isDg c = b := ⟨_, rfl⟩
  rw [hb] at h1 ⊢
  rw [hd] at h2 ⊢
  obtain ⟨m, hm⟩ : ∃ m, c.toNat = m := ⟨_, rfl⟩
  rw [hm] at h1 h2 t2 ⊢
  obtain ⟨q, hq⟩ : ∃ q, (c == 95) = q := ⟨_, rfl⟩
  rw [hq] at t2 ⊢
  replace h1 := Lib.hid h1
  replace h2 := Lib.hid h2
  clear hm hb hd hq
  cases b
  · cases d
    · cases q
      all_goals
        go_enter Tryd.func128, Tryd.ntmps128
        go_wp2_with fail
        refine (h1.out _).mono ?_
        rintro e w1 ⟨rfl, rfl⟩
        go_wp2_with fail
        refine (h2.out _).mono ?_
        rintro e w1 ⟨rfl, rfl⟩
        go_wp2
        first | go_ret | skip
        exact ⟨rfl, rfl⟩
    · go_enter Tryd.func128, Tryd.ntmps128
      go_wp2_with fail
      refine (h1.out _).mono ?_
      rintro e w1 ⟨rfl, rfl⟩
      go_wp2_with fail
      refine (h2.out _).mono ?_
      rintro e w1 ⟨rfl, rfl⟩
      go_wp2
      first | go_ret | skip
      exact ⟨rfl, rfl⟩
  · go_enter Tryd.func128, Tryd.ntmps128
    go_wp2_with fail
    refine (h1.out _).mono ?_
    rintro e w1 ⟨rfl, rfl⟩
    go_wp2
    first | go_ret | skip
    exact ⟨rfl, rfl⟩
/-- How many bytes at the beginning have a property. -/
def pre (p : UInt8 → Bool) (l : List UInt8) : Nat := (l.takeWhile p).length
theorem pre_at {p : UInt8 → Bool} {l : List UInt8} {k : Nat} (hk : k < l.length) (h : ∀ c ∈ l.take k, p c = true) (hn : p l[k] = false) : pre p l = k := by
  have e : l = l.take k ++ l[k] :: l.drop (k + 1) := by rw [List.getElem_cons_drop, List.take_append_drop]
  unfold pre
  rw [e, List.takeWhile_append_of_pos h, List.takeWhile_cons_of_neg (by rw [hn]; simp), List.append_nil, List.length_take]
  omega
theorem pre_all {p : UInt8 → Bool} {l : List UInt8} (h : ∀ c ∈ l, p c = true) : pre p l = l.length := by
  unfold pre
  have : l.takeWhile p = l := by
    have := List.takeWhile_append_of_pos (l₂ := []) h
    simpa using this
  rw [this]
set_option maxHeartbeats 4000000 in
theorem prefix_any {F : Nat} {p : UInt8 → Bool} (hF : Has F p) (hE : Ent F) (s : ByteArray) (hs : s.size ≤ 1000000) (w : World) :
    Calls Tryd.prog 35 #[.string s, .func (.func F) #[] #[]] w fun e w' => e = .returned (.int .i64 (pre p s.data.toList : Int)) ∧ w = w' := by
  have cF := Lib.hid hF
  replace hE := Lib.hid hE
  have hn : s.data.toList.length = s.size := by simp
  have h1 := Lib.hid (fun (k : Nat) (hk : k < s.size) (h : ∀ c ∈ s.data.toList.take k, p c = true) (hq : p s[k] = false) => pre_at (l := s.data.toList) (k := k) (by omega) h (by rw [ba_get s k hk]; exact hq))
  have h2 := Lib.hid (fun (h : ∀ c ∈ s.data.toList, p c = true) => (pre_all h).trans hn)
  replace hn := Lib.hid hn
  obtain ⟨Z, hZ⟩ : ∃ Z, pre p s.data.toList = Z := ⟨_, rfl⟩
  rw [hZ] at h1 h2 ⊢
  clear hZ hF
  go_enter Tryd.func35, Tryd.ntmps35
  go_wp2
  go_loop [8] (fun iv => ∃ (k : Nat), iv = .int .i64 (k : Int) ∧ k ≤ s.size ∧ Hid (∀ c ∈ s.data.toList.take k, p c = true)) (fun iv => s.size - (intOf iv).toNat)
  case atStart => exact ⟨0, rfl, Nat.zero_le _, Lib.hid (by simp)⟩
  case round =>
    obtain ⟨k, rfl, hk, hok⟩ := hrel
    by_cases hlt : k < s.size
    · have dk : decide ((k : Int) < (s.size : Int)) = true := decide_eq_true (by omega)
      have dk2 : decide (k < s.size) = true := decide_eq_true hlt
      have k0 : (0 : Int) ≤ (k : Int) := by omega
      have k1 : (k : Int) < (s.size : Int) := by omega
      have htk := List.take_succ_eq_append_getElem (l := s.data.toList) (i := k) (by rw [hn.out]; exact hlt)
      rw [ba_get s k hlt] at htk
      have h1k := h1.out k hlt hok.out
      have hc := cF.out s[k]
      obtain ⟨c, hcc⟩ : ∃ c, s[k] = c := ⟨_, rfl⟩
      rw [hcc] at htk h1k hc
      obtain ⟨b, hb⟩ : ∃ b, p c = b := ⟨_, rfl⟩
      rw [hb] at h1k hc
      cases b
      · have hz := h1k rfl
        subst hz
        have c1 := Lib.hid hc
        clear hok htk h1k hb hc h1 h2 hn cF
        go_wp2_with fail
        rw [hE.out, Oper.upon_enter]
        refine (c1.out _).mono ?_
        rintro e w3 ⟨rfl, rfl⟩
        go_wp2
        first | go_ret | skip
        exact ⟨rfl, rfl⟩
      · have hok2 : Hid (∀ c ∈ s.data.toList.take (k + 1), p c = true) := Lib.hid (by
          rw [htk]
          intro x hx
          rcases List.mem_append.1 hx with hx | hx
          · exact hok.out x hx
          · rw [List.mem_singleton.1 hx]; exact hb)
        have c1 := Lib.hid hc
        clear hok htk h1k hb hc h1 h2 hn cF
        go_wp2_with fail
        rw [hE.out, Oper.upon_enter]
        refine (c1.out _).mono ?_
        rintro e w3 ⟨rfl, rfl⟩
        go_wp2
        go_round
        case rel => exact ⟨k + 1, by go_num, by omega, hok2⟩
        case measure => simp [intOf]; omega
    · obtain rfl : k = s.size := by omega
      have dk : decide ((s.size : Int) < (s.size : Int)) = false := decide_eq_false (by omega)
      have hz := h2.out (by have := hok.out; rwa [List.take_of_length_le (by rw [hn.out]; exact Nat.le_refl _)] at this)
      subst hz
      clear h1 h2 hok hn cF
      go_wp2
      first | go_ret | skip
      exact ⟨rfl, rfl⟩
end Go.Proofs.YthmgocjmfhpafaaDoor.A18
