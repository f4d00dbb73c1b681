/- The contracts of the landed predicates on bytes and of prefix (layer 19). -/
import Derived.Test.YtpnnkdgoaeibbaaDoorL19Mem
import Derived.Test.YtpnnkdgoaeibbaaDoorShelf
namespace Go.Proofs.YtpnnkdgoaeibbaaDoor.L19
set_option maxRecDepth 100000
open Go.RowKit Mem
open A18 (ba_get drop_get ext_list str_of)
set_option linter.unusedVariables false
set_option linter.unusedSimpArgs false

/-- A predicate on bytes as a function of the program. -/
def Has (F : Nat) (p : UInt8 → Bool) : Prop := ∀ (c : UInt8) (w : World), Calls Tryd.prog F #[.int .u8 (c.toNat : Int)] w fun e w' => e = .returned (.bool (p c)) ∧ w = w'
/-- It has a body. -/
def Ent (F : Nat) : Prop := ∀ (v : Value) (w : World), (callFunc F #[v]).run Tryd.prog w = .ok (.enter F #[v]) w
theorem ent_digit : Ent 25 := fun _ _ => rfl
theorem ent_gap1 : Ent 20 := fun _ _ => rfl
theorem ent_gap2 : Ent 21 := fun _ _ => rfl
theorem ent_word1 : Ent 36 := fun _ _ => rfl
theorem tst (c : UInt8) (n : Nat) (hn : n < 256) : ((c.toNat : Int) == (n : Int)) = (c == UInt8.ofNat n) := by
  have : ((c.toNat : Int) == (n : Int)) = decide (c.toNat = n) := by
    rw [Bool.eq_iff_iff, beq_iff_eq, decide_eq_true_eq]; omega
  rw [this, Bool.eq_iff_iff, decide_eq_true_eq, beq_iff_eq]
  constructor
  · intro h; rw [← h]; simp
  · intro h; rw [h]; simp [Nat.mod_eq_of_lt hn]
theorem tsn (c : UInt8) (n : Nat) (hn : n < 256) : ((c.toNat : Int) != (n : Int)) = !(c == UInt8.ofNat n) := by
  rw [← tst c n hn]; rfl
theorem tle (c : UInt8) (n : Nat) : decide ((n : Int) ≤ (c.toNat : Int)) = decide (n ≤ c.toNat) := decide_eq_decide.2 (by omega)
theorem tge (c : UInt8) (n : Nat) : decide ((c.toNat : Int) ≤ (n : Int)) = decide (c.toNat ≤ n) := decide_eq_decide.2 (by omega)
set_option maxHeartbeats 2000000 in
theorem isDigit_any : Has 25 isDg := by
  intro c w
  have t1 := tle c 48
  have t2 := tge c 57
  unfold isDg
  rw [show ((48 : Nat) : Int) = 48 from rfl] at t1
  rw [show ((57 : Nat) : Int) = 57 from rfl] at t2
  generalize c.toNat = m at *
  rcases e1 : decide (48 ≤ m) with _ | _ <;> rcases e2 : decide (m ≤ 57) with _ | _ <;> rw [e1] at t1 <;> rw [e2] at t2 <;> clear e1 e2
  all_goals
    go_enter Tryd.func25, Tryd.ntmps25
    go_wp2
    first | go_ret | skip
    exact ⟨rfl, rfl⟩
set_option maxHeartbeats 2000000 in
theorem isSmall_any : Has 27 isLt := by
  intro c w
  have t1 := tle c 97
  have t2 := tge c 122
  unfold isLt
  rw [show ((97 : Nat) : Int) = 97 from rfl] at t1
  rw [show ((122 : Nat) : Int) = 122 from rfl] at t2
  generalize c.toNat = m at *
  rcases e1 : decide (97 ≤ m) with _ | _ <;> rcases e2 : decide (m ≤ 122) with _ | _ <;> rw [e1] at t1 <;> rw [e2] at t2 <;> clear e1 e2
  all_goals
    go_enter Tryd.func27, Tryd.ntmps27
    go_wp2
    first | go_ret | skip
    exact ⟨rfl, rfl⟩
set_option maxHeartbeats 2000000 in
theorem isLetter_any : Has 33 isLa := by
  intro c w
  have t1 := tle c 65
  have t2 := tge c 90
  have h1 := isSmall_any c
  unfold isLa isUp
  rw [show ((65 : Nat) : Int) = 65 from rfl] at t1
  rw [show ((90 : Nat) : Int) = 90 from rfl] at t2
  rcases b : isLt c with _ | _ <;> rw [b] at h1 <;> clear b <;> replace h1 := Lib.hid h1
  · generalize c.toNat = m at *
    rcases e1 : decide (65 ≤ m) with _ | _ <;> rcases e2 : decide (m ≤ 90) with _ | _ <;> rw [e1] at t1 <;> rw [e2] at t2 <;> clear e1 e2
    all_goals
      go_enter Tryd.func33, Tryd.ntmps33
      go_wp2_with fail
      refine (h1.out _).mono ?_
      rintro e w1 ⟨rfl, rfl⟩
      go_wp2
      first | go_ret | skip
      exact ⟨rfl, rfl⟩
  · generalize c.toNat = m at *
    clear t1 t2
    go_enter Tryd.func33, Tryd.ntmps33
    go_wp2_with fail
    refine (h1.out _).mono ?_
    rintro e w1 ⟨rfl, rfl⟩
    go_wp2
    first | go_ret | skip
    exact ⟨rfl, rfl⟩
set_option maxHeartbeats 2000000 in
theorem isQuotable_any : Has 38 isQt := by
  intro c w
  have t1 := tle c 32
  have t2 := tge c 126
  have t3 := tsn c 39 (by decide)
  have t4 := tsn c 92 (by decide)
  unfold isQt
  rw [show ((32 : Nat) : Int) = 32 from rfl] at t1
  rw [show ((126 : Nat) : Int) = 126 from rfl] at t2
  rw [show ((39 : Nat) : Int) = 39 from rfl, show UInt8.ofNat 39 = 39 from rfl] at t3
  rw [show ((92 : Nat) : Int) = 92 from rfl, show UInt8.ofNat 92 = 92 from rfl] at t4
  generalize (c == 39) = q3 at *
  generalize (c == 92) = q4 at *
  generalize c.toNat = m at *
  rcases e1 : decide (32 ≤ m) with _ | _ <;> rcases e2 : decide (m ≤ 126) with _ | _ <;> rw [e1] at t1 <;> rw [e2] at t2 <;> clear e1 e2 <;> cases q3 <;> cases q4
  all_goals
    go_enter Tryd.func38, Tryd.ntmps38
    go_wp2
    first | go_ret | skip
    exact ⟨rfl, rfl⟩
set_option maxHeartbeats 2000000 in
theorem gap1_any : Has 20 isLn := by
  intro c w
  have t2 := tsn c 10 (by decide)
  rw [show ((10 : Nat) : Int) = 10 from rfl, show UInt8.ofNat 10 = 10 from rfl] at t2
  unfold isLn
  generalize (c == 10) = q at *
  generalize c.toNat = m at *
  cases q
  all_goals
    go_enter Tryd.func20, Tryd.ntmps20
    go_wp2
    first | go_ret | skip
    exact ⟨rfl, rfl⟩
set_option maxHeartbeats 2000000 in
theorem gap2_any : Has 21 isBl := by
  intro c w
  have t1 := tst c 32 (by decide)
  have t2 := tst c 9 (by decide)
  have t3 := tst c 10 (by decide)
  rw [show ((32 : Nat) : Int) = 32 from rfl, show UInt8.ofNat 32 = 32 from rfl] at t1
  rw [show ((9 : Nat) : Int) = 9 from rfl, show UInt8.ofNat 9 = 9 from rfl] at t2
  rw [show ((10 : Nat) : Int) = 10 from rfl, show UInt8.ofNat 10 = 10 from rfl] at t3
  unfold isBl
  generalize (c == 32) = q1 at *
  generalize (c == 9) = q2 at *
  generalize (c == 10) = q3 at *
  generalize c.toNat = m at *
  cases q1 <;> cases q2 <;> cases q3
  all_goals
    go_enter Tryd.func21, Tryd.ntmps21
    go_wp2
    first | go_ret | skip
    exact ⟨rfl, rfl⟩
set_option maxHeartbeats 2000000 in
theorem word1_any : Has 36 isNm := by
  intro c w
  have h1 := isSmall_any c
  have h2 := isDigit_any c
  have t2 := tst c 95 (by decide)
  rw [show ((95 : Nat) : Int) = 95 from rfl, show UInt8.ofNat 95 = 95 from rfl] at t2
  unfold isNm
  generalize isLt c = b at *
  generalize isDg c = d at *
  generalize (c == 95) = q at *
  generalize c.toNat = m at *
  replace h1 := Lib.hid h1
  replace h2 := Lib.hid h2
  cases b
  · cases d
    · cases q
      all_goals
        go_enter Tryd.func36, Tryd.ntmps36
        go_wp2_with fail
        refine (h1.out _).mono ?_
        rintro e w1 ⟨rfl, rfl⟩
        go_wp2_with fail
        refine (h2.out _).mono ?_
        rintro e w1 ⟨rfl, rfl⟩
        go_wp2
        first | go_ret | skip
        exact ⟨rfl, rfl⟩
    · go_enter Tryd.func36, Tryd.ntmps36
      go_wp2_with fail
      refine (h1.out _).mono ?_
      rintro e w1 ⟨rfl, rfl⟩
      go_wp2_with fail
      refine (h2.out _).mono ?_
      rintro e w1 ⟨rfl, rfl⟩
      go_wp2
      first | go_ret | skip
      exact ⟨rfl, rfl⟩
  · go_enter Tryd.func36, Tryd.ntmps36
    go_wp2_with fail
    refine (h1.out _).mono ?_
    rintro e w1 ⟨rfl, rfl⟩
    go_wp2
    first | go_ret | skip
    exact ⟨rfl, rfl⟩
set_option maxHeartbeats 4000000 in
theorem prefix_any {F : Nat} {p : UInt8 → Bool} (hF : Has F p) (hE : Ent F) (s : ByteArray) (hs : s.size ≤ 1000000) (w : World) :
    Calls Tryd.prog 19 #[.string s, .func (.func F) #[] #[]] w fun e w' => e = .returned (.int .i64 (pre p s.data.toList : Int)) ∧ w = w' := by
  have cF := Lib.hid hF
  replace hE := Lib.hid hE
  have hn : s.data.toList.length = s.size := by simp
  have h1 := Lib.hid (fun (k : Nat) (hk : k < s.size) (h : ∀ c ∈ s.data.toList.take k, p c = true) (hq : p s[k] = false) => pre_at (l := s.data.toList) (k := k) (by omega) h (by rw [ba_get s k hk]; exact hq))
  have h2 := Lib.hid (fun (h : ∀ c ∈ s.data.toList, p c = true) => (pre_all h).trans hn)
  replace hn := Lib.hid hn
  obtain ⟨Z, hZ⟩ : ∃ Z, pre p s.data.toList = Z := ⟨_, rfl⟩
  rw [hZ] at h1 h2 ⊢
  clear hZ hF
  go_enter Tryd.func19, Tryd.ntmps19
  go_wp2
  go_loop [8] (fun iv => ∃ (k : Nat), iv = .int .i64 (k : Int) ∧ k ≤ s.size ∧ Hid (∀ c ∈ s.data.toList.take k, p c = true)) (fun iv => s.size - (intOf iv).toNat)
  case atStart => exact ⟨0, rfl, Nat.zero_le _, Lib.hid (by simp)⟩
  case round =>
    obtain ⟨k, rfl, hk, hok⟩ := hrel
    by_cases hlt : k < s.size
    · have dk : decide ((k : Int) < (s.size : Int)) = true := decide_eq_true (by omega)
      have dk2 : decide (k < s.size) = true := decide_eq_true hlt
      have k0 : (0 : Int) ≤ (k : Int) := by omega
      have k1 : (k : Int) < (s.size : Int) := by omega
      have htk := List.take_succ_eq_append_getElem (l := s.data.toList) (i := k) (by rw [hn.out]; exact hlt)
      rw [ba_get s k hlt] at htk
      have h1k := h1.out k hlt hok.out
      have hc := cF.out s[k]
      obtain ⟨c, hcc⟩ : ∃ c, s[k] = c := ⟨_, rfl⟩
      rw [hcc] at htk h1k hc
      obtain ⟨b, hb⟩ : ∃ b, p c = b := ⟨_, rfl⟩
      rw [hb] at h1k hc
      cases b
      · have hz := h1k rfl
        subst hz
        have c1 := Lib.hid hc
        clear hok htk h1k hb hc h1 h2 hn cF
        go_wp2_with fail
        rw [hE.out, Oper.upon_enter]
        refine (c1.out _).mono ?_
        rintro e w3 ⟨rfl, rfl⟩
        go_wp2
        first | go_ret | skip
        exact ⟨rfl, rfl⟩
      · have hok2 : Hid (∀ c ∈ s.data.toList.take (k + 1), p c = true) := Lib.hid (by
          rw [htk]
          intro x hx
          rcases List.mem_append.1 hx with hx | hx
          · exact hok.out x hx
          · rw [List.mem_singleton.1 hx]; exact hb)
        have c1 := Lib.hid hc
        clear hok htk h1k hb hc h1 h2 hn cF
        go_wp2_with fail
        rw [hE.out, Oper.upon_enter]
        refine (c1.out _).mono ?_
        rintro e w3 ⟨rfl, rfl⟩
        go_wp2
        go_round
        case rel => exact ⟨k + 1, by go_num, by omega, hok2⟩
        case measure => simp [intOf]; omega
    · obtain rfl : k = s.size := by omega
      have dk : decide ((s.size : Int) < (s.size : Int)) = false := decide_eq_false (by omega)
      have hz := h2.out (by have := hok.out; rwa [List.take_of_length_le (by rw [hn.out]; exact Nat.le_refl _)] at this)
      subst hz
      clear h1 h2 hok hn cF
      go_wp2
      first | go_ret | skip
      exact ⟨rfl, rfl⟩
end Go.Proofs.YtpnnkdgoaeibbaaDoor.L19
