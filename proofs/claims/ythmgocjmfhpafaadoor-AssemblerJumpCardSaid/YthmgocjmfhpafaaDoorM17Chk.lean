/- The contract of the landed Check of layer 17. -/
import Derived.Test.YthmgocjmfhpafaaDoorM17New
import Derived.Test.YthmgocjmfhpafaaDoorShelf
import Derived.Deep.Cut
namespace Go.Proofs.YthmgocjmfhpafaaDoor.M17
set_option maxRecDepth 100000
open Go.RowKit Mem
set_option linter.unusedVariables false
set_option linter.unusedSimpArgs false

/-! ### What may occur in a text -/
def sgs : List UInt8 := [43, 45, 42, 47, 37, 94, 60, 64, 33, 63, 58, 59, 44, 46, 36]
def base0 (c : UInt8) : Bool := (decide (48 ≤ c.toNat) && decide (c.toNat ≤ 57)) || decide (c.toNat = 32) || decide (c.toNat = 10)
def okc (c : UInt8) : Bool := base0 c || sgs.any (· == c)
theorem idx_tab : ∀ c : Fin 256, decide (0 ≤ Lib.indexByte sgs (UInt8.ofNat c.val)) = sgs.any (· == UInt8.ofNat c.val) := by decide +kernel
theorem idx_okc (c : UInt8) : decide (0 ≤ Lib.indexByte sgs c) = sgs.any (· == c) := by
  have := idx_tab ⟨c.toNat, UInt8.toNat_lt c⟩
  simpa using this
/-- What Check hands back. -/
def chkR (l : List UInt8) : Nat × Nat := match l.findIdx? fun c => !okc c with | some i => (i, 3) | none => (0, 0)
theorem chk_bad {l : List UInt8} {k : Nat} (hk : k < l.length) (h : ∀ c ∈ l.take k, okc c = true) (hb : okc l[k] = false) : chkR l = (k, 3) := by
  unfold chkR
  have : l.findIdx? (fun c => !okc c) = some k := by
    rw [List.findIdx?_eq_some_iff_getElem]
    refine ⟨hk, by rw [hb]; rfl, fun j hj => ?_⟩
    have := h l[j] (List.mem_take_iff_getElem.2 ⟨j, by omega, rfl⟩)
    rw [this]
    simp
  rw [this]
theorem chk_good {l : List UInt8} (h : ∀ c ∈ l, okc c = true) : chkR l = (0, 0) := by
  unfold chkR
  have : l.findIdx? (fun c => !okc c) = none := by
    rw [List.findIdx?_eq_none_iff]
    intro c hc
    rw [h c hc]
    rfl
  rw [this]
/-- The tests on a byte. -/
theorem tst (c : UInt8) (n : Nat) : ((c.toNat : Int) == (n : Int)) = decide (c.toNat = n) := by
  by_cases e : c.toNat = n
  · rw [decide_eq_true e, e]; simp
  · rw [decide_eq_false e]
    have : ¬ (c.toNat : Int) = (n : Int) := by omega
    simpa using this
set_option maxHeartbeats 4000000 in
theorem isCode_own (c : UInt8) (w : World) : Calls Tryd.prog 51 #[.int .u8 (c.toNat : Int)] w fun e w' => e = .returned (.bool (okc c)) ∧ w' = w := by
  have h8 := UInt8.toNat_lt c
  have cD := Lib.hid (isDigit_own c.toNat)
  have cI := fun W => Tryd.strings_IndexByte ⟨#[43, 45, 42, 47, 37, 94, 60, 64, 33, 63, 58, 59, 44, 46, 36]⟩ (c.toNat : Int) W
  rw [show ((c.toNat : Int)).toNat.toUInt8 = c by simp] at cI
  have hI := idx_okc c
  obtain ⟨x, hx⟩ : ∃ x : Int, Lib.indexByte sgs c = x := ⟨_, rfl⟩
  rw [show (Lib.indexByte (ByteArray.mk #[43, 45, 42, 47, 37, 94, 60, 64, 33, 63, 58, 59, 44, 46, 36]).data.toList c) = x from hx] at cI
  rw [hx] at hI
  have w1 : IntKind.u32.wrap (c.toNat : Int) = (c.toNat : Int) := by rw [IntKind.wrap_u32]; omega
  have w2 : (c.toNat : Int) % 4294967296 = (c.toNat : Int) := by omega
  have t32 := tst c 32
  have t10 := tst c 10
  rw [show ((32 : Nat) : Int) = 32 from rfl] at t32
  rw [show ((10 : Nat) : Int) = 10 from rfl] at t10
  unfold okc base0
  obtain ⟨m, hm⟩ : ∃ m, c.toNat = m := ⟨_, rfl⟩
  obtain ⟨any, hany⟩ : ∃ a, (sgs.any (· == c)) = a := ⟨_, rfl⟩
  rw [hany] at hI ⊢
  rw [hm] at h8 cD w1 w2 t32 t10 cI ⊢
  replace cI := Lib.hid cI
  clear hx hany
  by_cases h32 : m = 32
  · rw [decide_eq_true h32] at t32 ⊢
    simp only [Bool.or_true, Bool.true_or]
    clear hI t10 w1 w2 h32 cD cI hm h8
    go_enter Tryd.func51, Tryd.ntmps51
    go_wp2
    first | go_ret | skip
    exact ⟨rfl, rfl⟩
  rw [decide_eq_false h32] at t32 ⊢
  by_cases h10 : m = 10
  · rw [decide_eq_true h10] at t10 ⊢
    simp only [Bool.or_true, Bool.true_or]
    clear hI w1 w2 h32 h10 cD cI hm h8
    go_enter Tryd.func51, Tryd.ntmps51
    go_wp2
    first | go_ret | skip
    exact ⟨rfl, rfl⟩
  rw [decide_eq_false h10] at t10 ⊢
  simp only [Bool.or_false]
  have hdec : decide (48 ≤ m ∧ m ≤ 57) = (decide (48 ≤ m) && decide (m ≤ 57)) := by simp
  cases hd : (decide (48 ≤ m) && decide (m ≤ 57)) with
  | true =>
    have cD2 := Lib.hid (fun W => by have := cD.out W; rw [hdec, hd] at this; exact this)
    simp only [Bool.true_or]
    clear hI h32 h10 cI hm h8 hd hdec cD
    go_enter Tryd.func51, Tryd.ntmps51
    go_wp2_with fail
    refine (cD2.out _).mono ?_
    rintro e w3 ⟨rfl, rfl⟩
    go_wp2
    first | go_ret | skip
    exact ⟨rfl, rfl⟩
  | false =>
    have cD2 := Lib.hid (fun W => by have := cD.out W; rw [hdec, hd] at this; exact this)
    simp only [Bool.false_or]
    clear h32 h10 hm h8 hd hdec cD
    go_enter Tryd.func51, Tryd.ntmps51
    go_wp2_with fail
    refine (cD2.out _).mono ?_
    rintro e w3 ⟨rfl, rfl⟩
    go_wp2_with fail
    refine (cI.out _).mono ?_
    rintro e w4 ⟨rfl, rfl⟩
    cases any
    · go_wp2
      first | go_ret | skip
      exact ⟨rfl, rfl⟩
    · go_wp2
      first | go_ret | skip
      exact ⟨rfl, rfl⟩
/-- A byte of a string. -/
theorem ba_get (S : ByteArray) (k : Nat) (h : k < S.size) : S.data.toList[k]'(by simpa using h) = S[k] := by simp [ByteArray.getElem_eq_getElem_data]
set_option maxHeartbeats 4000000 in
theorem check_own (S : ByteArray) (hS : S.size ≤ 1000000) (w : World) : Calls Tryd.prog 24 #[.string S] w fun e w' => e = .returned (.tuple #[.int .i64 ((chkR S.data.toList).1 : Int), .int .i64 ((chkR S.data.toList).2 : Int)]) ∧ w' = w := by
  have cC := Lib.hid isCode_own
  obtain ⟨Q, hQ⟩ : ∃ Q, (fun (e : Ending) (w' : World) => e = .returned (.tuple #[.int .i64 ((chkR S.data.toList).1 : Int), .int .i64 ((chkR S.data.toList).2 : Int)]) ∧ w' = w) = Q := ⟨_, rfl⟩
  rw [hQ]
  have fin : ∀ i e : Nat, chkR S.data.toList = (i, e) → Q (.returned (.tuple #[.int .i64 (i : Int), .int .i64 (e : Int)])) w := fun i e h => by rw [← hQ]; exact ⟨by rw [h], rfl⟩
  replace fin := Lib.hid fin
  have hn : S.data.toList.length = S.size := by simp
  replace hn := Lib.hid hn
  clear hQ
  go_enter Tryd.func24, Tryd.ntmps24
  go_wp2
  go_loopw [7] (fun iv wr => ∃ (k : Nat), iv = .int .i64 (k : Int) ∧ k ≤ S.size ∧ wr = w ∧ Hid (∀ c ∈ S.data.toList.take k, okc c = true)) (fun iv _ => S.size - (intOf iv).toNat)
  case atStart => exact ⟨0, rfl, Nat.zero_le _, rfl, Lib.hid (by simp)⟩
  case round =>
    obtain ⟨k, rfl, hk, rfl, hok⟩ := hrel
    by_cases hlt : k < S.size
    · have dk : decide ((k : Int) < (S.size : Int)) = true := decide_eq_true (by omega)
      have dk2 : decide (k < S.size) = true := decide_eq_true hlt
      have k0 : (0 : Int) ≤ (k : Int) := by omega
      have k1 : (k : Int) < (S.size : Int) := by omega
      have k2 : (k : Int) + 1 ≤ 9223372036854775807 := by omega
      have hkl : k < S.data.toList.length := by rw [hn.out]; exact hlt
      have e1 := ba_get S k hlt
      have htk := List.take_succ_eq_append_getElem hkl
      have hbad := chk_bad hkl hok.out
      rw [e1] at htk hbad
      obtain ⟨c, hc⟩ : ∃ c, S[k] = c := ⟨_, rfl⟩
      rw [hc] at htk hbad
      cases ho : okc c with
      | true =>
        have hok2 : Hid (∀ c ∈ S.data.toList.take (k + 1), okc c = true) := Lib.hid (by
          rw [htk]
          intro x hx
          rcases List.mem_append.1 hx with hx | hx
          · exact hok.out x hx
          · rw [List.mem_singleton.1 hx]; exact ho)
        have c1 := Lib.hid (fun W => by have := cC.out c W; rw [ho] at this; exact this)
        clear hok htk hbad e1 ho
        go_wp2_with fail
        refine (c1.out _).mono ?_
        rintro e w3 ⟨rfl, rfl⟩
        go_wp2
        go_roundw
        case rel => exact ⟨k + 1, by go_num, by omega, (by first | rfl | trivial), hok2⟩
        case measure => simp [intOf]; omega
      | false =>
        have z := Lib.hid (fin.out k 3 (hbad ho))
        have c1 := Lib.hid (fun W => by have := cC.out c W; rw [ho] at this; exact this)
        clear hok htk hbad e1 ho
        go_wp2_with fail
        refine (c1.out _).mono ?_
        rintro e w3 ⟨rfl, rfl⟩
        go_wp2
        first | go_ret2 | skip
        exact z.out
    · obtain rfl : k = S.size := by omega
      have dk : decide ((S.size : Int) < (S.size : Int)) = false := decide_eq_false (by omega)
      have dk2 : decide (S.size < S.size) = false := decide_eq_false (by omega)
      have z := Lib.hid (fin.out 0 0 (chk_good (by have := hok.out; rwa [List.take_of_length_le (by rw [hn.out]; exact Nat.le_refl _)] at this)))
      clear hok
      go_wp2
      first | go_ret2 | skip
      exact z.out
end Go.Proofs.YthmgocjmfhpafaaDoor.M17
