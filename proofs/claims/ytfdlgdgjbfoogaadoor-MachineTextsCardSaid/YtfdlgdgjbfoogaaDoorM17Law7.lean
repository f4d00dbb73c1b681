/- MachineTexts, walked. -/
import Derived.Test.YtfdlgdgjbfoogaaDoorM17Alive
import Derived.Test.YtfdlgdgjbfoogaaDoorM17Lit
import Derived.Test.YtfdlgdgjbfoogaaDoorM17PAri
import Derived.Test.YtfdlgdgjbfoogaaDoorM17Law8
import Derived.Deep.Cut
namespace Go.Proofs.YtfdlgdgjbfoogaaDoor.M17
set_option maxRecDepth 100000
open Go.RowKit Mem
set_option linter.unusedVariables false
set_option linter.unusedSimpArgs false

/-! ### The reference's Literal -/
theorem one_conv (W : World) (a : UInt8) : (convert 37 9 (.slice (some ⟨W.heap.size, 0, none⟩) 1 1)).run Tryd.prog (W.alloc (.cells #[.int .u8 (a.toNat : Int)] 5)) = .ok (.string ⟨#[a]⟩) (W.alloc (.cells #[.int .u8 (a.toNat : Int)] 5)) := by
  have h : BAt (W.alloc (.cells #[.int .u8 (a.toNat : Int)] 5)) W.heap.size [a] := by
    intro j hj
    have hb : Blk 5 (W.alloc (.cells #[.int .u8 (a.toNat : Int)] 5)) W.heap.size [.int .u8 (a.toNat : Int)] := Blk.new W _ _
    have hj' : j < 1 := by simpa using hj
    refine ⟨?_, hb.frz j⟩
    rw [hb.cell j]
    match j, hj' with
    | 0, _ => rfl
  exact h.conv rfl Tryd.underlying37 Tryd.underlying5 Tryd.underlying9
/-- The digits of n with s behind them. -/
def litS (n : Nat) (s : List UInt8) : List UInt8 := (digs n).map UInt8.ofNat ++ s
theorem litS_small {n : Nat} (h : n < 10) (s : List UInt8) : litS n s = UInt8.ofNat (48 + n) :: s := by
  unfold litS
  rw [digs, if_pos h]
  rfl
theorem litS_big {n : Nat} (h : ¬ n < 10) (s : List UInt8) : litS n s = litS (n / 10) (UInt8.ofNat (48 + n % 10) :: s) := by
  unfold litS
  rw [digs, if_neg h, List.map_append, List.append_assoc]
  rfl
set_option maxHeartbeats 4000000 in
theorem rlit_any (n : Nat) (h : n < 4294967296) (w : World) : Calls Tryd.prog 11 #[.int .u32 (n : Int)] w fun e w' => e = .returned (.string ⟨((digs n).map UInt8.ofNat).toArray⟩) ∧ Below w.heap.size w w' := by
  obtain ⟨R, e⟩ : ∃ R : ByteArray, ⟨((digs n).map UInt8.ofNat).toArray⟩ = R := ⟨_, rfl⟩
  have hR : Hid (litS n [] = R.data.toList) := Lib.hid (by rw [← e]; unfold litS; simp)
  rw [e]
  clear e
  have cv := Lib.hid one_conv
  go_enter Tryd.func11, Tryd.ntmps11
  go_wp2
  go_loopw [0, 3] (fun nv sv wr => ∃ (k : Nat) (S : ByteArray), nv = .int .u32 (k : Int) ∧ sv = .string S ∧ k < 4294967296 ∧ Hid (litS k S.data.toList = R.data.toList) ∧ Hid (S.size + k ≤ n) ∧ Hid (Below w.heap.size w wr)) (fun nv _ _ => (intOf nv).toNat)
  case atStart => exact ⟨n, ⟨#[]⟩, rfl, rfl, h, hR, Lib.hid (by show 0 + n ≤ n; omega), Lib.hid (Below.refl _ _)⟩
  case round =>
    obtain ⟨k, S, rfl, rfl, hk, hS, hz, hb⟩ := hrel
    have hz1 := hz.out
    by_cases h10 : k < 10
    · have t1 : decide (10 ≤ (k : Int)) = false := decide_eq_false (by omega)
      obtain ⟨x, hx⟩ : ∃ x : UInt8, UInt8.ofNat (48 + k) = x := ⟨_, rfl⟩
      have x1 : (48 + (k : Int)) % 256 = (x.toNat : Int) := by rw [← hx]; simp
      have x2 : (48 + (k : Int)) = (x.toNat : Int) := by rw [← hx, UInt8.toNat_ofNat_of_lt' (by show 48 + k < 256; omega)]; omega
      have cx := cv.out wr x
      have hF : (⟨#[x]⟩ ++ S : ByteArray) = R := by
        have := hS.out
        rw [litS_small h10, hx] at this
        apply ByteArray.ext
        apply Array.ext'
        rw [← this]
        simp
      have hs : S.size ≤ 4294967296 := by omega
      clear hS hx hz1
      go_wp2
      first | go_ret | skip
      exact ⟨rfl, (hb.out.trans ((boxed wr _).mono hb.out.size))⟩
    · have t1 : decide (10 ≤ (k : Int)) = true := decide_eq_true (by omega)
      obtain ⟨d, hd⟩ : ∃ d, k % 10 = d := ⟨_, rfl⟩
      obtain ⟨q, hq⟩ : ∃ q, k / 10 = q := ⟨_, rfl⟩
      obtain ⟨x, hx⟩ : ∃ x : UInt8, UInt8.ofNat (48 + d) = x := ⟨_, rfl⟩
      have d0 : (k : Int) % 10 = (d : Int) := by omega
      have d1 : (k : Int).tmod 10 = (d : Int) := by rw [Int.tmod_eq_emod_of_nonneg (by omega)]; exact d0
      have d2 : (d : Int) < 10 := by omega
      have d3 : (0 : Int) ≤ (d : Int) := by omega
      have q0 : (k : Int) / 10 = (q : Int) := by omega
      have q1 : (k : Int).tdiv 10 = (q : Int) := by rw [Int.tdiv_eq_ediv_of_nonneg (by omega)]; exact q0
      have q2 : (q : Int) < 4294967296 := by omega
      have x2 : (48 + (d : Int)) = (x.toNat : Int) := by rw [← hx, UInt8.toNat_ofNat_of_lt' (by show 48 + d < 256; omega)]; omega
      have x1 : (48 + (d : Int)) % 256 = (x.toNat : Int) := by have := UInt8.toNat_lt x; omega
      have cx := cv.out wr x
      obtain ⟨F, hF⟩ : ∃ F : ByteArray, ⟨#[x]⟩ ++ S = F := ⟨_, rfl⟩
      have hFl : Hid (litS q F.data.toList = R.data.toList) := Lib.hid (by
        have := hS.out
        rw [litS_big h10, hd, hq, hx] at this
        rw [← this, ← hF]
        congr 1
        try simp)
      have hFs : Hid (F.size + q ≤ n) := Lib.hid (by
        have e : F.size = 1 + S.size := by
          rw [← hF, ByteArray.size_append]
          rfl
        omega)
      have hs : S.size ≤ 4294967296 := by omega
      have hb2 : Hid (Below w.heap.size w (wr.alloc (.cells #[.int .u8 (x.toNat : Int)] 5))) := Lib.hid (hb.out.trans ((boxed wr _).mono hb.out.size))
      have hm : q < k := by omega
      clear hS hx hd hq hz hz1 hb
      go_wp2
      go_roundw
      case rel => exact ⟨q, F, rfl, rfl, by omega, hFl, hFs, hb2⟩
      case measure => simp [intOf]; omega

/-! ### What may occur in a text -/
def sgs : List UInt8 := [43, 45, 42, 47, 37, 94, 60, 64, 33, 63, 58, 59, 44, 46, 36]
def base0 (c : UInt8) : Bool := (decide (48 ≤ c.toNat) && decide (c.toNat ≤ 57)) || decide (c.toNat = 32) || decide (c.toNat = 10)
def okc (c : UInt8) : Bool := base0 c || sgs.any (· == c)
theorem idx_tab : ∀ c : Fin 256, decide (0 ≤ Lib.indexByte sgs (UInt8.ofNat c.val)) = sgs.any (· == UInt8.ofNat c.val) := by decide +kernel
theorem idx_okc (c : UInt8) : decide (0 ≤ Lib.indexByte sgs c) = sgs.any (· == c) := by
  have := idx_tab ⟨c.toNat, UInt8.toNat_lt c⟩
  simpa using this
/-- What Check hands back. -/
def chkR (l : List UInt8) : Nat × Nat := match l.findIdx? fun c => !okc c with | some i => (i, 3) | none => (0, 0)
theorem chk_bad {l : List UInt8} {k : Nat} (hk : k < l.length) (h : ∀ c ∈ l.take k, okc c = true) (hb : okc l[k] = false) : chkR l = (k, 3) := by
  unfold chkR
  have : l.findIdx? (fun c => !okc c) = some k := by
    rw [List.findIdx?_eq_some_iff_getElem]
    refine ⟨hk, by rw [hb]; rfl, fun j hj => ?_⟩
    have := h l[j] (List.mem_take_iff_getElem.2 ⟨j, by omega, rfl⟩)
    rw [this]
    simp
  rw [this]
theorem chk_good {l : List UInt8} (h : ∀ c ∈ l, okc c = true) : chkR l = (0, 0) := by
  unfold chkR
  have : l.findIdx? (fun c => !okc c) = none := by
    rw [List.findIdx?_eq_none_iff]
    intro c hc
    rw [h c hc]
    rfl
  rw [this]
/-- The tests on a byte. -/
theorem tst (c : UInt8) (n : Nat) : ((c.toNat : Int) == (n : Int)) = decide (c.toNat = n) := by
  by_cases e : c.toNat = n
  · rw [decide_eq_true e, e]; simp
  · rw [decide_eq_false e]
    have : ¬ (c.toNat : Int) = (n : Int) := by omega
    simpa using this
set_option maxHeartbeats 4000000 in
theorem isCode_own (c : UInt8) (w : World) : Calls Tryd.prog 14 #[.int .u8 (c.toNat : Int)] w fun e w' => e = .returned (.bool (okc c)) ∧ w' = w := by
  have h8 := UInt8.toNat_lt c
  have cD := Lib.hid (isDigit_own c.toNat)
  have cI := fun W => Tryd.strings_IndexByte ⟨#[43, 45, 42, 47, 37, 94, 60, 64, 33, 63, 58, 59, 44, 46, 36]⟩ (c.toNat : Int) W
  rw [show ((c.toNat : Int)).toNat.toUInt8 = c by simp] at cI
  have hI := idx_okc c
  obtain ⟨x, hx⟩ : ∃ x : Int, Lib.indexByte sgs c = x := ⟨_, rfl⟩
  rw [show (Lib.indexByte (ByteArray.mk #[43, 45, 42, 47, 37, 94, 60, 64, 33, 63, 58, 59, 44, 46, 36]).data.toList c) = x from hx] at cI
  rw [hx] at hI
  have w1 : IntKind.u32.wrap (c.toNat : Int) = (c.toNat : Int) := by rw [IntKind.wrap_u32]; omega
  have w2 : (c.toNat : Int) % 4294967296 = (c.toNat : Int) := by omega
  have t32 := tst c 32
  have t10 := tst c 10
  rw [show ((32 : Nat) : Int) = 32 from rfl] at t32
  rw [show ((10 : Nat) : Int) = 10 from rfl] at t10
  unfold okc base0
  obtain ⟨m, hm⟩ : ∃ m, c.toNat = m := ⟨_, rfl⟩
  obtain ⟨any, hany⟩ : ∃ a, (sgs.any (· == c)) = a := ⟨_, rfl⟩
  rw [hany] at hI ⊢
  rw [hm] at h8 cD w1 w2 t32 t10 cI ⊢
  replace cI := Lib.hid cI
  clear hx hany
  by_cases h32 : m = 32
  · rw [decide_eq_true h32] at t32 ⊢
    simp only [Bool.or_true, Bool.true_or]
    clear hI t10 w1 w2 h32 cD cI hm h8
    go_enter Tryd.func14, Tryd.ntmps14
    go_wp2
    first | go_ret | skip
    exact ⟨rfl, rfl⟩
  rw [decide_eq_false h32] at t32 ⊢
  by_cases h10 : m = 10
  · rw [decide_eq_true h10] at t10 ⊢
    simp only [Bool.or_true, Bool.true_or]
    clear hI w1 w2 h32 h10 cD cI hm h8
    go_enter Tryd.func14, Tryd.ntmps14
    go_wp2
    first | go_ret | skip
    exact ⟨rfl, rfl⟩
  rw [decide_eq_false h10] at t10 ⊢
  simp only [Bool.or_false]
  have hdec : decide (48 ≤ m ∧ m ≤ 57) = (decide (48 ≤ m) && decide (m ≤ 57)) := by simp
  cases hd : (decide (48 ≤ m) && decide (m ≤ 57)) with
  | true =>
    have cD2 := Lib.hid (fun W => by have := cD.out W; rw [hdec, hd] at this; exact this)
    simp only [Bool.true_or]
    clear hI h32 h10 cI hm h8 hd hdec cD
    go_enter Tryd.func14, Tryd.ntmps14
    go_wp2_with fail
    refine (cD2.out _).mono ?_
    rintro e w3 ⟨rfl, rfl⟩
    go_wp2
    first | go_ret | skip
    exact ⟨rfl, rfl⟩
  | false =>
    have cD2 := Lib.hid (fun W => by have := cD.out W; rw [hdec, hd] at this; exact this)
    simp only [Bool.false_or]
    clear h32 h10 hm h8 hd hdec cD
    go_enter Tryd.func14, Tryd.ntmps14
    go_wp2_with fail
    refine (cD2.out _).mono ?_
    rintro e w3 ⟨rfl, rfl⟩
    go_wp2_with fail
    refine (cI.out _).mono ?_
    rintro e w4 ⟨rfl, rfl⟩
    cases any
    · go_wp2
      first | go_ret | skip
      exact ⟨rfl, rfl⟩
    · go_wp2
      first | go_ret | skip
      exact ⟨rfl, rfl⟩
/-- A byte of a string. -/
theorem ba_get (S : ByteArray) (k : Nat) (h : k < S.size) : S.data.toList[k]'(by simpa using h) = S[k] := by simp [ByteArray.getElem_eq_getElem_data]
set_option maxHeartbeats 4000000 in
theorem check_own (S : ByteArray) (hS : S.size ≤ 1000000) (w : World) : Calls Tryd.prog 7 #[.string S] w fun e w' => e = .returned (.tuple #[.int .i64 ((chkR S.data.toList).1 : Int), .int .i64 ((chkR S.data.toList).2 : Int)]) ∧ w' = w := by
  have cC := Lib.hid isCode_own
  obtain ⟨Q, hQ⟩ : ∃ Q, (fun (e : Ending) (w' : World) => e = .returned (.tuple #[.int .i64 ((chkR S.data.toList).1 : Int), .int .i64 ((chkR S.data.toList).2 : Int)]) ∧ w' = w) = Q := ⟨_, rfl⟩
  rw [hQ]
  have fin : ∀ i e : Nat, chkR S.data.toList = (i, e) → Q (.returned (.tuple #[.int .i64 (i : Int), .int .i64 (e : Int)])) w := fun i e h => by rw [← hQ]; exact ⟨by rw [h], rfl⟩
  replace fin := Lib.hid fin
  have hn : S.data.toList.length = S.size := by simp
  replace hn := Lib.hid hn
  clear hQ
  go_enter Tryd.func7, Tryd.ntmps7
  go_wp2
  go_loopw [7] (fun iv wr => ∃ (k : Nat), iv = .int .i64 (k : Int) ∧ k ≤ S.size ∧ wr = w ∧ Hid (∀ c ∈ S.data.toList.take k, okc c = true)) (fun iv _ => S.size - (intOf iv).toNat)
  case atStart => exact ⟨0, rfl, Nat.zero_le _, rfl, Lib.hid (by simp)⟩
  case round =>
    obtain ⟨k, rfl, hk, rfl, hok⟩ := hrel
    by_cases hlt : k < S.size
    · have dk : decide ((k : Int) < (S.size : Int)) = true := decide_eq_true (by omega)
      have dk2 : decide (k < S.size) = true := decide_eq_true hlt
      have k0 : (0 : Int) ≤ (k : Int) := by omega
      have k1 : (k : Int) < (S.size : Int) := by omega
      have k2 : (k : Int) + 1 ≤ 9223372036854775807 := by omega
      have hkl : k < S.data.toList.length := by rw [hn.out]; exact hlt
      have e1 := ba_get S k hlt
      have htk := List.take_succ_eq_append_getElem hkl
      have hbad := chk_bad hkl hok.out
      rw [e1] at htk hbad
      obtain ⟨c, hc⟩ : ∃ c, S[k] = c := ⟨_, rfl⟩
      rw [hc] at htk hbad
      cases ho : okc c with
      | true =>
        have hok2 : Hid (∀ c ∈ S.data.toList.take (k + 1), okc c = true) := Lib.hid (by
          rw [htk]
          intro x hx
          rcases List.mem_append.1 hx with hx | hx
          · exact hok.out x hx
          · rw [List.mem_singleton.1 hx]; exact ho)
        have c1 := Lib.hid (fun W => by have := cC.out c W; rw [ho] at this; exact this)
        clear hok htk hbad e1 ho
        go_wp2_with fail
        refine (c1.out _).mono ?_
        rintro e w3 ⟨rfl, rfl⟩
        go_wp2
        go_roundw
        case rel => exact ⟨k + 1, by go_num, by omega, (by first | rfl | trivial), hok2⟩
        case measure => simp [intOf]; omega
      | false =>
        have z := Lib.hid (fin.out k 3 (hbad ho))
        have c1 := Lib.hid (fun W => by have := cC.out c W; rw [ho] at this; exact this)
        clear hok htk hbad e1 ho
        go_wp2_with fail
        refine (c1.out _).mono ?_
        rintro e w3 ⟨rfl, rfl⟩
        go_wp2
        first | go_ret2 | skip
        exact z.out
    · obtain rfl : k = S.size := by omega
      have dk : decide ((S.size : Int) < (S.size : Int)) = false := decide_eq_false (by omega)
      have dk2 : decide (S.size < S.size) = false := decide_eq_false (by omega)
      have z := Lib.hid (fin.out 0 0 (chk_good (by have := hok.out; rwa [List.take_of_length_le (by rw [hn.out]; exact Nat.le_refl _)] at this)))
      clear hok
      go_wp2
      first | go_ret2 | skip
      exact z.out
/-! ### The reference's Check -/
theorem base0_dig {c : UInt8} (h1 : 48 ≤ c.toNat) (h2 : c.toNat ≤ 57) : base0 c = true := by unfold base0; rw [decide_eq_true h1, decide_eq_true h2]; rfl
theorem base0_32 {c : UInt8} (h : c.toNat = 32) : base0 c = true := by unfold base0; rw [decide_eq_true h]; simp
theorem base0_10 {c : UInt8} (h : c.toNat = 10) : base0 c = true := by unfold base0; rw [decide_eq_true h]; simp
theorem base0_no {c : UInt8} (h : ¬ (48 ≤ c.toNat ∧ c.toNat ≤ 57)) (h2 : ¬ c.toNat = 32) (h3 : ¬ c.toNat = 10) : base0 c = false := by
  unfold base0
  rw [decide_eq_false h2, decide_eq_false h3]
  by_cases h4 : 48 ≤ c.toNat
  · rw [decide_eq_false (show ¬ c.toNat ≤ 57 from fun h5 => h ⟨h4, h5⟩)]; simp
  · rw [decide_eq_false h4]; rfl
theorem any_take (c : UInt8) (k : Nat) (hk : k < 15) : (sgs.take (k + 1)).any (· == c) = ((sgs.take k).any (· == c) || sgs[k]'(by simpa [sgs] using hk) == c) := by
  have h : k < sgs.length := by simpa [sgs] using hk
  rw [List.take_succ_eq_append_getElem h, List.any_append]
  simp
theorem u8_eq (x c : UInt8) : ((x.toNat : Int) == (c.toNat : Int)) = (x == c) := by
  by_cases e : x = c
  · subst e; simp
  · have h : ¬ (x.toNat : Int) = (c.toNat : Int) := fun h => e (UInt8.toNat_inj.1 (by omega))
    have h1 : ((x.toNat : Int) == (c.toNat : Int)) = false := by simpa using h
    have h2 : (x == c) = false := by simpa using e
    rw [h1, h2]
theorem sgs_at (c : UInt8) : (((43 : Int) == (c.toNat : Int)) = ((43 : UInt8) == c)) ∧ (((45 : Int) == (c.toNat : Int)) = ((45 : UInt8) == c)) ∧ (((42 : Int) == (c.toNat : Int)) = ((42 : UInt8) == c)) ∧ (((47 : Int) == (c.toNat : Int)) = ((47 : UInt8) == c)) ∧ (((37 : Int) == (c.toNat : Int)) = ((37 : UInt8) == c)) ∧ (((94 : Int) == (c.toNat : Int)) = ((94 : UInt8) == c)) ∧ (((60 : Int) == (c.toNat : Int)) = ((60 : UInt8) == c)) ∧ (((64 : Int) == (c.toNat : Int)) = ((64 : UInt8) == c)) ∧ (((33 : Int) == (c.toNat : Int)) = ((33 : UInt8) == c)) ∧ (((63 : Int) == (c.toNat : Int)) = ((63 : UInt8) == c)) ∧ (((58 : Int) == (c.toNat : Int)) = ((58 : UInt8) == c)) ∧ (((59 : Int) == (c.toNat : Int)) = ((59 : UInt8) == c)) ∧ (((44 : Int) == (c.toNat : Int)) = ((44 : UInt8) == c)) ∧ (((46 : Int) == (c.toNat : Int)) = ((46 : UInt8) == c)) ∧ (((36 : Int) == (c.toNat : Int)) = ((36 : UInt8) == c)) :=
  ⟨u8_eq 43 c, u8_eq 45 c, u8_eq 42 c, u8_eq 47 c, u8_eq 37 c, u8_eq 94 c, u8_eq 60 c, u8_eq 64 c, u8_eq 33 c, u8_eq 63 c, u8_eq 58 c, u8_eq 59 c, u8_eq 44 c, u8_eq 46 c, u8_eq 36 c⟩
set_option maxHeartbeats 8000000 in
theorem rcheck_any (S : ByteArray) (hS : S.size ≤ 1000000) (w : World) : Calls Tryd.prog 8 #[.string S] w fun e w' => e = .returned (.tuple #[.int .i64 ((chkR S.data.toList).1 : Int), .int .i64 ((chkR S.data.toList).2 : Int)]) ∧ w' = w := by
  obtain ⟨Q, hQ⟩ : ∃ Q, (fun (e : Ending) (w' : World) => e = .returned (.tuple #[.int .i64 ((chkR S.data.toList).1 : Int), .int .i64 ((chkR S.data.toList).2 : Int)]) ∧ w' = w) = Q := ⟨_, rfl⟩
  rw [hQ]
  have fin : ∀ i e : Nat, chkR S.data.toList = (i, e) → Q (.returned (.tuple #[.int .i64 (i : Int), .int .i64 (e : Int)])) w := fun i e h => by rw [← hQ]; exact ⟨by rw [h], rfl⟩
  replace fin := Lib.hid fin
  have hn : S.data.toList.length = S.size := by simp
  replace hn := Lib.hid hn
  clear hQ
  go_enter Tryd.func8, Tryd.ntmps8
  go_wp2
  go_loopw [4] (fun iv wr => ∃ (k : Nat), iv = .int .i64 (k : Int) ∧ k ≤ S.size ∧ wr = w ∧ Hid (∀ c ∈ S.data.toList.take k, okc c = true)) (fun iv _ => S.size - (intOf iv).toNat)
  case atStart => exact ⟨0, rfl, Nat.zero_le _, rfl, Lib.hid (by simp)⟩
  case round =>
    obtain ⟨k, rfl, hk, rfl, hok⟩ := hrel
    by_cases hlt : k < S.size
    · have dk : decide ((k : Int) < (S.size : Int)) = true := decide_eq_true (by omega)
      have dk2 : decide (k < S.size) = true := decide_eq_true hlt
      have k0 : (0 : Int) ≤ (k : Int) := by omega
      have k1 : (k : Int) < (S.size : Int) := by omega
      have k2 : (k : Int) + 1 ≤ 9223372036854775807 := by omega
      have hkl : k < S.data.toList.length := by rw [hn.out]; exact hlt
      have e1 := ba_get S k hlt
      have htk := List.take_succ_eq_append_getElem hkl
      have hbad := chk_bad hkl hok.out
      rw [e1] at htk hbad
      obtain ⟨c, hc⟩ : ∃ c, S[k] = c := ⟨_, rfl⟩
      rw [hc] at htk hbad
      have hok2 : Hid (okc c = true → ∀ c ∈ S.data.toList.take (k + 1), okc c = true) := Lib.hid (fun ho => by
        rw [htk]
        intro x hx
        rcases List.mem_append.1 hx with hx | hx
        · exact hok.out x hx
        · rw [List.mem_singleton.1 hx]; exact ho)
      have z := Lib.hid (fun ho => fin.out k 3 (hbad ho))
      have h8 := UInt8.toNat_lt c
      have t32 := tst c 32
      have t10 := tst c 10
      rw [show ((32 : Nat) : Int) = 32 from rfl] at t32
      rw [show ((10 : Nat) : Int) = 10 from rfl] at t10
      clear hok htk hbad e1
      obtain ⟨bz, hbz⟩ : ∃ b, base0 c = b := ⟨_, rfl⟩
      replace hbz := Lib.hid hbz
      go_upto_region 5 with fail
      go_cut [6] from 17 to 30 (fun ok W => ok = .bool bz ∧ W = wr)
      case first =>
        by_cases q1 : 48 ≤ c.toNat
        · have u1 : decide (48 ≤ (c.toNat : Int)) = true := decide_eq_true (by omega)
          by_cases q2 : c.toNat ≤ 57
          · have u2 : decide ((c.toNat : Int) ≤ 57) = true := decide_eq_true (by omega)
            have hv : bz = true := by rw [← hbz.out]; exact base0_dig q1 q2
            subst hv
            clear q1 q2 t32 t10
            go_wp2
            go_meet
            exact ⟨rfl, rfl⟩
          · have u2 : decide ((c.toNat : Int) ≤ 57) = false := decide_eq_false (by omega)
            have hv : bz = false := by rw [← hbz.out]; exact base0_no (by omega) (by omega) (by omega)
            subst hv
            rw [decide_eq_false (show ¬ c.toNat = 32 by omega)] at t32
            rw [decide_eq_false (show ¬ c.toNat = 10 by omega)] at t10
            clear q1 q2
            go_wp2
            go_meet
            exact ⟨rfl, rfl⟩
        · have u1 : decide (48 ≤ (c.toNat : Int)) = false := decide_eq_false (by omega)
          by_cases q2 : c.toNat = 32
          · have hv : bz = true := by rw [← hbz.out]; exact base0_32 q2
            subst hv
            rw [decide_eq_true q2] at t32
            clear q1 q2 t10
            go_wp2
            go_meet
            exact ⟨rfl, rfl⟩
          · rw [decide_eq_false q2] at t32
            by_cases q3 : c.toNat = 10
            · have hv : bz = true := by rw [← hbz.out]; exact base0_10 q3
              subst hv
              rw [decide_eq_true q3] at t10
              clear q1 q2 q3
              go_wp2
              go_meet
              exact ⟨rfl, rfl⟩
            · have hv : bz = false := by rw [← hbz.out]; exact base0_no (by omega) q2 q3
              subst hv
              rw [decide_eq_false q3] at t10
              clear q1 q2 q3
              go_wp2
              go_meet
              exact ⟨rfl, rfl⟩
      case rest =>
        obtain ⟨rfl, hw⟩ := hcut
        rcases hw.symm with rfl
        clear t32 t10
        go_wp2
        go_loopw [6, 7] (fun ov jv wi => ∃ (j : Nat) (ok : Bool), ov = .bool ok ∧ jv = .int .i64 (j : Int) ∧ j ≤ 15 ∧ wi = wr ∧ Hid (ok = (bz || (sgs.take j).any (· == c)))) (fun _ jv _ => 15 - (intOf jv).toNat)
        case atStart => exact ⟨0, bz, rfl, rfl, by omega, rfl, Lib.hid (by simp)⟩
        case round =>
          obtain ⟨j, ok, rfl, rfl, hj, rfl, hok⟩ := hrel
          by_cases hj15 : j < 15
          · have dj : decide ((j : Int) < 15) = true := decide_eq_true (by omega)
            have hnx : ∀ ok', ok' = (ok || sgs[j]'(by simpa [sgs] using hj15) == c) → Hid (ok' = (bz || (sgs.take (j + 1)).any (· == c))) := fun ok' h => Lib.hid (by rw [h, hok.out, any_take c j hj15, Bool.or_assoc])
            replace hnx := Lib.hid hnx
            obtain ⟨g0, g1, g2, g3, g4, g5, g6, g7, g8, g9, g10, g11, g12, g13, g14⟩ := sgs_at c
            have hcs : j = 0 ∨ j = 1 ∨ j = 2 ∨ j = 3 ∨ j = 4 ∨ j = 5 ∨ j = 6 ∨ j = 7 ∨ j = 8 ∨ j = 9 ∨ j = 10 ∨ j = 11 ∨ j = 12 ∨ j = 13 ∨ j = 14 := by omega
            clear hok
            rcases hcs with rfl | rfl | rfl | rfl | rfl | rfl | rfl | rfl | rfl | rfl | rfl | rfl | rfl | rfl | rfl
            · obtain ⟨q, hq⟩ : ∃ q, ((43 : UInt8) == c) = q := ⟨_, rfl⟩
              rw [hq] at g0
              have h2 : ∀ ok', ok' = (ok || q) → Hid (ok' = (bz || (sgs.take 1).any (· == c))) := fun ok' h => hnx.out ok' (by rw [h, ← hq]; rfl)
              replace h2 := Lib.hid h2
              clear hnx hq g1 g2 g3 g4 g5 g6 g7 g8 g9 g10 g11 g12 g13 g14
              rcases ok with _ | _
              · rcases q with _ | _
                · have h3 := h2.out false rfl
                  go_wp2
                  go_roundw
                  case rel => exact ⟨1, false, congrArg Value.bool g0, rfl, by omega, (by first | rfl | trivial), h3⟩
                  case measure => simp [intOf]
                · have h3 := h2.out true rfl
                  go_wp2
                  go_roundw
                  case rel => exact ⟨1, true, congrArg Value.bool g0, rfl, by omega, (by first | rfl | trivial), h3⟩
                  case measure => simp [intOf]
              · have h3 := h2.out true rfl
                go_wp2
                go_roundw
                case rel => exact ⟨1, true, rfl, rfl, by omega, (by first | rfl | trivial), h3⟩
                case measure => simp [intOf]
            · obtain ⟨q, hq⟩ : ∃ q, ((45 : UInt8) == c) = q := ⟨_, rfl⟩
              rw [hq] at g1
              have h2 : ∀ ok', ok' = (ok || q) → Hid (ok' = (bz || (sgs.take 2).any (· == c))) := fun ok' h => hnx.out ok' (by rw [h, ← hq]; rfl)
              replace h2 := Lib.hid h2
              clear hnx hq g0 g2 g3 g4 g5 g6 g7 g8 g9 g10 g11 g12 g13 g14
              rcases ok with _ | _
              · rcases q with _ | _
                · have h3 := h2.out false rfl
                  go_wp2
                  go_roundw
                  case rel => exact ⟨2, false, congrArg Value.bool g1, rfl, by omega, (by first | rfl | trivial), h3⟩
                  case measure => simp [intOf]
                · have h3 := h2.out true rfl
                  go_wp2
                  go_roundw
                  case rel => exact ⟨2, true, congrArg Value.bool g1, rfl, by omega, (by first | rfl | trivial), h3⟩
                  case measure => simp [intOf]
              · have h3 := h2.out true rfl
                go_wp2
                go_roundw
                case rel => exact ⟨2, true, rfl, rfl, by omega, (by first | rfl | trivial), h3⟩
                case measure => simp [intOf]
            · obtain ⟨q, hq⟩ : ∃ q, ((42 : UInt8) == c) = q := ⟨_, rfl⟩
              rw [hq] at g2
              have h2 : ∀ ok', ok' = (ok || q) → Hid (ok' = (bz || (sgs.take 3).any (· == c))) := fun ok' h => hnx.out ok' (by rw [h, ← hq]; rfl)
              replace h2 := Lib.hid h2
              clear hnx hq g0 g1 g3 g4 g5 g6 g7 g8 g9 g10 g11 g12 g13 g14
              rcases ok with _ | _
              · rcases q with _ | _
                · have h3 := h2.out false rfl
                  go_wp2
                  go_roundw
                  case rel => exact ⟨3, false, congrArg Value.bool g2, rfl, by omega, (by first | rfl | trivial), h3⟩
                  case measure => simp [intOf]
                · have h3 := h2.out true rfl
                  go_wp2
                  go_roundw
                  case rel => exact ⟨3, true, congrArg Value.bool g2, rfl, by omega, (by first | rfl | trivial), h3⟩
                  case measure => simp [intOf]
              · have h3 := h2.out true rfl
                go_wp2
                go_roundw
                case rel => exact ⟨3, true, rfl, rfl, by omega, (by first | rfl | trivial), h3⟩
                case measure => simp [intOf]
            · obtain ⟨q, hq⟩ : ∃ q, ((47 : UInt8) == c) = q := ⟨_, rfl⟩
              rw [hq] at g3
              have h2 : ∀ ok', ok' = (ok || q) → Hid (ok' = (bz || (sgs.take 4).any (· == c))) := fun ok' h => hnx.out ok' (by rw [h, ← hq]; rfl)
              replace h2 := Lib.hid h2
              clear hnx hq g0 g1 g2 g4 g5 g6 g7 g8 g9 g10 g11 g12 g13 g14
              rcases ok with _ | _
              · rcases q with _ | _
                · have h3 := h2.out false rfl
                  go_wp2
                  go_roundw
                  case rel => exact ⟨4, false, congrArg Value.bool g3, rfl, by omega, (by first | rfl | trivial), h3⟩
                  case measure => simp [intOf]
                · have h3 := h2.out true rfl
                  go_wp2
                  go_roundw
                  case rel => exact ⟨4, true, congrArg Value.bool g3, rfl, by omega, (by first | rfl | trivial), h3⟩
                  case measure => simp [intOf]
              · have h3 := h2.out true rfl
                go_wp2
                go_roundw
                case rel => exact ⟨4, true, rfl, rfl, by omega, (by first | rfl | trivial), h3⟩
                case measure => simp [intOf]
            · obtain ⟨q, hq⟩ : ∃ q, ((37 : UInt8) == c) = q := ⟨_, rfl⟩
              rw [hq] at g4
              have h2 : ∀ ok', ok' = (ok || q) → Hid (ok' = (bz || (sgs.take 5).any (· == c))) := fun ok' h => hnx.out ok' (by rw [h, ← hq]; rfl)
              replace h2 := Lib.hid h2
              clear hnx hq g0 g1 g2 g3 g5 g6 g7 g8 g9 g10 g11 g12 g13 g14
              rcases ok with _ | _
              · rcases q with _ | _
                · have h3 := h2.out false rfl
                  go_wp2
                  go_roundw
                  case rel => exact ⟨5, false, congrArg Value.bool g4, rfl, by omega, (by first | rfl | trivial), h3⟩
                  case measure => simp [intOf]
                · have h3 := h2.out true rfl
                  go_wp2
                  go_roundw
                  case rel => exact ⟨5, true, congrArg Value.bool g4, rfl, by omega, (by first | rfl | trivial), h3⟩
                  case measure => simp [intOf]
              · have h3 := h2.out true rfl
                go_wp2
                go_roundw
                case rel => exact ⟨5, true, rfl, rfl, by omega, (by first | rfl | trivial), h3⟩
                case measure => simp [intOf]
            · obtain ⟨q, hq⟩ : ∃ q, ((94 : UInt8) == c) = q := ⟨_, rfl⟩
              rw [hq] at g5
              have h2 : ∀ ok', ok' = (ok || q) → Hid (ok' = (bz || (sgs.take 6).any (· == c))) := fun ok' h => hnx.out ok' (by rw [h, ← hq]; rfl)
              replace h2 := Lib.hid h2
              clear hnx hq g0 g1 g2 g3 g4 g6 g7 g8 g9 g10 g11 g12 g13 g14
              rcases ok with _ | _
              · rcases q with _ | _
                · have h3 := h2.out false rfl
                  go_wp2
                  go_roundw
                  case rel => exact ⟨6, false, congrArg Value.bool g5, rfl, by omega, (by first | rfl | trivial), h3⟩
                  case measure => simp [intOf]
                · have h3 := h2.out true rfl
                  go_wp2
                  go_roundw
                  case rel => exact ⟨6, true, congrArg Value.bool g5, rfl, by omega, (by first | rfl | trivial), h3⟩
                  case measure => simp [intOf]
              · have h3 := h2.out true rfl
                go_wp2
                go_roundw
                case rel => exact ⟨6, true, rfl, rfl, by omega, (by first | rfl | trivial), h3⟩
                case measure => simp [intOf]
            · obtain ⟨q, hq⟩ : ∃ q, ((60 : UInt8) == c) = q := ⟨_, rfl⟩
              rw [hq] at g6
              have h2 : ∀ ok', ok' = (ok || q) → Hid (ok' = (bz || (sgs.take 7).any (· == c))) := fun ok' h => hnx.out ok' (by rw [h, ← hq]; rfl)
              replace h2 := Lib.hid h2
              clear hnx hq g0 g1 g2 g3 g4 g5 g7 g8 g9 g10 g11 g12 g13 g14
              rcases ok with _ | _
              · rcases q with _ | _
                · have h3 := h2.out false rfl
                  go_wp2
                  go_roundw
                  case rel => exact ⟨7, false, congrArg Value.bool g6, rfl, by omega, (by first | rfl | trivial), h3⟩
                  case measure => simp [intOf]
                · have h3 := h2.out true rfl
                  go_wp2
                  go_roundw
                  case rel => exact ⟨7, true, congrArg Value.bool g6, rfl, by omega, (by first | rfl | trivial), h3⟩
                  case measure => simp [intOf]
              · have h3 := h2.out true rfl
                go_wp2
                go_roundw
                case rel => exact ⟨7, true, rfl, rfl, by omega, (by first | rfl | trivial), h3⟩
                case measure => simp [intOf]
            · obtain ⟨q, hq⟩ : ∃ q, ((64 : UInt8) == c) = q := ⟨_, rfl⟩
              rw [hq] at g7
              have h2 : ∀ ok', ok' = (ok || q) → Hid (ok' = (bz || (sgs.take 8).any (· == c))) := fun ok' h => hnx.out ok' (by rw [h, ← hq]; rfl)
              replace h2 := Lib.hid h2
              clear hnx hq g0 g1 g2 g3 g4 g5 g6 g8 g9 g10 g11 g12 g13 g14
              rcases ok with _ | _
              · rcases q with _ | _
                · have h3 := h2.out false rfl
                  go_wp2
                  go_roundw
                  case rel => exact ⟨8, false, congrArg Value.bool g7, rfl, by omega, (by first | rfl | trivial), h3⟩
                  case measure => simp [intOf]
                · have h3 := h2.out true rfl
                  go_wp2
                  go_roundw
                  case rel => exact ⟨8, true, congrArg Value.bool g7, rfl, by omega, (by first | rfl | trivial), h3⟩
                  case measure => simp [intOf]
              · have h3 := h2.out true rfl
                go_wp2
                go_roundw
                case rel => exact ⟨8, true, rfl, rfl, by omega, (by first | rfl | trivial), h3⟩
                case measure => simp [intOf]
            · obtain ⟨q, hq⟩ : ∃ q, ((33 : UInt8) == c) = q := ⟨_, rfl⟩
              rw [hq] at g8
              have h2 : ∀ ok', ok' = (ok || q) → Hid (ok' = (bz || (sgs.take 9).any (· == c))) := fun ok' h => hnx.out ok' (by rw [h, ← hq]; rfl)
              replace h2 := Lib.hid h2
              clear hnx hq g0 g1 g2 g3 g4 g5 g6 g7 g9 g10 g11 g12 g13 g14
              rcases ok with _ | _
              · rcases q with _ | _
                · have h3 := h2.out false rfl
                  go_wp2
                  go_roundw
                  case rel => exact ⟨9, false, congrArg Value.bool g8, rfl, by omega, (by first | rfl | trivial), h3⟩
                  case measure => simp [intOf]
                · have h3 := h2.out true rfl
                  go_wp2
                  go_roundw
                  case rel => exact ⟨9, true, congrArg Value.bool g8, rfl, by omega, (by first | rfl | trivial), h3⟩
                  case measure => simp [intOf]
              · have h3 := h2.out true rfl
                go_wp2
                go_roundw
                case rel => exact ⟨9, true, rfl, rfl, by omega, (by first | rfl | trivial), h3⟩
                case measure => simp [intOf]
            · obtain ⟨q, hq⟩ : ∃ q, ((63 : UInt8) == c) = q := ⟨_, rfl⟩
              rw [hq] at g9
              have h2 : ∀ ok', ok' = (ok || q) → Hid (ok' = (bz || (sgs.take 10).any (· == c))) := fun ok' h => hnx.out ok' (by rw [h, ← hq]; rfl)
              replace h2 := Lib.hid h2
              clear hnx hq g0 g1 g2 g3 g4 g5 g6 g7 g8 g10 g11 g12 g13 g14
              rcases ok with _ | _
              · rcases q with _ | _
                · have h3 := h2.out false rfl
                  go_wp2
                  go_roundw
                  case rel => exact ⟨10, false, congrArg Value.bool g9, rfl, by omega, (by first | rfl | trivial), h3⟩
                  case measure => simp [intOf]
                · have h3 := h2.out true rfl
                  go_wp2
                  go_roundw
                  case rel => exact ⟨10, true, congrArg Value.bool g9, rfl, by omega, (by first | rfl | trivial), h3⟩
                  case measure => simp [intOf]
              · have h3 := h2.out true rfl
                go_wp2
                go_roundw
                case rel => exact ⟨10, true, rfl, rfl, by omega, (by first | rfl | trivial), h3⟩
                case measure => simp [intOf]
            · obtain ⟨q, hq⟩ : ∃ q, ((58 : UInt8) == c) = q := ⟨_, rfl⟩
              rw [hq] at g10
              have h2 : ∀ ok', ok' = (ok || q) → Hid (ok' = (bz || (sgs.take 11).any (· == c))) := fun ok' h => hnx.out ok' (by rw [h, ← hq]; rfl)
              replace h2 := Lib.hid h2
              clear hnx hq g0 g1 g2 g3 g4 g5 g6 g7 g8 g9 g11 g12 g13 g14
              rcases ok with _ | _
              · rcases q with _ | _
                · have h3 := h2.out false rfl
                  go_wp2
                  go_roundw
                  case rel => exact ⟨11, false, congrArg Value.bool g10, rfl, by omega, (by first | rfl | trivial), h3⟩
                  case measure => simp [intOf]
                · have h3 := h2.out true rfl
                  go_wp2
                  go_roundw
                  case rel => exact ⟨11, true, congrArg Value.bool g10, rfl, by omega, (by first | rfl | trivial), h3⟩
                  case measure => simp [intOf]
              · have h3 := h2.out true rfl
                go_wp2
                go_roundw
                case rel => exact ⟨11, true, rfl, rfl, by omega, (by first | rfl | trivial), h3⟩
                case measure => simp [intOf]
            · obtain ⟨q, hq⟩ : ∃ q, ((59 : UInt8) == c) = q := ⟨_, rfl⟩
              rw [hq] at g11
              have h2 : ∀ ok', ok' = (ok || q) → Hid (ok' = (bz || (sgs.take 12).any (· == c))) := fun ok' h => hnx.out ok' (by rw [h, ← hq]; rfl)
              replace h2 := Lib.hid h2
              clear hnx hq g0 g1 g2 g3 g4 g5 g6 g7 g8 g9 g10 g12 g13 g14
              rcases ok with _ | _
              · rcases q with _ | _
                · have h3 := h2.out false rfl
                  go_wp2
                  go_roundw
                  case rel => exact ⟨12, false, congrArg Value.bool g11, rfl, by omega, (by first | rfl | trivial), h3⟩
                  case measure => simp [intOf]
                · have h3 := h2.out true rfl
                  go_wp2
                  go_roundw
                  case rel => exact ⟨12, true, congrArg Value.bool g11, rfl, by omega, (by first | rfl | trivial), h3⟩
                  case measure => simp [intOf]
              · have h3 := h2.out true rfl
                go_wp2
                go_roundw
                case rel => exact ⟨12, true, rfl, rfl, by omega, (by first | rfl | trivial), h3⟩
                case measure => simp [intOf]
            · obtain ⟨q, hq⟩ : ∃ q, ((44 : UInt8) == c) = q := ⟨_, rfl⟩
              rw [hq] at g12
              have h2 : ∀ ok', ok' = (ok || q) → Hid (ok' = (bz || (sgs.take 13).any (· == c))) := fun ok' h => hnx.out ok' (by rw [h, ← hq]; rfl)
              replace h2 := Lib.hid h2
              clear hnx hq g0 g1 g2 g3 g4 g5 g6 g7 g8 g9 g10 g11 g13 g14
              rcases ok with _ | _
              · rcases q with _ | _
                · have h3 := h2.out false rfl
                  go_wp2
                  go_roundw
                  case rel => exact ⟨13, false, congrArg Value.bool g12, rfl, by omega, (by first | rfl | trivial), h3⟩
                  case measure => simp [intOf]
                · have h3 := h2.out true rfl
                  go_wp2
                  go_roundw
                  case rel => exact ⟨13, true, congrArg Value.bool g12, rfl, by omega, (by first | rfl | trivial), h3⟩
                  case measure => simp [intOf]
              · have h3 := h2.out true rfl
                go_wp2
                go_roundw
                case rel => exact ⟨13, true, rfl, rfl, by omega, (by first | rfl | trivial), h3⟩
                case measure => simp [intOf]
            · obtain ⟨q, hq⟩ : ∃ q, ((46 : UInt8) == c) = q := ⟨_, rfl⟩
              rw [hq] at g13
              have h2 : ∀ ok', ok' = (ok || q) → Hid (ok' = (bz || (sgs.take 14).any (· == c))) := fun ok' h => hnx.out ok' (by rw [h, ← hq]; rfl)
              replace h2 := Lib.hid h2
              clear hnx hq g0 g1 g2 g3 g4 g5 g6 g7 g8 g9 g10 g11 g12 g14
              rcases ok with _ | _
              · rcases q with _ | _
                · have h3 := h2.out false rfl
                  go_wp2
                  go_roundw
                  case rel => exact ⟨14, false, congrArg Value.bool g13, rfl, by omega, (by first | rfl | trivial), h3⟩
                  case measure => simp [intOf]
                · have h3 := h2.out true rfl
                  go_wp2
                  go_roundw
                  case rel => exact ⟨14, true, congrArg Value.bool g13, rfl, by omega, (by first | rfl | trivial), h3⟩
                  case measure => simp [intOf]
              · have h3 := h2.out true rfl
                go_wp2
                go_roundw
                case rel => exact ⟨14, true, rfl, rfl, by omega, (by first | rfl | trivial), h3⟩
                case measure => simp [intOf]
            · obtain ⟨q, hq⟩ : ∃ q, ((36 : UInt8) == c) = q := ⟨_, rfl⟩
              rw [hq] at g14
              have h2 : ∀ ok', ok' = (ok || q) → Hid (ok' = (bz || (sgs.take 15).any (· == c))) := fun ok' h => hnx.out ok' (by rw [h, ← hq]; rfl)
              replace h2 := Lib.hid h2
              clear hnx hq g0 g1 g2 g3 g4 g5 g6 g7 g8 g9 g10 g11 g12 g13
              rcases ok with _ | _
              · rcases q with _ | _
                · have h3 := h2.out false rfl
                  go_wp2
                  go_roundw
                  case rel => exact ⟨15, false, congrArg Value.bool g14, rfl, by omega, (by first | rfl | trivial), h3⟩
                  case measure => simp [intOf]
                · have h3 := h2.out true rfl
                  go_wp2
                  go_roundw
                  case rel => exact ⟨15, true, congrArg Value.bool g14, rfl, by omega, (by first | rfl | trivial), h3⟩
                  case measure => simp [intOf]
              · have h3 := h2.out true rfl
                go_wp2
                go_roundw
                case rel => exact ⟨15, true, rfl, rfl, by omega, (by first | rfl | trivial), h3⟩
                case measure => simp [intOf]
          · obtain rfl : j = 15 := by omega
            have ho : okc c = ok := by
              unfold okc
              rw [hbz.out, hok.out]
              rfl
            clear hok
            rcases ok with _ | _
            · have z2 := Lib.hid (z.out ho)
              clear z ho
              go_wp2
              first | go_ret2 | skip
              exact z2.out
            · have h3 := Lib.hid (hok2.out ho)
              clear z ho hok2
              go_wp2
              go_roundw
              case rel => exact ⟨k + 1, by go_num, by omega, (by first | rfl | trivial), h3⟩
              case measure => simp [intOf]; omega
    · obtain rfl : k = S.size := by omega
      have dk : decide ((S.size : Int) < (S.size : Int)) = false := decide_eq_false (by omega)
      have dk2 : decide (S.size < S.size) = false := decide_eq_false (by omega)
      have z := Lib.hid (fin.out 0 0 (chk_good (by have := hok.out; rwa [List.take_of_length_le (by rw [hn.out]; exact Nat.le_refl _)] at this)))
      clear hok
      go_wp2
      first | go_ret2 | skip
      exact z.out
theorem signs_own (w : World) : Calls Tryd.prog 9 #[] w fun e w' => e = .returned (.string ⟨#[43, 45, 42, 47, 37, 94, 60, 64, 33, 63, 58, 59, 44, 46, 36]⟩) ∧ w' = w := by
  go_enter Tryd.func9, Tryd.ntmps9
  go_wp2
  first | go_ret | skip
  exact ⟨rfl, rfl⟩
set_option maxHeartbeats 4000000 in
theorem walk_texts (S : ByteArray) (hS : S.size ≤ 140737488351232) (n : Nat) (hn : n < 4294967296) (w : World) (hL : Laid w) :
    Calls Tryd.prog 3 #[.string S, .int .u32 (n : Int)] w fun e w' => e = .returned (.bool true) ∧ Below w.heap.size w w' := by
  have cA := Lib.hid (alive_any w)
  go_enter Tryd.func3, Tryd.ntmps3
  go_wp2_with fail
  refine (cA.out).mono ?_
  rintro e w1 ⟨rfl, hb1⟩
  have hL1 := Lib.hid (hL.below hb1)
  replace hb1 := Lib.hid hb1
  by_cases hbig : 3000 < S.size
  · have u0 : decide ((3000 : Int) < (S.size : Int)) = true := decide_eq_true (by omega)
    have u1 : decide (3000 < S.size) = true := decide_eq_true hbig
    go_wp2
    first | go_ret | skip
    exact ⟨rfl, hb1.out⟩
  have u0 : decide ((3000 : Int) < (S.size : Int)) = false := decide_eq_false (by omega)
  have u1 : decide (3000 < S.size) = false := decide_eq_false hbig
  have c1 := fun W => check_own S (by omega) W
  have c2 := fun W => rcheck_any S (by omega) W
  obtain ⟨x, hx⟩ : ∃ x : Int, ((chkR S.data.toList).1 : Int) = x := ⟨_, rfl⟩
  obtain ⟨y, hy⟩ : ∃ y : Int, ((chkR S.data.toList).2 : Int) = y := ⟨_, rfl⟩
  rw [hx, hy] at c1 c2
  have c3 := Lib.hid signs_own
  have c4 := fun W (h : Laid W) => lit_any n hn W h
  have c5 := fun W => rlit_any n hn W
  obtain ⟨D, hD⟩ : ∃ D : ByteArray, ⟨((digs n).map UInt8.ofNat).toArray⟩ = D := ⟨_, rfl⟩
  rw [hD] at c4 c5
  have hDD : (D.toList == D.toList) = true := beq_self_eq_true _
  replace c1 := Lib.hid c1
  replace c2 := Lib.hid c2
  replace c4 := Lib.hid c4
  replace c5 := Lib.hid c5
  clear hx hy hD hbig cA hL
  go_wp2_with fail
  refine (c1.out _).mono ?_
  rintro e w2 ⟨rfl, rfl⟩
  go_wp2_with fail
  refine (c2.out _).mono ?_
  rintro e w3 ⟨rfl, rfl⟩
  go_wp2_with fail
  refine (c3.out _).mono ?_
  rintro e w4 ⟨rfl, rfl⟩
  go_wp2_with fail
  refine (c4.out _ hL1.out).mono ?_
  rintro e w5 ⟨rfl, hb2⟩
  have hb3 := Lib.hid (chain hb1.out hb2)
  clear hb1 hb2 hL1
  go_wp2_with fail
  refine (c5.out _).mono ?_
  rintro e w6 ⟨rfl, hb4⟩
  have hb5 := Lib.hid (chain hb3.out hb4)
  clear hb3 hb4
  go_wp2
  first | go_ret | skip
  exact ⟨rfl, hb5.out⟩
/-- The same at what the reading says. -/
theorem row_texts (S : ByteArray) (k : Int) (w : World) (hL : Laid w) (hS : S.size ≤ 140737488351232) (q : (Lit.int .u32 k).wf = true) : Calls Tryd.prog 3 #[.string S, .int .u32 k] w fun e w' => e = .returned (.bool true) ∧ Below w.heap.size w w' := by
  have h1 : 0 ≤ k ∧ k ≤ 4294967295 := (Lit.wf_int_iff .u32 _).1 q
  obtain ⟨n, rfl⟩ : ∃ n : Nat, k = (n : Int) := ⟨k.toNat, by omega⟩
  exact walk_texts S hS n (by omega) w hL
end Go.Proofs.YtfdlgdgjbfoogaaDoor.M17
