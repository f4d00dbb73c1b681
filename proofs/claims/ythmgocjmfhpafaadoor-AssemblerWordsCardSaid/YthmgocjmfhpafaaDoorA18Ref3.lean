/- The contracts of the reference's join, address, six (layer 18). -/
import Derived.Test.YthmgocjmfhpafaaDoorA18Ref2
import Derived.Test.YthmgocjmfhpafaaDoorA18Map
namespace Go.Proofs.YthmgocjmfhpafaaDoor.A18
set_option maxRecDepth 100000
open Go.RowKit Mem
set_option linter.unusedVariables false
set_option linter.unusedSimpArgs false

theorem cat_list (a b : ByteArray) : (a ++ b).data.toList = a.data.toList ++ b.data.toList := by rw [ByteArray.data_append]; simp
theorem strV_of (s : ByteArray) {l : List UInt8} (h : s.data.toList = l) : strV l = .string s := by subst h; rfl
theorem endsD_eq {l : List UInt8} {c : UInt8} (h : l.getLast? = some c) : endsD l = isDg c := by unfold endsD; rw [h]
theorem begD_eq {l : List UInt8} {c : UInt8} (h : l.head? = some c) : begD l = isDg c := by unfold begD; rw [h]
set_option maxHeartbeats 8000000 in
theorem rjoin_any (t m : ByteArray) (ht : t.size ≤ 1000000) (hm : m.size ≤ 1000000) (w : World) : Calls Tryd.prog 67 #[.string t, .string m] w fun e w' => e = .returned (strV (addT t.data.toList m.data.toList)) ∧ w = w' := by
  have t6 : (t.size : Int) ≤ 1000000 := by omega
  have m6 : (m.size : Int) ≤ 1000000 := by omega
  have plain : (endsD t.data.toList && begD m.data.toList) = false → strV (addT t.data.toList m.data.toList) = .string (t ++ m) := fun h => by
    unfold addT
    rw [h]
    exact strV_of _ (cat_list t m)
  have spaced : (endsD t.data.toList && begD m.data.toList) = true → strV (addT t.data.toList m.data.toList) = .string (t ++ ⟨#[32]⟩ ++ m) := fun h => by
    unfold addT
    rw [h]
    exact strV_of _ (by rw [cat_list, cat_list]; simp)
  obtain ⟨R, hR⟩ : ∃ R, strV (addT t.data.toList m.data.toList) = R := ⟨_, rfl⟩
  rw [hR] at plain spaced ⊢
  clear hR
  by_cases h0 : t.size = 0
  · have hp := plain (by have : t.data.toList = [] := List.eq_nil_of_length_eq_zero (by simpa using h0); rw [this]; rfl)
    obtain rfl := str_empty h0
    replace hp := Lib.hid hp
    clear plain spaced h0
    go_enter Tryd.func67, Tryd.ntmps67
    go_wp2
    first | go_ret | skip
    exact ⟨by rw [hp.out]; rfl, rfl⟩
  obtain ⟨e1, e2, e3⟩ := str_ne h0
  by_cases h1 : m.size = 0
  · have hp := plain (by have : m.data.toList = [] := List.eq_nil_of_length_eq_zero (by simpa using h1); rw [this]; simp [begD])
    obtain rfl := str_empty h1
    have hte : t ++ ByteArray.empty = t := by apply ByteArray.ext; rw [ByteArray.data_append]; simp
    rw [hte] at hp
    replace hp := Lib.hid hp
    clear hte
    clear plain spaced h0 h1
    go_enter Tryd.func67, Tryd.ntmps67
    go_wp2
    first | go_ret | skip
    exact ⟨by rw [hp.out]; rfl, rfl⟩
  obtain ⟨f1, f2, f3⟩ := str_ne h1
  have hp : 0 < t.size := by omega
  have hq : 0 < m.size := by omega
  have hqI : (0 : Int) < (m.size : Int) := by omega
  have hl := last_get t hp
  have hh := begD_eq (head_get m hq)
  obtain ⟨J, hJ⟩ : ∃ J, t.size - 1 = J := ⟨_, rfl⟩
  have hJs : J < t.size := by omega
  have hl : t.data.toList.getLast? = some t[J] := by rw [hl]; simp only [hJ]
  have hl := endsD_eq hl
  have eJ : (t.size : Int) - 1 = (J : Int) := by omega
  have J0 : (0 : Int) ≤ (J : Int) := by omega
  have J1 : (J : Int) < (t.size : Int) := by omega
  have c1 := rdigit_any t[J]
  have c2 := rdigit_any m[0]
  rcases x1 : isDg t[J] with _ | _
  · rw [x1] at c1 hl
    have hp := Lib.hid (plain (by rw [hl]; rfl))
    replace c1 := Lib.hid c1
    clear plain spaced x1 hl hh hJ h0 h1 c2
    go_enter Tryd.func67, Tryd.ntmps67
    go_wp2_with fail
    refine (c1.out _).mono ?_
    rintro e w1 ⟨rfl, rfl⟩
    go_wp2
    first | go_ret | skip
    exact ⟨by rw [hp.out]; rfl, rfl⟩
  · rw [x1] at c1 hl
    rcases x2 : isDg m[0] with _ | _
    · rw [x2] at c2 hh
      have hp := Lib.hid (plain (by rw [hl, hh]; rfl))
      replace c1 := Lib.hid c1
      replace c2 := Lib.hid c2
      clear plain spaced x1 x2 hl hh hJ h0 h1
      go_enter Tryd.func67, Tryd.ntmps67
      go_wp2_with fail
      refine (c1.out _).mono ?_
      rintro e w1 ⟨rfl, rfl⟩
      go_wp2_with fail
      refine (c2.out _).mono ?_
      rintro e w1 ⟨rfl, rfl⟩
      go_wp2
      first | go_ret | skip
      exact ⟨by rw [hp.out]; rfl, rfl⟩
    · rw [x2] at c2 hh
      have hp := Lib.hid (spaced (by rw [hl, hh]; rfl))
      replace c1 := Lib.hid c1
      replace c2 := Lib.hid c2
      clear plain spaced x1 x2 hl hh hJ h0 h1
      go_enter Tryd.func67, Tryd.ntmps67
      go_wp2_with fail
      refine (c1.out _).mono ?_
      rintro e w1 ⟨rfl, rfl⟩
      go_wp2_with fail
      refine (c2.out _).mono ?_
      rintro e w1 ⟨rfl, rfl⟩
      go_wp2
      first | go_ret | skip
      exact ⟨by rw [hp.out]; rfl, rfl⟩
/-! ### address -/
theorem look_hit {l : List (List UInt8 × Int)} {k : Nat} {n : List UInt8} {z : Int} (h : l[k]? = some (n, z)) (hno : ∀ (j : Nat) (p : List UInt8 × Int), j < k → l[j]? = some p → p.1 ≠ n) : look l n = z := by
  obtain ⟨hk, e⟩ := List.getElem?_eq_some_iff.1 h
  have e2 : l = l.take k ++ (n, z) :: l.drop (k + 1) := by rw [← e, List.getElem_cons_drop, List.take_append_drop]
  unfold look
  rw [e2, List.find?_append]
  have h1 : (l.take k).find? (fun p => p.1 == n) = none := by
    rw [List.find?_eq_none]
    intro p hp
    obtain ⟨j, hj, rfl⟩ := List.getElem_of_mem hp
    have hj' : j < k := by rw [List.length_take] at hj; omega
    have := hno j ((l.take k)[j]) hj' (by rw [List.getElem_take, List.getElem?_eq_getElem])
    simpa using this
  rw [h1]
  simp
theorem look_miss {l : List (List UInt8 × Int)} {n : List UInt8} (hno : ∀ (j : Nat) (p : List UInt8 × Int), l[j]? = some p → p.1 ≠ n) : look l n = 0 := by
  refine look_not fun h => ?_
  obtain ⟨p, hp, e⟩ := List.mem_map.1 h
  obtain ⟨j, hj⟩ := List.mem_iff_getElem?.1 hp
  exact hno j p hj e
theorem str_inj2 (a : List UInt8) (s : ByteArray) : ((⟨a.toArray⟩ : ByteArray).toList == s.toList) = decide (a = s.data.toList) := by
  rw [str_toList, str_toList, Bool.eq_iff_iff, beq_iff_eq, decide_eq_true_iff]
set_option maxHeartbeats 8000000 in
theorem raddress_any {A : Option Addr} {n cap : Nat} {l : List (List UInt8 × Int)} {w : World} (h : IsPs w A n cap l) (hn : n ≤ 1000000) (s : ByteArray) : Calls Tryd.prog 69 #[.slice A n cap, .string s] w fun e w' => e = .returned (.int .i64 (look l s.data.toList)) ∧ w = w' := by
  have hle := h.le
  have hlen := h.len
  obtain ⟨r, hr⟩ : ∃ r, look l s.data.toList = r := ⟨_, rfl⟩
  have hyes := Lib.hid (fun (k : Nat) (T : List UInt8) (z : Int) (hT : l[k]? = some (T, z)) (e : T = s.data.toList) (hno : ∀ j p, j < k → l[j]? = some p → p.1 ≠ s.data.toList) => show r = z by rw [← hr]; subst e; exact look_hit hT hno)
  have hmis := Lib.hid (fun (hno : ∀ j p, j < n → l[j]? = some p → p.1 ≠ s.data.toList) => show r = 0 by
    rw [← hr]
    exact look_miss (fun j p hj => hno j p (by have := (List.getElem?_eq_some_iff.1 hj).1; omega) hj))
  have hget := Lib.hid (fun (k : Nat) (hk : k < n) => h.at hk)
  rw [hr]
  clear hr h hlen
  go_enter Tryd.func69, Tryd.ntmps69
  go_wp2
  go_loop [5] (fun iv => ∃ (k : Nat), iv = .int .i64 (k : Int) ∧ k ≤ n ∧ Hid (∀ j p, j < k → l[j]? = some p → p.1 ≠ s.data.toList)) (fun iv => n - (intOf iv).toNat)
  case atStart => exact ⟨0, rfl, Nat.zero_le _, Lib.hid (fun j _ h => by omega)⟩
  case round =>
    obtain ⟨k, rfl, hk, hI⟩ := hrel
    by_cases hlt : k < n
    · have dk : decide ((k : Int) < (n : Int)) = true := decide_eq_true (by omega)
      have k0 : (0 : Int) ≤ (k : Int) := by omega
      have k1 : (k : Int) < (n : Int) := by omega
      have k2 : (k : Int) ≤ 1000000 := by omega
      obtain ⟨T, z, b, o, hT, rfl, _, g1, g2⟩ := hget.out k hlt
      have hy := fun e => hyes.out k T z hT e hI.out
      have hI2 : T ≠ s.data.toList → ∀ j p, j < k + 1 → l[j]? = some p → p.1 ≠ s.data.toList := fun e j p hj hp => by
        by_cases e2 : j = k
        · subst e2
          rw [hT] at hp
          injection hp with hp
          rw [← hp]
          exact e
        · exact hI.out j p (by omega) hp
      have hsB := str_inj2 T s
      unfold strV at g1
      obtain ⟨S, hS⟩ : ∃ S : ByteArray, ⟨T.toArray⟩ = S := ⟨_, rfl⟩
      rw [hS] at g1 hsB
      by_cases e : T = s.data.toList
      · rw [decide_eq_true e] at hsB
        have hf := Lib.hid (hy e)
        clear hy hI2 hI hyes hmis hget hT e hS
        go_wp2
        first | go_ret | skip
        exact ⟨ret_i hf.out.symm, rfl⟩
      · rw [decide_eq_false e] at hsB
        have hf := Lib.hid (hI2 e)
        clear hy hI2 hI hyes hmis hget hT e hS
        go_wp2
        go_round
        case rel => exact ⟨k + 1, by go_num, by omega, hf⟩
        case measure => simp [intOf]; omega
    · obtain rfl : k = n := by omega
      have dk : decide ((k : Int) < (k : Int)) = false := decide_eq_false (by omega)
      have hf := Lib.hid (hmis.out hI.out)
      clear hI hyes hmis hget
      go_wp2
      first | go_ret | skip
      exact ⟨ret_i hf.out.symm, rfl⟩
/-! ### six -/
def dgs (n : Nat) : Nat → List UInt8
  | 0 => []
  | k + 1 => UInt8.ofNat (48 + n / 10 ^ k % 10) :: dgs n k
theorem dgs_six (n : Nat) : dgs n 6 = sixL n := by
  unfold dgs dgs dgs dgs dgs dgs dgs sixL
  simp
theorem dgs_len (n : Nat) : ∀ k, (dgs n k).length = k := by
  intro k
  induction k with
  | zero => rfl
  | succ k ih => rw [dgs, List.length_cons, ih]
set_option maxHeartbeats 8000000 in
theorem rsix_any (n : Nat) (hn : n ≤ 1000000000) (w : World) : Calls Tryd.prog 68 #[.int .i64 (n : Int)] w fun e w' => e = .returned (strV (sixL n)) ∧ Below w.heap.size w w' := by
  have hstep := Lib.hid (fun (k : Nat) => show dgs n (k + 1) = UInt8.ofNat (48 + n / 10 ^ k % 10) :: dgs n k from rfl)
  rw [← dgs_six]
  have hfin := Lib.hid (show strV (dgs n 6) = strV (dgs n 6) from rfl)
  have n0 : n / 10 ^ 0 = n := by simp
  go_enter Tryd.func68, Tryd.ntmps68
  go_wp2
  go_loopw [0, 3, 4] (fun nv sv iv wr => ∃ (k N : Nat) (S : ByteArray), nv = .int .i64 (N : Int) ∧ sv = .string S ∧ iv = .int .i64 (k : Int) ∧ k ≤ 6 ∧ N ≤ 1000000000 ∧ Hid (N = n / 10 ^ k) ∧ Hid (S.data.toList = dgs n k) ∧ Hid (Below w.heap.size w wr)) (fun _ _ iv _ => 6 - (intOf iv).toNat)
  case atStart => exact ⟨0, n, ⟨#[]⟩, rfl, rfl, rfl, by decide, hn, Lib.hid n0.symm, Lib.hid rfl, Lib.hid (Below.refl _ _)⟩
  case round =>
    obtain ⟨k, N, S, rfl, rfl, rfl, hk, hN, hNk, hSk, hb⟩ := hrel
    by_cases hlt : k < 6
    · have dk : decide ((k : Int) < 6) = true := decide_eq_true (by omega)
      have k0 : (0 : Int) ≤ (k : Int) := by omega
      have k1 : (k : Int) < 6 := by omega
      have N0 : (0 : Int) ≤ (N : Int) := by omega
      have N1 : (N : Int) ≤ 1000000000 := by omega
      obtain ⟨E, hE⟩ : ∃ E, 48 + N % 10 = E := ⟨_, rfl⟩
      obtain ⟨D, hD⟩ : ∃ D, N % 10 = D := ⟨_, rfl⟩
      obtain ⟨M, hM⟩ : ∃ M, N / 10 = M := ⟨_, rfl⟩
      have e1 : (N : Int) % 10 = (D : Int) := by omega
      have e1t : (N : Int).tmod 10 = (D : Int) := by rw [Int.tmod_eq_emod_of_nonneg (by omega)]; exact e1
      have e2 : (48 : Int) + (D : Int) = (E : Int) := by omega
      have e3 : (N : Int) / 10 = (M : Int) := by omega
      have e3t : (N : Int).tdiv 10 = (M : Int) := by rw [Int.tdiv_eq_ediv_of_nonneg (by omega)]; exact e3
      have D0 : (0 : Int) ≤ (D : Int) := by omega
      have D1 : (D : Int) ≤ 9 := by omega
      have E0 : (48 : Int) ≤ (E : Int) := by omega
      have E1 : (E : Int) ≤ 57 := by omega
      have ew : IntKind.u8.wrap (E : Int) = (E : Int) := by rw [IntKind.wrap_u8]; omega
      have ew2 : (E : Int) % 256 = (E : Int) := by omega
      have hS6 : S.size = k := by
        have : S.data.toList.length = S.size := by simp
        rw [← this, hSk.out, dgs_len]
      have hSI : (S.size : Int) ≤ 6 := by omega
      have hcv : (convert 43 9 (.slice (some ⟨wr.heap.size, 0, none⟩) 1 1)).run Tryd.prog (wr.alloc (.cells #[.int .u8 (E : Int)] 5)) = .ok (.string ⟨#[UInt8.ofNat E]⟩) (wr.alloc (.cells #[.int .u8 (E : Int)] 5)) := by
        refine run_convert_bytes_back (P := Tryd.prog) _ 43 9 5 ⟨wr.heap.size, 0, none⟩ 1 [UInt8.ofNat E] Tryd.underlying43 Tryd.underlying5 Tryd.underlying9 (fun j hj => ?_)
        obtain rfl : j = 0 := by simp at hj; exact hj
        have := one_new wr (.int .u8 (E : Int)) 5 0 _ rfl
        rw [this]
        have hmod : E % 256 = E := by omega
        simp [hmod]
      have hn2 := Lib.hid (show M = n / 10 ^ (k + 1) by rw [← hM, hNk.out, Nat.div_div_eq_div_mul, Nat.pow_succ])
      have hs2 := Lib.hid (show ((⟨#[UInt8.ofNat E]⟩ : ByteArray) ++ S).data.toList = dgs n (k + 1) by
        rw [cat_list, hSk.out, hstep.out k, ← hE, hNk.out]
        rfl)
      have hM2 : M ≤ 1000000000 := by omega
      have hb2 := Lib.hid ((hb.out).alloc hb.out.size (.cells #[.int .u8 (E : Int)] 5))
      obtain ⟨U, hU⟩ : ∃ U : ByteArray, ⟨#[UInt8.ofNat E]⟩ = U := ⟨_, rfl⟩
      have hUz : U.size = 1 := by rw [← hU]; rfl
      have hUI : (U.size : Int) ≤ 1 := by omega
      rw [hU] at hcv hs2
      clear hE hD hM hNk hSk hb hS6 hU hUz hfin hstep hN
      go_wp2
      go_roundw
      case rel => exact ⟨k + 1, M, U ++ S, rfl, rfl, by go_num, by omega, hM2, hn2, hs2, hb2⟩
      case measure => simp [intOf]; omega
    · obtain rfl : k = 6 := by omega
      have hf := Lib.hid (strV_of S hSk.out)
      clear hNk hSk hstep
      go_wp2
      first | go_ret | skip
      exact ⟨by rw [hf.out]; rfl, hb.out⟩
end Go.Proofs.YthmgocjmfhpafaaDoor.A18
