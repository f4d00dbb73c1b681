/- The contract of the reference's Decimal (layer 19). -/
import Derived.Test.YtpnnkdgoaeibbaaDoorL19Mem
namespace Go.Proofs.YtpnnkdgoaeibbaaDoor.L19
set_option maxRecDepth 100000
open Go.RowKit Mem
open A18 (ba_get drop_get ext_list str_of str_cat)
set_option linter.unusedVariables false
set_option linter.unusedSimpArgs false

theorem conv1 (W : World) (b E : Nat) (hE : E < 256) (hc : W.cell? ⟨b, 0, none⟩ = some (.int .u8 (E : Int))) : (convert 23 9 (.slice (some ⟨b, 0, none⟩) 1 1)).run Tryd.prog W = .ok (.string ⟨#[UInt8.ofNat E]⟩) W := by
  refine run_convert_bytes_back (P := Tryd.prog) _ 23 9 5 ⟨b, 0, none⟩ 1 [UInt8.ofNat E] Tryd.underlying23 Tryd.underlying5 Tryd.underlying9 (fun j hj => ?_)
  obtain rfl : j = 0 := by simp at hj; exact hj
  rw [add_at, hc]
  have hmod : E % 256 = E := by omega
  simp [hmod]
theorem dec_len : ∀ (k n : Nat), n < 10 ^ (k + 1) → (dec n).length ≤ k + 1
  | 0, n, h => by rw [dec_small n (by simpa using h)]; simp
  | k + 1, n, h => by
    by_cases h1 : n < 10
    · rw [dec_small n h1]; simp
    · rw [dec_step n (by omega), List.length_append]
      have := dec_len k (n / 10) (by rw [Nat.pow_succ] at h; omega)
      simp only [List.length_cons, List.length_nil]
      omega
theorem new_cell (w : World) (E : Int) : (w.alloc (.cells #[.int .u8 E] 5)).cell? ⟨w.heap.size, 0, none⟩ = some (.int .u8 E) := by rw [World.cell?_alloc_new]; rfl
theorem lt_new (w : World) (o : Obj) : w.heap.size < (w.alloc o).heap.size := by rw [World.size_alloc]; omega
theorem kept_cell {w w9 : World} {E : Int} (h : Below (w.alloc (.cells #[.int .u8 E] 5)).drew.heap.size (w.alloc (.cells #[.int .u8 E] 5)).drew w9) : w9.cell? ⟨w.heap.size, 0, none⟩ = some (.int .u8 E) :=
  (h.cell (p := ⟨w.heap.size, 0, none⟩) (lt_new w _)).trans (new_cell w E)
set_option maxHeartbeats 8000000 in
theorem Decimal_any (n : Nat) : ∀ (hn : n ≤ 1000000000000000) (w : World), Calls Tryd.prog 14 #[.int .i64 (n : Int)] w fun e w' => e = .returned (strV (dec n)) ∧ Below w.heap.size w w' := by
  induction n using Nat.strongRecOn with
  | ind n ih =>
    intro hn w
    by_cases h : n < 10
    · have t1 : decide ((n : Int) < 10) = true := decide_eq_true (by omega)
      rw [dec_small n h]
      obtain ⟨E, hE⟩ : ∃ E, 48 + n = E := ⟨_, rfl⟩
      have e2 : (48 : Int) + (n : Int) = (E : Int) := by omega
      have D0 : (0 : Int) ≤ (n : Int) := by omega
      have D1 : (n : Int) ≤ 9 := by omega
      have E0 : (48 : Int) ≤ (E : Int) := by omega
      have E1 : (E : Int) ≤ 57 := by omega
      have ew : IntKind.u8.wrap (E : Int) = (E : Int) := by rw [IntKind.wrap_u8]; omega
      have ew2 : (E : Int) % 256 = (E : Int) := by omega
      have hcv := conv1 (w.alloc (.cells #[.int .u8 (E : Int)] 5)) w.heap.size E (by omega) (by rw [World.cell?_alloc_new]; rfl)
      rw [hE]
      have hb := Lib.hid (boxed w (.cells #[.int .u8 (E : Int)] 5))
      clear ih hE hn h
      go_enter Tryd.func14, Tryd.ntmps14
      go_wp2
      first | go_ret | skip
      exact ⟨rfl, hb.out⟩
    · have t1 : decide ((n : Int) < 10) = false := decide_eq_false (by omega)
      rw [dec_step n (by omega)]
      obtain ⟨E, hE⟩ : ∃ E, 48 + n % 10 = E := ⟨_, rfl⟩
      obtain ⟨D, hD⟩ : ∃ D, n % 10 = D := ⟨_, rfl⟩
      obtain ⟨M, hM⟩ : ∃ M, n / 10 = M := ⟨_, rfl⟩
      have cD := ih M (by omega) (by omega)
      rw [hM, hE]
      have e1 : (n : Int) % 10 = (D : Int) := by omega
      have e1t : (n : Int).tmod 10 = (D : Int) := by rw [Int.tmod_eq_emod_of_nonneg (by omega)]; exact e1
      have e2 : (48 : Int) + (D : Int) = (E : Int) := by omega
      have e3 : (n : Int) / 10 = (M : Int) := by omega
      have e3t : (n : Int).tdiv 10 = (M : Int) := by rw [Int.tdiv_eq_ediv_of_nonneg (by omega)]; exact e3
      have D0 : (0 : Int) ≤ (D : Int) := by omega
      have D1 : (D : Int) ≤ 9 := by omega
      have E0 : (48 : Int) ≤ (E : Int) := by omega
      have E1 : (E : Int) ≤ 57 := by omega
      have ew : IntKind.u8.wrap (E : Int) = (E : Int) := by rw [IntKind.wrap_u8]; omega
      have ew2 : (E : Int) % 256 = (E : Int) := by omega
      have wM : IntKind.i64.wrap (M : Int) = (M : Int) := by rw [IntKind.wrap_i64]; omega
      have wE : IntKind.i64.wrap (E : Int) = (E : Int) := by rw [IntKind.wrap_i64]; omega
      have hlen : (dec M).length ≤ 20 := dec_len 19 M (by omega)
      obtain ⟨T, hT⟩ : ∃ T : ByteArray, ⟨(dec M).toArray⟩ = T := ⟨_, rfl⟩
      obtain ⟨U, hU⟩ : ∃ U : ByteArray, ⟨#[UInt8.ofNat E]⟩ = U := ⟨_, rfl⟩
      have hTz : (T.size : Int) ≤ 20 := by rw [← hT, str_size]; omega
      have hUz : (U.size : Int) ≤ 1 := by rw [← hU]; exact Int.le_refl 1
      have hfin := Lib.hid (show strV (dec M ++ [UInt8.ofNat E]) = .string (T ++ U) by unfold strV; rw [← hT, ← hU, ← str_cat])
      unfold strV at cD
      rw [hT] at cD
      have cv := fun W b hc => conv1 W b E (by omega) hc
      rw [hU] at cv
      have cD := Lib.hid cD
      have cv := Lib.hid cv
      have hv7 := cv.out (w.alloc (.cells #[.int .u8 (E : Int)] 5)).drew w.heap.size (new_cell w _)
      clear ih hE hD hM hT hU hlen hn h
      have n0 : (0 : Int) ≤ (n : Int) := by omega
      go_enter Tryd.func14, Tryd.ntmps14
      go_wp2_with fail
      go_region_with (first | (go_at_call 14; (with_reducible refine (cD.out _).mono ?_); rintro e w9 ⟨rfl, hb9⟩; (have hv8 := cv.out (w9.alloc (.cells #[.int .u8 (E : Int)] 5)) w9.heap.size (new_cell w9 _)); (first | (have hv9 := cv.out w9 w.heap.size (kept_cell hb9)) | skip)))
      all_goals
        replace hb9 := Lib.hid hb9
        clear hv8 cD cv
        go_wp2
        first | go_ret | skip
        first | exact ⟨by rw [hfin.out]; rfl, chain (chain (chainN (Below.refl w.heap.size w) 1) hb9.out) (boxed w9 _)⟩ | exact ⟨by rw [hfin.out]; rfl, chain (chainN (boxed w _) 1) hb9.out⟩
end Go.Proofs.YtpnnkdgoaeibbaaDoor.L19
