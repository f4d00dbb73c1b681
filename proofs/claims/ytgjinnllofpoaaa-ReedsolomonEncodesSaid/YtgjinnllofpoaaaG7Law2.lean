/- The walks of the laws ReedsolomonEncodes, ReedsolomonShortens. -/
import Derived.Test.YtgjinnllofpoaaaG7Law1
import Derived.Deep.RegionWith
namespace Go.Proofs.Ytgjinnllofpoaaa.G7
open Go.Proofs.Ytgjinnllofpoaaa.G5
open Go.Proofs.Ytgjinnllofpoaaa.G6 (ev rs rs_len rs_get IsSl conv_sl mb eval_own z_el make_zeros zeros_at)
open Go.RowKit Mem
set_option linter.unusedVariables false
set_option linter.unusedSimpArgs false

theorem min_nat {P : Program} (x y z : Nat) (Y : Int) (hY : Y = (y : Int)) (h : min x y = z) : ∀ (ts : Array TypeId) (t : TypeId) (W : World), (Builtin.min_ ts t #[.int .i64 (x : Int), .int .i64 Y]).run P W = .ok (.int .i64 (z : Int)) W := fun ts t W => by
  rw [run_min_int2]
  congr 2
  split <;> omega
theorem extract_str (l m : List R) (n : Nat) (h : l.length = n) : (str (l ++ m)).extract 0 n = str l := by
  apply ByteArray.ext
  rw [ByteArray.data_extract]
  simp [str, G6.u8s, ← h]
theorem extract_el (s : ByteArray) (n : Nat) (h : n ≤ s.size) : s.extract 0 n = str ((el s).take n) := by rw [← (el_extract s n h).1, str_el]

set_option maxRecDepth 100000 in
set_option maxHeartbeats 2000000 in
theorem walk_encodes (a : ByteArray) (i2 : Int) (w : World) (ha : a.size ≤ 140737488351232) (h2 : (Lit.int .u8 i2).wf = true) :
    Calls Try.prog 4 #[.string a, .int .u8 i2] w fun e w' => e = .returned (.bool true) ∧ Below w.heap.size w w' := by
  obtain ⟨q, hq, rfl⟩ := u8_nat h2
  clear h2
  obtain ⟨p, hp⟩ : ∃ p, q % 64 + 1 = p := ⟨_, rfl⟩
  obtain ⟨n, hn⟩ : ∃ n, min (min a.size a.size) (255 - p) = n := ⟨_, rfl⟩
  have cW := Lib.hid (words_any a a q p n w hq hp hn ha ha)
  have la := take_len a n (by omega)
  have hnp : n + p ≤ 255 := by omega
  have hp1 : 1 ≤ p := by omega
  have hp64 : p ≤ 64 := by omega
  obtain ⟨r, hr⟩ : ∃ r, 255 - p = r := ⟨_, rfl⟩
  have hmin := min_nat (P := Try.prog) a.size r n (r : Int) rfl (by omega)
  have hw : IntKind.i64.wrap (255 - (p : Int)) = (r : Int) := by rw [IntKind.wrap_i64]; omega
  clear hr
  have n1 : (n : Int) ≤ (a.size : Int) := by omega
  have n1' : n ≤ a.size := by omega
  have n0 : (0 : Int) ≤ (n : Int) := by omega
  clear hn hp
  go_enter Try.func4, Try.ntmps4
  go_wp2_with fail
  refine cW.out.mono ?_
  rintro e w1 ⟨t, u, ht, hu, rfl, hb1⟩
  have hx1 := extract_str ((el a).take n) t n la
  have hx2 := extract_el a n n1'
  obtain ⟨E, hE⟩ : ∃ E, str ((el a).take n) = E := ⟨_, rfl⟩
  rw [hE] at hx1 hx2
  obtain ⟨X, hX⟩ : ∃ X, str ((el a).take n ++ t) = X := ⟨_, rfl⟩
  obtain ⟨Y, hY⟩ : ∃ Y, str ((el a).take n ++ u) = Y := ⟨_, rfl⟩
  have eX : (el a).take n ++ t = el X := by rw [← hX, el_str]
  have hXs : X.size = n + p := by rw [← el_len, ← eX, List.length_append, la, ht.1]
  rw [hX] at hx1
  rw [hX, hY]
  have cI := fun W => isc_own X p W hp1 hp64 (by omega) (by omega)
  rw [show cwB p (el X) = true from cwB_yes (by rw [← eX]; exact ht.2)] at cI
  have e1 : (X.size : Int) - (p : Int) = (n : Int) := by omega
  have n2 : (n : Int) ≤ (X.size : Int) := by omega
  have n2' : n ≤ X.size := by omega
  have x3 : X.size ≤ 255 := by omega
  have cI := Lib.hid cI
  have cA := Lib.hid (fun W => awake_any W)
  clear cW ht hu hX hY eX la hXs hE
  go_wp2_with fail
  refine wp_region_still_tail 22 (by kernel_rfl) (by kernel_rfl) ?_
  simp only [List.take_succ_cons, List.take_zero, List.drop_succ_cons, List.drop_zero]
  repeat still_step
  refine wpStill_nil ?_
  change wpList _ _ _ _ _ w1.drew
  go_wp2_with fail
  refine (cI.out _).mono ?_
  rintro e w3 ⟨rfl, hb3⟩
  go_wp2_with fail
  refine (cA.out _).mono ?_
  rintro e w4 ⟨rfl, hb4⟩
  go_wp2
  go_ret
  exact ⟨rfl, chain (chain (chainN hb1 1) hb3) hb4⟩

theorem u8s_zeros (m : Nat) : (⟨(G6.u8s (List.replicate m 0#8)).toArray⟩ : ByteArray) = str (List.replicate m 0) := rfl
set_option maxHeartbeats 2000000 in
theorem walk_shortens (a : ByteArray) (i2 i3 : Int) (w : World) (ha : a.size ≤ 140737488351232) (h2 : (Lit.int .u8 i2).wf = true) (h3 : (Lit.int .u8 i3).wf = true) :
    Calls Try.prog 9 #[.string a, .int .u8 i2, .int .u8 i3] w fun e w' => e = .returned (.bool true) ∧ Below w.heap.size w w' := by
  obtain ⟨q, hq, rfl⟩ := u8_nat h2
  obtain ⟨z, hz, rfl⟩ := u8_nat h3
  clear h2 h3
  obtain ⟨p, hp⟩ : ∃ p, q % 64 + 1 = p := ⟨_, rfl⟩
  obtain ⟨n, hn⟩ : ∃ n, min (min a.size a.size) (255 - p) = n := ⟨_, rfl⟩
  have cW := Lib.hid (words_any a a q p n w hq hp hn ha ha)
  have la := take_len a n (by omega)
  have hnp : n + p ≤ 255 := by omega
  have hp1 : 1 ≤ p := by omega
  have hp64 : p ≤ 64 := by omega
  have n1 : (n : Int) ≤ (a.size : Int) := by omega
  have n1' : n ≤ a.size := by omega
  have n0 : (0 : Int) ≤ (n : Int) := by omega
  clear hn hp
  go_enter Try.func9, Try.ntmps9
  go_wp2_with fail
  refine cW.out.mono ?_
  rintro e w1 ⟨t, u, ht, hu, rfl, hb1⟩
  have hx2 := extract_el a n n1'
  obtain ⟨D, hD⟩ : ∃ D, (el a).take n = D := ⟨_, rfl⟩
  rw [hD] at la ht hx2
  obtain ⟨X, hX⟩ : ∃ X, str (D ++ t) = X := ⟨_, rfl⟩
  obtain ⟨Y, hY⟩ : ∃ Y, str ((el a).take n ++ u) = Y := ⟨_, rfl⟩
  have hXs : X.size = n + p := by rw [← hX, size_str, List.length_append, la, ht.1]
  rw [hD, hX, show str (D ++ u) = Y by rw [← hD]; exact hY]
  obtain ⟨r, hr⟩ : ∃ r, 255 - (n + p) = r := ⟨_, rfl⟩
  obtain ⟨m, hm⟩ : ∃ m, min z r = m := ⟨_, rfl⟩
  have e0 : (255 : Int) - (X.size : Int) = (r : Int) := by omega
  have e1 : (X.size : Int) - (p : Int) = (n : Int) := by omega
  have hmin := min_nat (P := Try.prog) z r m (r : Int) rfl hm
  have hmk := make_zeros w1 m (by omega)
  have ob := mb w1 (.cells (madeCells #[.int .u8 0] m) 5)
  have hconv := conv_sl (P := Try.prog) (dst := 9) Try.underlying22 Try.underlying5 Try.underlying9 (IsSl.of_at (zeros_at w1 m (by omega)) (by simp : (List.replicate m 0#8).length = m) (by omega) (by simp)) (by simp : (List.replicate m 0#8).length = m)
  rw [u8s_zeros] at hconv
  obtain ⟨F, hF⟩ : ∃ F, str (List.replicate m 0) = F := ⟨_, rfl⟩
  obtain ⟨E, hE⟩ : ∃ E, str D = E := ⟨_, rfl⟩
  rw [hF] at hconv
  rw [hE] at hx2
  have hFE : el (F ++ E) = List.replicate m 0 ++ D := by rw [← hF, ← hE, str_app, el_str]
  have hFs : F.size = m := by rw [← hF, size_str]; simp
  have hEs : E.size = n := by rw [← hE, size_str, la]
  have hfin : ∀ t2, IsEnc p (List.replicate m 0 ++ D) t2 → str (List.replicate m 0 ++ D ++ t2) = F ++ X := fun t2 h => by
    have h0 : IsEnc p (List.replicate m 0 ++ D) t := ⟨ht.1, by rw [List.append_assoc]; exact ht.2.front m⟩
    rw [h.only h0 (by simp [la]; omega), ← hF, ← hX, str_app, List.append_assoc]
  have hfs : (F ++ E).size ≤ 255 - p := by rw [← el_len, hFE]; simp [la]; omega
  have cE := enc_own (F ++ E) p (w1.alloc (.cells (madeCells #[.int .u8 0] m) 5)) hp1 hp64 (by omega)
  rw [hFE] at cE
  have cE := Lib.hid cE
  have cA := Lib.hid (fun W => awake_any W)
  have hfin := Lib.hid hfin
  have f1 : F.size ≤ 255 := by omega
  have f2 : E.size ≤ 255 := by omega
  have f3 : X.size ≤ 255 := by omega
  have f4 : m ≤ 255 := by omega
  have f5 : n ≤ X.size := by omega
  have f6 : (r : Int) ≤ 255 := by omega
  clear cW ht hu hX hY la hXs hE hF hFE hFs hEs hfs hr hm hD
  go_wp2_with fail
  refine cE.out.mono ?_
  rintro e w3 ⟨t2, h2, rfl, hb3⟩
  rw [hfin.out t2 h2]
  have hB := chain (chain hb1 ob) hb3
  clear hmin hmk hconv h2 cE hx2 hfin ob hb1 hb3
  go_wp2_with fail
  refine (cA.out _).mono ?_
  rintro e w4 ⟨rfl, hb4⟩
  go_wp2
  go_ret
  exact ⟨rfl, chain hB hb4⟩
end Go.Proofs.Ytgjinnllofpoaaa.G7
