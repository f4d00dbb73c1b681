/- The contracts of the reference's Sum and Merkle. -/
import Derived.Test.YtkppepdniehoiaaDoorB4Ref5
namespace Go.Proofs.YtkppepdniehoiaaDoor.B4
open Go.RowKit Mem
set_option linter.unusedVariables false
set_option linter.unusedSimpArgs false

theorem flatten_snoc (l : List (List UInt8)) (k : Nat) (h : k < l.length) : (l.take (k + 1)).flatten = (l.take k).flatten ++ l[k] := by
  rw [List.take_succ_eq_append_getElem h, List.flatten_append, List.flatten_cons, List.flatten_nil, List.append_nil]
theorem take_totl (l : List (List UInt8)) (k : Nat) : (l.take k).flatten.length ≤ totl l := by
  rw [totl_flatten]
  exact totl_take l k

set_option maxHeartbeats 1000000 in
theorem rsum_any (A : Option Addr) (cap : Nat) (l : List (List UInt8)) (w : World) (ht : totl l ≤ 1000000) (hll : l.length ≤ 1000000) (hlc : l.length ≤ cap) (hcap : cap ≤ 9223372036854775807) (hRd : Rd w A (strVs l)) :
    Calls Tryd.prog 14 #[.slice A l.length cap] w fun e w' => e = .returned (.string ⟨(digL l.flatten).toArray⟩) ∧ Below w.heap.size w w' := by
  have hrh := Lib.hid hRd
  clear hRd
  go_enter Tryd.func14, Tryd.ntmps14
  go_wp2
  go_loop [3, 4] (fun v i => ∃ k : Nat, k ≤ l.length ∧ i = .int .i64 k ∧ v = .string ⟨((l.take k).flatten).toArray⟩) (fun _ i => l.length - (intOf i).toNat)
  case atStart => exact ⟨0, Nat.zero_le _, rfl, rfl⟩
  case round =>
    obtain ⟨k, hk, rfl, rfl⟩ := hrel
    by_cases hlt : k < l.length
    · have d1 : decide ((k : Int) < (l.length : Int)) = true := decide_eq_true (by omega)
      obtain ⟨b, o, rfl, hb, hcell⟩ := hrh.out k (by rw [strVs_len]; exact hlt)
      rw [strV_get l k hlt] at hcell
      have hfs := Lib.hid (flatten_snoc l k hlt)
      have h1 := take_totl l k
      have h2 := totl_mem (List.getElem_mem hlt)
      obtain ⟨p, hp⟩ : ∃ p, (l.take k).flatten = p := ⟨_, rfl⟩
      obtain ⟨x, hx⟩ : ∃ x, l[k] = x := ⟨_, rfl⟩
      rw [hp] at h1 hfs ⊢
      rw [hx] at h2 hfs hcell
      have hI0 : (0 : Int) ≤ (k : Int) := by omega
      have hI1 : (k : Int) < (l.length : Int) := by omega
      have h3 : p.length + x.length ≤ 2000000 := by omega
      clear hp hx
      go_wp2
      go_round
      case rel => exact ⟨k + 1, by omega, by go_num, by rw [hfs.out, ← sapp]⟩
      case measure => simp [intOf]; omega
    · have d1 : decide ((k : Int) < (l.length : Int)) = false := decide_eq_false (by omega)
      have hfin : l.take k = l := List.take_of_length_le (by omega)
      rw [hfin]
      have hdl := totl_flatten l
      have hc := Lib.hid (rdigest_any ⟨l.flatten.toArray⟩ w (by rw [str_size]; omega))
      clear hfin hdl
      go_wp2_with fail
      refine hc.out.mono ?_
      rintro e w1 ⟨rfl, hb1⟩
      go_wp2
      go_ret
      exact ⟨rfl, hb1⟩

theorem half_stop (n f k : Nat) (h : ¬ 2 * k < n) : half n f k = k := by
  cases f with
  | zero => rfl
  | succ f => show (if _ then _ else _) = _; rw [if_neg h]
theorem half_more (n f k : Nat) (h : 2 * k < n) : half n (f + 1) k = half n f (2 * k) := by
  show (if _ then _ else _) = _
  rw [if_pos h]
section
variable {o : Oper} {a : Act}
theorem ex_catC {t : Nat} {s c : ByteArray} (ho : o.op = .binOp .add 9 (.const (.string c)) (.tmp t) 9) (h : At a t (.string s)) (hs : s.size ≤ 1000000) (hc : c.size ≤ 1000000) (w : World) : (execOp a.eval o).run Tryd.prog w = .ok (.value (.string (c ++ s))) w := by
  have e := h.get
  clear h
  have h1 : c.size + s.size ≤ 9223372036854775807 := by omega
  unfold execOp
  simp only [ho]
  go_simp
theorem ex_cat2 {t u : Nat} {s c : ByteArray} (ho : o.op = .binOp .add 9 (.tmp t) (.tmp u) 9) (h : At a t (.string s)) (h' : At a u (.string c)) (hs : s.size ≤ 1000000) (hc : c.size ≤ 1000000) (w : World) : (execOp a.eval o).run Tryd.prog w = .ok (.value (.string (s ++ c))) w := by
  have e := h.get
  have e' := h'.get
  clear h h'
  have h1 : s.size + c.size ≤ 9223372036854775807 := by omega
  unfold execOp
  simp only [ho]
  go_simp
end

set_option maxHeartbeats 4000000 in
theorem rmerkle_fuel : ∀ (f : Nat) (A : Option Addr) (cap : Nat) (l : List (List UInt8)) (w : World), l.length < f → totl l ≤ 900000 → l.length ≤ 1000 → l.length ≤ cap → cap ≤ 9223372036854775807 → Rd w A (strVs l) →
    Calls Tryd.prog 21 #[.slice A l.length cap] w fun e w' => e = .returned (.string ⟨(merF f l).toArray⟩) ∧ Below w.heap.size w w'
  | 0, _, _, l, _, h, _, _, _, _, _ => absurd h (by omega)
  | f + 1, A, cap, l, w, hf, ht, hll, hlc, hcap, hRd => by
    match l, hf, ht, hll, hlc, hRd with
    | [], hf, ht, hll, hlc, hRd =>
      have hc := Lib.hid (rdigest_any ⟨#[101, 109, 112, 116, 121]⟩ w (by decide))
      clear hRd
      go_enter Tryd.func21, Tryd.ntmps21
      go_wp2_with fail
      refine hc.out.mono ?_
      rintro e w1 ⟨rfl, hb1⟩
      go_wp2
      go_ret
      exact ⟨rfl, hb1⟩
    | [x], hf, ht, hll, hlc, hRd =>
      obtain ⟨b, o, rfl, hb, hcell⟩ := hRd 0 (by simp [strVs])
      have hcell : w.cell? ⟨b, o, none⟩ = some (.string ⟨x.toArray⟩) := by simpa [strVs, strV] using hcell
      have hx : x.length ≤ 900000 := by simpa [totl] using ht
      have hc := Lib.hid (rdigest_any ⟨([108, 101, 97, 102] ++ x).toArray⟩ w (by rw [str_size]; simp; omega))
      have hsa := sapp [108, 101, 97, 102] x
      rw [← hsa] at hc
      have hx2 : 4 + x.length ≤ 9223372036854775807 := by omega
      clear hRd hsa
      go_enter Tryd.func21, Tryd.ntmps21
      go_wp2_with fail
      refine hc.out.mono ?_
      rintro e w1 ⟨rfl, hb1⟩
      go_wp2
      go_ret
      exact ⟨ret_string rfl, hb1⟩
    | x :: y :: r, hf, ht, hll, hlc, hRd =>
      obtain ⟨l, hl⟩ : ∃ l, x :: y :: r = l := ⟨_, rfl⟩
      have h2 : 2 ≤ l.length := by rw [← hl]; simp
      rw [hl] at hf ht hll hlc hRd ⊢
      clear hl
      obtain ⟨_, _, _, hk1, hkl⟩ := pow_k l.length h2 hll
      obtain ⟨b, o, rfl, _, _⟩ := hRd 0 (by rw [strVs_len]; omega)
      have hmer := merF_two f l h2
      obtain ⟨k, hk⟩ : ∃ k, kOf l.length = k := ⟨_, rfl⟩
      rw [hk] at hk1 hkl hmer
      have htt : totl (l.take k) + totl (l.drop k) = totl l := by
        conv => rhs; rw [← List.take_append_drop k l]
        simp only [totl, List.map_append, List.sum_append]
      have c1 := fun (W : World) (hW : Below w.heap.size w W) => rmerkle_fuel f (some ⟨b, o, none⟩) cap (l.take k) W (by rw [List.length_take]; omega) (by omega) (by rw [List.length_take]; omega) (by rw [List.length_take]; omega) hcap (Rd.take (hRd.below hW) k)
      have c2 := fun (W : World) (hW : Below w.heap.size w W) => rmerkle_fuel f (some ⟨b, o + k, none⟩) (cap - k) (l.drop k) W (by rw [List.length_drop]; omega) (by omega) (by rw [List.length_drop]; omega) (by rw [List.length_drop]; omega) (by omega) (Rd.drop (hRd.below hW) k)
      have m1 := merF_len f (l.take k)
      have m2 := merF_len f (l.drop k)
      obtain ⟨X, hX⟩ : ∃ X, merF f (l.take k) = X := ⟨_, rfl⟩
      obtain ⟨Y, hY⟩ : ∃ Y, merF f (l.drop k) = Y := ⟨_, rfl⟩
      rw [hX] at c1 m1 hmer
      rw [hY] at c2 m2 hmer
      have e1 : (l.take k).length = k := by rw [List.length_take]; omega
      obtain ⟨n, hn⟩ : ∃ n, l.length = n := ⟨_, rfl⟩
      have hn2e : (l.drop k).length = n - k := by rw [List.length_drop, hn]
      have hkn : kOf n = k := by rw [← hn]; exact hk
      rw [hn] at hkl hlc hll h2 ⊢
      rw [e1] at c1
      rw [hn2e] at c2
      have c3 := fun (W : World) => rdigest_any ⟨([110, 111, 100, 101] ++ X ++ Y).toArray⟩ W (by rw [str_size]; simp; omega)
      rw [str_list, ← hmer] at c3
      have c1 := Lib.hid c1
      have c2 := Lib.hid c2
      have c3 := Lib.hid c3
      have hknh := Lib.hid hkn
      have d0 : ((n : Int) == 0) = false := by rw [beq_eq_false_iff_ne]; omega
      have d1 : ((n : Int) == 1) = false := by rw [beq_eq_false_iff_ne]; omega
      clear hmer hX hY hn hn2e e1 hk htt hRd ht hf hkn
      go_enter Tryd.func21, Tryd.ntmps21
      go_wp2_with fail
      go_loop [3] (fun i => ∃ j f : Nat, 1 ≤ j ∧ j ≤ n ∧ i = .int .i64 j ∧ n ≤ f + j ∧ Hid (kOf n = half n f j)) (fun i => n - (intOf i).toNat)
      case atStart => exact ⟨1, n, by omega, by omega, rfl, by omega, Lib.hid rfl⟩
      case round =>
        obtain ⟨j, g, hj1, hjn, rfl, hg, hh⟩ := hrel
        by_cases hlt : 2 * j < n
        · have d2 : decide (2 * (j : Int) < (n : Int)) = true := decide_eq_true (by omega)
          obtain ⟨g', rfl⟩ : ∃ g', g = g' + 1 := ⟨g - 1, by omega⟩
          have hh2 := Lib.hid (hh.out.trans (half_more n g' j hlt))
          clear hh
          go_wp2
          go_round
          case rel => exact ⟨2 * j, g', by omega, by omega, by go_num, by omega, hh2⟩
          case measure => simp [intOf]; omega
        · have d2 : decide (2 * (j : Int) < (n : Int)) = false := decide_eq_false (by omega)
          have hjk : j = k := by rw [← hknh.out, hh.out, half_stop n g j hlt]
          subst hjk
          clear hh
          go_wp2_with fail
          rename_i Kf hKf hx
          refine wp_at (fun a ha => ?_)
          have y0 : At a 0 (.slice (some ⟨b, o, none⟩) n cap) := by rw [ha]; rfl
          have y3 : At a 3 (.int .i64 (j : Int)) := by rw [ha]; rfl
          have hs34 : a.tmps.size = 34 := by rw [ha]; rfl
          have hdf : a.defers = [] := by rw [ha]
          have S0 := Same.refl a 0 1000
          clear ha
          refine wp_region_noPanic ?_
          refine wp_region_held_drew (S := fun _ => True) (by kernel_rfl) trivial (fun _ => ?_)
          refine wpAnyH_take (i := 0) (oi := ⟨some 23, _, _, _, _, _⟩) (v := (.slice (some ⟨b, o, none⟩) n cap)) rfl (by kernel_rfl) (by kernel_rfl) (by kernel_rfl) (fun _ _ _ h => h) (.inl ⟨rfl, fun W _ => ex_move rfl y0.eval W⟩) trivial ?_
          show wpAnyH _ _ _ _ _ _ _ (a.put (some 23) (.slice (some ⟨b, o, none⟩) n cap)) _
          have f1_0 := y0.ne (n := 23) (by decide) (.slice (some ⟨b, o, none⟩) n cap)
          have f1_3 := y3.ne (n := 23) (by decide) (.slice (some ⟨b, o, none⟩) n cap)
          have f1_23 := At.put (a := a) (n := 23) (by rw [S0.1, hs34]; decide) (.slice (some ⟨b, o, none⟩) n cap)
          have S1 := S0.put (n := 23) (by decide) (by decide) (.slice (some ⟨b, o, none⟩) n cap)
          generalize a.put (some 23) (.slice (some ⟨b, o, none⟩) n cap) = a1 at S1 f1_0 f1_3 f1_23 ⊢
          refine wpAnyH_take (i := 1) (oi := ⟨some 24, _, _, _, _, _⟩) (v := (.int .i64 (j : Int))) rfl (by kernel_rfl) (by kernel_rfl) (by kernel_rfl) (fun _ _ _ h => h) (.inl ⟨rfl, fun W _ => ex_move rfl f1_3.eval W⟩) trivial ?_
          show wpAnyH _ _ _ _ _ _ _ (a1.put (some 24) (.int .i64 (j : Int))) _
          have f2_0 := f1_0.ne (n := 24) (by decide) (.int .i64 (j : Int))
          have f2_3 := f1_3.ne (n := 24) (by decide) (.int .i64 (j : Int))
          have f2_23 := f1_23.ne (n := 24) (by decide) (.int .i64 (j : Int))
          have f2_24 := At.put (a := a1) (n := 24) (by rw [S1.1, hs34]; decide) (.int .i64 (j : Int))
          have S2 := S1.put (n := 24) (by decide) (by decide) (.int .i64 (j : Int))
          generalize a1.put (some 24) (.int .i64 (j : Int)) = a2 at S2 f2_0 f2_3 f2_23 f2_24 ⊢
          refine wpAnyH_take (i := 2) (oi := ⟨some 25, _, _, _, _, _⟩) (v := (.slice (some ⟨b, o, none⟩) j cap)) rfl (by kernel_rfl) (by kernel_rfl) (by kernel_rfl) (fun _ _ _ h => h) (.inl ⟨rfl, fun W _ => ex_slHi rfl f2_23 f2_24 (by omega) W⟩) trivial ?_
          show wpAnyH _ _ _ _ _ _ _ (a2.put (some 25) (.slice (some ⟨b, o, none⟩) j cap)) _
          have f3_0 := f2_0.ne (n := 25) (by decide) (.slice (some ⟨b, o, none⟩) j cap)
          have f3_3 := f2_3.ne (n := 25) (by decide) (.slice (some ⟨b, o, none⟩) j cap)
          have f3_23 := f2_23.ne (n := 25) (by decide) (.slice (some ⟨b, o, none⟩) j cap)
          have f3_24 := f2_24.ne (n := 25) (by decide) (.slice (some ⟨b, o, none⟩) j cap)
          have f3_25 := At.put (a := a2) (n := 25) (by rw [S2.1, hs34]; decide) (.slice (some ⟨b, o, none⟩) j cap)
          have S3 := S2.put (n := 25) (by decide) (by decide) (.slice (some ⟨b, o, none⟩) j cap)
          generalize a2.put (some 25) (.slice (some ⟨b, o, none⟩) j cap) = a3 at S3 f3_0 f3_3 f3_23 f3_24 f3_25 ⊢
          refine wpAnyH_take (i := 5) (oi := ⟨some 28, _, _, _, _, _⟩) (v := (.slice (some ⟨b, o, none⟩) n cap)) rfl (by kernel_rfl) (by kernel_rfl) (by kernel_rfl) (fun _ _ _ h => h) (.inl ⟨rfl, fun W _ => ex_move rfl f3_0.eval W⟩) trivial ?_
          show wpAnyH _ _ _ _ _ _ _ (a3.put (some 28) (.slice (some ⟨b, o, none⟩) n cap)) _
          have f4_0 := f3_0.ne (n := 28) (by decide) (.slice (some ⟨b, o, none⟩) n cap)
          have f4_3 := f3_3.ne (n := 28) (by decide) (.slice (some ⟨b, o, none⟩) n cap)
          have f4_23 := f3_23.ne (n := 28) (by decide) (.slice (some ⟨b, o, none⟩) n cap)
          have f4_24 := f3_24.ne (n := 28) (by decide) (.slice (some ⟨b, o, none⟩) n cap)
          have f4_25 := f3_25.ne (n := 28) (by decide) (.slice (some ⟨b, o, none⟩) n cap)
          have f4_28 := At.put (a := a3) (n := 28) (by rw [S3.1, hs34]; decide) (.slice (some ⟨b, o, none⟩) n cap)
          have S4 := S3.put (n := 28) (by decide) (by decide) (.slice (some ⟨b, o, none⟩) n cap)
          generalize a3.put (some 28) (.slice (some ⟨b, o, none⟩) n cap) = a4 at S4 f4_0 f4_3 f4_23 f4_24 f4_25 f4_28 ⊢
          refine wpAnyH_take (i := 6) (oi := ⟨some 29, _, _, _, _, _⟩) (v := (.int .i64 (j : Int))) rfl (by kernel_rfl) (by kernel_rfl) (by kernel_rfl) (fun _ _ _ h => h) (.inl ⟨rfl, fun W _ => ex_move rfl f4_3.eval W⟩) trivial ?_
          show wpAnyH _ _ _ _ _ _ _ (a4.put (some 29) (.int .i64 (j : Int))) _
          have f5_0 := f4_0.ne (n := 29) (by decide) (.int .i64 (j : Int))
          have f5_3 := f4_3.ne (n := 29) (by decide) (.int .i64 (j : Int))
          have f5_23 := f4_23.ne (n := 29) (by decide) (.int .i64 (j : Int))
          have f5_24 := f4_24.ne (n := 29) (by decide) (.int .i64 (j : Int))
          have f5_25 := f4_25.ne (n := 29) (by decide) (.int .i64 (j : Int))
          have f5_28 := f4_28.ne (n := 29) (by decide) (.int .i64 (j : Int))
          have f5_29 := At.put (a := a4) (n := 29) (by rw [S4.1, hs34]; decide) (.int .i64 (j : Int))
          have S5 := S4.put (n := 29) (by decide) (by decide) (.int .i64 (j : Int))
          generalize a4.put (some 29) (.int .i64 (j : Int)) = a5 at S5 f5_0 f5_3 f5_23 f5_24 f5_25 f5_28 f5_29 ⊢
          refine wpAnyH_take (i := 7) (oi := ⟨some 30, _, _, _, _, _⟩) (v := (.slice (some ⟨b, o + j, none⟩) (n - j) (cap - j))) rfl (by kernel_rfl) (by kernel_rfl) (by kernel_rfl) (fun _ _ _ h => h) (.inl ⟨rfl, fun W _ => ex_slLo rfl f5_28 f5_29 (by omega) (by omega) W⟩) trivial ?_
          show wpAnyH _ _ _ _ _ _ _ (a5.put (some 30) (.slice (some ⟨b, o + j, none⟩) (n - j) (cap - j))) _
          have f6_0 := f5_0.ne (n := 30) (by decide) (.slice (some ⟨b, o + j, none⟩) (n - j) (cap - j))
          have f6_3 := f5_3.ne (n := 30) (by decide) (.slice (some ⟨b, o + j, none⟩) (n - j) (cap - j))
          have f6_23 := f5_23.ne (n := 30) (by decide) (.slice (some ⟨b, o + j, none⟩) (n - j) (cap - j))
          have f6_24 := f5_24.ne (n := 30) (by decide) (.slice (some ⟨b, o + j, none⟩) (n - j) (cap - j))
          have f6_25 := f5_25.ne (n := 30) (by decide) (.slice (some ⟨b, o + j, none⟩) (n - j) (cap - j))
          have f6_28 := f5_28.ne (n := 30) (by decide) (.slice (some ⟨b, o + j, none⟩) (n - j) (cap - j))
          have f6_29 := f5_29.ne (n := 30) (by decide) (.slice (some ⟨b, o + j, none⟩) (n - j) (cap - j))
          have f6_30 := At.put (a := a5) (n := 30) (by rw [S5.1, hs34]; decide) (.slice (some ⟨b, o + j, none⟩) (n - j) (cap - j))
          have S6 := S5.put (n := 30) (by decide) (by decide) (.slice (some ⟨b, o + j, none⟩) (n - j) (cap - j))
          generalize a5.put (some 30) (.slice (some ⟨b, o + j, none⟩) (n - j) (cap - j)) = a6 at S6 f6_0 f6_3 f6_23 f6_24 f6_25 f6_28 f6_29 f6_30 ⊢
          refine wpAnyH_ready (rs := [3]) (by kernel_rfl) (by simp) ?_
          refine all_enter (v := (.string ⟨X.toArray⟩)) (R := fun w' => Below w.drew.heap.size w.drew w') rfl rfl (ex_call1 ent_Merkle rfl f6_25 _) (c1.out _ ((Below.refl _ _).drew)) (fun w1 hb1 => ?_) AllReadyH.nil
          refine ⟨trivial, ?_⟩
          show wpAnyH _ _ _ _ _ _ _ (a6.put (some 26) (.string ⟨X.toArray⟩)) _
          have f7_0 := f6_0.ne (n := 26) (by decide) (.string ⟨X.toArray⟩)
          have f7_3 := f6_3.ne (n := 26) (by decide) (.string ⟨X.toArray⟩)
          have f7_23 := f6_23.ne (n := 26) (by decide) (.string ⟨X.toArray⟩)
          have f7_24 := f6_24.ne (n := 26) (by decide) (.string ⟨X.toArray⟩)
          have f7_25 := f6_25.ne (n := 26) (by decide) (.string ⟨X.toArray⟩)
          have f7_28 := f6_28.ne (n := 26) (by decide) (.string ⟨X.toArray⟩)
          have f7_29 := f6_29.ne (n := 26) (by decide) (.string ⟨X.toArray⟩)
          have f7_30 := f6_30.ne (n := 26) (by decide) (.string ⟨X.toArray⟩)
          have f7_26 := At.put (a := a6) (n := 26) (by rw [S6.1, hs34]; decide) (.string ⟨X.toArray⟩)
          have S7 := S6.put (n := 26) (by decide) (by decide) (.string ⟨X.toArray⟩)
          generalize a6.put (some 26) (.string ⟨X.toArray⟩) = a7 at S7 f7_0 f7_3 f7_23 f7_24 f7_25 f7_28 f7_29 f7_30 f7_26 ⊢
          have hB1 : Below w.heap.size w w1 := chain ((Below.refl w.heap.size w).drew) hb1
          refine wpAnyH_take (i := 4) (oi := ⟨some 27, _, _, _, _, _⟩) (v := (.string ⟨([110, 111, 100, 101] ++ X).toArray⟩)) rfl (by kernel_rfl) (by kernel_rfl) (by kernel_rfl) (fun _ _ _ h => h) (.inl ⟨rfl, fun W _ => by rw [← sapp]; exact ex_catC rfl f7_26 (by rw [str_size]; omega) (by decide) W⟩) trivial ?_
          show wpAnyH _ _ _ _ _ _ _ (a7.put (some 27) (.string ⟨([110, 111, 100, 101] ++ X).toArray⟩)) _
          have f8_0 := f7_0.ne (n := 27) (by decide) (.string ⟨([110, 111, 100, 101] ++ X).toArray⟩)
          have f8_3 := f7_3.ne (n := 27) (by decide) (.string ⟨([110, 111, 100, 101] ++ X).toArray⟩)
          have f8_23 := f7_23.ne (n := 27) (by decide) (.string ⟨([110, 111, 100, 101] ++ X).toArray⟩)
          have f8_24 := f7_24.ne (n := 27) (by decide) (.string ⟨([110, 111, 100, 101] ++ X).toArray⟩)
          have f8_25 := f7_25.ne (n := 27) (by decide) (.string ⟨([110, 111, 100, 101] ++ X).toArray⟩)
          have f8_28 := f7_28.ne (n := 27) (by decide) (.string ⟨([110, 111, 100, 101] ++ X).toArray⟩)
          have f8_29 := f7_29.ne (n := 27) (by decide) (.string ⟨([110, 111, 100, 101] ++ X).toArray⟩)
          have f8_30 := f7_30.ne (n := 27) (by decide) (.string ⟨([110, 111, 100, 101] ++ X).toArray⟩)
          have f8_26 := f7_26.ne (n := 27) (by decide) (.string ⟨([110, 111, 100, 101] ++ X).toArray⟩)
          have f8_27 := At.put (a := a7) (n := 27) (by rw [S7.1, hs34]; decide) (.string ⟨([110, 111, 100, 101] ++ X).toArray⟩)
          have S8 := S7.put (n := 27) (by decide) (by decide) (.string ⟨([110, 111, 100, 101] ++ X).toArray⟩)
          generalize a7.put (some 27) (.string ⟨([110, 111, 100, 101] ++ X).toArray⟩) = a8 at S8 f8_0 f8_3 f8_23 f8_24 f8_25 f8_28 f8_29 f8_30 f8_26 f8_27 ⊢
          refine wpAnyH_ready (rs := [8]) (by kernel_rfl) (by simp) ?_
          refine all_enter (v := (.string ⟨Y.toArray⟩)) (R := fun w' => Below w1.heap.size w1 w') rfl rfl (ex_call1 ent_Merkle rfl f8_30 _) (c2.out _ hB1) (fun w2 hb2 => ?_) AllReadyH.nil
          refine ⟨trivial, ?_⟩
          show wpAnyH _ _ _ _ _ _ _ (a8.put (some 31) (.string ⟨Y.toArray⟩)) _
          have f9_0 := f8_0.ne (n := 31) (by decide) (.string ⟨Y.toArray⟩)
          have f9_3 := f8_3.ne (n := 31) (by decide) (.string ⟨Y.toArray⟩)
          have f9_23 := f8_23.ne (n := 31) (by decide) (.string ⟨Y.toArray⟩)
          have f9_24 := f8_24.ne (n := 31) (by decide) (.string ⟨Y.toArray⟩)
          have f9_25 := f8_25.ne (n := 31) (by decide) (.string ⟨Y.toArray⟩)
          have f9_28 := f8_28.ne (n := 31) (by decide) (.string ⟨Y.toArray⟩)
          have f9_29 := f8_29.ne (n := 31) (by decide) (.string ⟨Y.toArray⟩)
          have f9_30 := f8_30.ne (n := 31) (by decide) (.string ⟨Y.toArray⟩)
          have f9_26 := f8_26.ne (n := 31) (by decide) (.string ⟨Y.toArray⟩)
          have f9_27 := f8_27.ne (n := 31) (by decide) (.string ⟨Y.toArray⟩)
          have f9_31 := At.put (a := a8) (n := 31) (by rw [S8.1, hs34]; decide) (.string ⟨Y.toArray⟩)
          have S9 := S8.put (n := 31) (by decide) (by decide) (.string ⟨Y.toArray⟩)
          generalize a8.put (some 31) (.string ⟨Y.toArray⟩) = a9 at S9 f9_0 f9_3 f9_23 f9_24 f9_25 f9_28 f9_29 f9_30 f9_26 f9_27 f9_31 ⊢
          have hB2 := chain hB1 hb2
          refine wpAnyH_take (i := 9) (oi := ⟨some 32, _, _, _, _, _⟩) (v := (.string ⟨([110, 111, 100, 101] ++ X ++ Y).toArray⟩)) rfl (by kernel_rfl) (by kernel_rfl) (by kernel_rfl) (fun _ _ _ h => h) (.inl ⟨rfl, fun W _ => by rw [← sapp]; exact ex_cat2 rfl f9_27 f9_31 (by rw [str_size]; simp; omega) (by rw [str_size]; omega) W⟩) trivial ?_
          show wpAnyH _ _ _ _ _ _ _ (a9.put (some 32) (.string ⟨([110, 111, 100, 101] ++ X ++ Y).toArray⟩)) _
          have f10_0 := f9_0.ne (n := 32) (by decide) (.string ⟨([110, 111, 100, 101] ++ X ++ Y).toArray⟩)
          have f10_3 := f9_3.ne (n := 32) (by decide) (.string ⟨([110, 111, 100, 101] ++ X ++ Y).toArray⟩)
          have f10_23 := f9_23.ne (n := 32) (by decide) (.string ⟨([110, 111, 100, 101] ++ X ++ Y).toArray⟩)
          have f10_24 := f9_24.ne (n := 32) (by decide) (.string ⟨([110, 111, 100, 101] ++ X ++ Y).toArray⟩)
          have f10_25 := f9_25.ne (n := 32) (by decide) (.string ⟨([110, 111, 100, 101] ++ X ++ Y).toArray⟩)
          have f10_28 := f9_28.ne (n := 32) (by decide) (.string ⟨([110, 111, 100, 101] ++ X ++ Y).toArray⟩)
          have f10_29 := f9_29.ne (n := 32) (by decide) (.string ⟨([110, 111, 100, 101] ++ X ++ Y).toArray⟩)
          have f10_30 := f9_30.ne (n := 32) (by decide) (.string ⟨([110, 111, 100, 101] ++ X ++ Y).toArray⟩)
          have f10_26 := f9_26.ne (n := 32) (by decide) (.string ⟨([110, 111, 100, 101] ++ X ++ Y).toArray⟩)
          have f10_27 := f9_27.ne (n := 32) (by decide) (.string ⟨([110, 111, 100, 101] ++ X ++ Y).toArray⟩)
          have f10_31 := f9_31.ne (n := 32) (by decide) (.string ⟨([110, 111, 100, 101] ++ X ++ Y).toArray⟩)
          have f10_32 := At.put (a := a9) (n := 32) (by rw [S9.1, hs34]; decide) (.string ⟨([110, 111, 100, 101] ++ X ++ Y).toArray⟩)
          have S10 := S9.put (n := 32) (by decide) (by decide) (.string ⟨([110, 111, 100, 101] ++ X ++ Y).toArray⟩)
          generalize a9.put (some 32) (.string ⟨([110, 111, 100, 101] ++ X ++ Y).toArray⟩) = a10 at S10 f10_0 f10_3 f10_23 f10_24 f10_25 f10_28 f10_29 f10_30 f10_26 f10_27 f10_31 f10_32 ⊢
          refine wpAnyH_ready (rs := [10]) (by kernel_rfl) (by simp) ?_
          refine all_enter (v := (.string ⟨(merF (f + 1) l).toArray⟩)) (R := fun w' => Below w2.heap.size w2 w') rfl rfl (ex_call1 ent_Digest rfl f10_32 _) (c3.out w2) (fun w3 hb3 => ?_) AllReadyH.nil
          refine ⟨trivial, ?_⟩
          show wpAnyH _ _ _ _ _ _ _ (a10.put (some 33) (.string ⟨(merF (f + 1) l).toArray⟩)) _
          have f11_0 := f10_0.ne (n := 33) (by decide) (.string ⟨(merF (f + 1) l).toArray⟩)
          have f11_3 := f10_3.ne (n := 33) (by decide) (.string ⟨(merF (f + 1) l).toArray⟩)
          have f11_23 := f10_23.ne (n := 33) (by decide) (.string ⟨(merF (f + 1) l).toArray⟩)
          have f11_24 := f10_24.ne (n := 33) (by decide) (.string ⟨(merF (f + 1) l).toArray⟩)
          have f11_25 := f10_25.ne (n := 33) (by decide) (.string ⟨(merF (f + 1) l).toArray⟩)
          have f11_28 := f10_28.ne (n := 33) (by decide) (.string ⟨(merF (f + 1) l).toArray⟩)
          have f11_29 := f10_29.ne (n := 33) (by decide) (.string ⟨(merF (f + 1) l).toArray⟩)
          have f11_30 := f10_30.ne (n := 33) (by decide) (.string ⟨(merF (f + 1) l).toArray⟩)
          have f11_26 := f10_26.ne (n := 33) (by decide) (.string ⟨(merF (f + 1) l).toArray⟩)
          have f11_27 := f10_27.ne (n := 33) (by decide) (.string ⟨(merF (f + 1) l).toArray⟩)
          have f11_31 := f10_31.ne (n := 33) (by decide) (.string ⟨(merF (f + 1) l).toArray⟩)
          have f11_32 := f10_32.ne (n := 33) (by decide) (.string ⟨(merF (f + 1) l).toArray⟩)
          have f11_33 := At.put (a := a10) (n := 33) (by rw [S10.1, hs34]; decide) (.string ⟨(merF (f + 1) l).toArray⟩)
          have S11 := S10.put (n := 33) (by decide) (by decide) (.string ⟨(merF (f + 1) l).toArray⟩)
          generalize a10.put (some 33) (.string ⟨(merF (f + 1) l).toArray⟩) = a11 at S11 f11_0 f11_3 f11_23 f11_24 f11_25 f11_28 f11_29 f11_30 f11_26 f11_27 f11_31 f11_32 f11_33 ⊢
          refine wpAnyH_take (i := 11) (oi := ⟨some 2, _, _, _, _, _⟩) (v := (.string ⟨(merF (f + 1) l).toArray⟩)) rfl (by kernel_rfl) (by kernel_rfl) (by kernel_rfl) (fun _ _ _ h => h) (.inl ⟨rfl, fun W _ => ex_assign rfl f11_33.eval W⟩) trivial ?_
          show wpAnyH _ _ _ _ _ _ _ (a11.put (some 2) (.string ⟨(merF (f + 1) l).toArray⟩)) _
          have f12_0 := f11_0.ne (n := 2) (by decide) (.string ⟨(merF (f + 1) l).toArray⟩)
          have f12_3 := f11_3.ne (n := 2) (by decide) (.string ⟨(merF (f + 1) l).toArray⟩)
          have f12_23 := f11_23.ne (n := 2) (by decide) (.string ⟨(merF (f + 1) l).toArray⟩)
          have f12_24 := f11_24.ne (n := 2) (by decide) (.string ⟨(merF (f + 1) l).toArray⟩)
          have f12_25 := f11_25.ne (n := 2) (by decide) (.string ⟨(merF (f + 1) l).toArray⟩)
          have f12_28 := f11_28.ne (n := 2) (by decide) (.string ⟨(merF (f + 1) l).toArray⟩)
          have f12_29 := f11_29.ne (n := 2) (by decide) (.string ⟨(merF (f + 1) l).toArray⟩)
          have f12_30 := f11_30.ne (n := 2) (by decide) (.string ⟨(merF (f + 1) l).toArray⟩)
          have f12_26 := f11_26.ne (n := 2) (by decide) (.string ⟨(merF (f + 1) l).toArray⟩)
          have f12_27 := f11_27.ne (n := 2) (by decide) (.string ⟨(merF (f + 1) l).toArray⟩)
          have f12_31 := f11_31.ne (n := 2) (by decide) (.string ⟨(merF (f + 1) l).toArray⟩)
          have f12_32 := f11_32.ne (n := 2) (by decide) (.string ⟨(merF (f + 1) l).toArray⟩)
          have f12_33 := f11_33.ne (n := 2) (by decide) (.string ⟨(merF (f + 1) l).toArray⟩)
          have f12_2 := At.put (a := a11) (n := 2) (by rw [S11.1, hs34]; decide) (.string ⟨(merF (f + 1) l).toArray⟩)
          have S12 := S11.put (n := 2) (by decide) (by decide) (.string ⟨(merF (f + 1) l).toArray⟩)
          generalize a11.put (some 2) (.string ⟨(merF (f + 1) l).toArray⟩) = a12 at S12 f12_0 f12_3 f12_23 f12_24 f12_25 f12_28 f12_29 f12_30 f12_26 f12_27 f12_31 f12_32 f12_33 f12_2 ⊢
          refine wpAnyH_done (by kernel_rfl) ?_ _
          refine NoPanic.normal ?_
          show Kf a12 w3
          refine hKf _ _ ?_
          refine wp_ret ?_
          exact bodyPost_ret (results_at rfl f12_2 _ _) (S12.2.1.trans hdf) ⟨rfl, chain hB2 hb3⟩
theorem rmerkle_any (A : Option Addr) (cap : Nat) (l : List (List UInt8)) (w : World) (ht : totl l ≤ 900000) (hll : l.length ≤ 1000) (hlc : l.length ≤ cap) (hcap : cap ≤ 9223372036854775807) (hRd : Rd w A (strVs l)) :
    Calls Tryd.prog 21 #[.slice A l.length cap] w fun e w' => e = .returned (.string ⟨(merL l).toArray⟩) ∧ Below w.heap.size w w' :=
  rmerkle_fuel (l.length + 1) A cap l w (by omega) ht hll hlc hcap hRd
end Go.Proofs.YtkppepdniehoiaaDoor.B4
