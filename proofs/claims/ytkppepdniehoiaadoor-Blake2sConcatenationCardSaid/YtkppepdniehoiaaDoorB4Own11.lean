/- The contracts of the landed package's powerBelow and Merkle. -/
import Derived.Test.YtkppepdniehoiaaDoorB4Own10
import Derived.Test.YtkppepdniehoiaaDoorShelf
import Derived.Deep.RegionHeld3
namespace Go.Proofs.YtkppepdniehoiaaDoor.B4
open Go.RowKit Mem
set_option linter.unusedVariables false
set_option linter.unusedSimpArgs false

theorem pow_k (n : Nat) (h2 : 2 ≤ n) (hn : n ≤ 1000) : 1 ≤ Lib.bitLen (n - 1) ∧ Lib.bitLen (n - 1) ≤ 10 ∧ 2 ^ (Lib.bitLen (n - 1) - 1) = kOf n ∧ 1 ≤ kOf n ∧ kOf n < n := by
  have : ∀ n, n ≤ 1000 → 2 ≤ n → 1 ≤ Lib.bitLen (n - 1) ∧ Lib.bitLen (n - 1) ≤ 10 ∧ 2 ^ (Lib.bitLen (n - 1) - 1) = kOf n ∧ 1 ≤ kOf n ∧ kOf n < n := by decide +kernel
  exact this n hn h2

set_option maxHeartbeats 1000000 in
theorem opower_any (n : Nat) (w : World) (h2 : 2 ≤ n) (hn : n ≤ 1000) : Calls Tryd.prog 29 #[.int .i64 (n : Int)] w fun e w' => e = .returned (.int .i64 (kOf n : Int)) ∧ w = w' := by
  obtain ⟨hl1, hl2, hk, _, _⟩ := pow_k n h2 hn
  have hc := Tryd.bits_Len ((n - 1 : Nat) : Int) w (by omega) (by omega)
  rw [Int.toNat_natCast] at hc
  obtain ⟨m, hm⟩ : ∃ m, n - 1 = m := ⟨_, rfl⟩
  have hmI : (n : Int) - 1 = (m : Int) := by omega
  rw [hm] at hl1 hl2 hk hc
  have hm1 : m ≤ 1000 := by omega
  obtain ⟨L, hL⟩ : ∃ L, Lib.bitLen m = L := ⟨_, rfl⟩
  rw [hL] at hl1 hl2 hk hc
  have hch := Lib.hid hc
  have hkh := Lib.hid hk
  clear hc hk hL hm
  go_enter Tryd.func29, Tryd.ntmps29
  go_wp2_with fail
  refine hch.out.mono ?_
  rintro e w1 ⟨rfl, rfl⟩
  obtain rfl | rfl | rfl | rfl | rfl | rfl | rfl | rfl | rfl | rfl : L = 1 ∨ L = 2 ∨ L = 3 ∨ L = 4 ∨ L = 5 ∨ L = 6 ∨ L = 7 ∨ L = 8 ∨ L = 9 ∨ L = 10 := by omega
  all_goals
    go_wp2
    go_ret
    exact ⟨ret_i (by rw [← hkh.out]; rfl), rfl⟩
section
variable {o : Oper} {a : Act}
theorem ex_slHi {t u b of n cap k : Nat} (ho : o.op = .slice 22 (.tmp t) none (some (.tmp u)) none) (h : At a t (.slice (some ⟨b, of, none⟩) n cap)) (h' : At a u (.int .i64 (k : Int))) (hk : k ≤ cap) (w : World) :
    (execOp a.eval o).run Tryd.prog w = .ok (.value (.slice (some ⟨b, of, none⟩) k cap)) w := by
  have e := h.get
  have e' := h'.get
  have h1 : (k : Int) ≤ (cap : Int) := by omega
  have h0 : (0 : Int) ≤ (k : Int) := by omega
  clear h h'
  unfold execOp
  simp only [ho]
  go_simp
theorem ex_slLo {t u b of n cap k : Nat} (ho : o.op = .slice 22 (.tmp t) (some (.tmp u)) none none) (h : At a t (.slice (some ⟨b, of, none⟩) n cap)) (h' : At a u (.int .i64 (k : Int))) (hk : k < n) (hc : n ≤ cap) (w : World) :
    (execOp a.eval o).run Tryd.prog w = .ok (.value (.slice (some ⟨b, of + k, none⟩) (n - k) (cap - k))) w := by
  have e := h.get
  have e' := h'.get
  have h1 : (k : Int) ≤ (n : Int) := by omega
  have h2 : (n : Int) ≤ (cap : Int) := by omega
  have h0 : (0 : Int) ≤ (k : Int) := by omega
  have hne : k ≠ cap := by omega
  have hne' : cap ≠ k := by omega
  clear h h'
  unfold execOp
  simp only [ho]
  go_simp
theorem ex_mer {t1 : Nat} {ts : Array TypeId} {x : Value} (ho : o.op = .call { callee := .value (.func 20), args := #[.tmp t1], argTypes := ts }) (h1 : At a t1 x) (w : World) :
    (execOp a.eval o).run Tryd.prog w = .ok (.enter 20 #[x]) w := by
  have e1 := h1.get
  clear h1
  unfold execOp
  simp only [ho]
  go_simp
theorem ex_sum {t1 : Nat} {ts : Array TypeId} {x : Value} (ho : o.op = .call { callee := .value (.func 13), args := #[.tmp t1], argTypes := ts }) (h1 : At a t1 x) (w : World) :
    (execOp a.eval o).run Tryd.prog w = .ok (.enter 13 #[x]) w := by
  have e1 := h1.get
  clear h1
  unfold execOp
  simp only [ho]
  go_simp
theorem ex_build3 {t1 t2 : Nat} {x y z : ByteArray} (ho : o.op = .buildSlice 22 3 #[(0, .const (.string x)), (1, .tmp t1), (2, .tmp t2)]) (h1 : At a t1 (.string y)) (h2 : At a t2 (.string z)) (w : World) :
    (execOp a.eval o).run Tryd.prog w = .ok (.value (.slice (some ⟨w.heap.size, 0, none⟩) 3 3)) (w.alloc (.cells #[.string x, .string y, .string z] 9)) := by
  have e1 := h1.get
  have e2 := h2.get
  clear h1 h2
  unfold execOp
  simp only [ho]
  go_simp
end
theorem merF_two (f : Nat) (l : List (List UInt8)) (h : 2 ≤ l.length) : merF (f + 1) l = digL ([110, 111, 100, 101] ++ merF f (l.take (kOf l.length)) ++ merF f (l.drop (kOf l.length))) := by
  match l, h with
  | x :: y :: r, _ => rfl
theorem merF_len (f : Nat) (l : List (List UInt8)) : (merF f l).length ≤ 32 := by
  match f, l with
  | 0, l => simp [merF]
  | f + 1, [] => simp [merF, digL_len]
  | f + 1, [x] => simp [merF, digL_len]
  | f + 1, x :: y :: r => rw [merF_two f _ (by simp), digL_len]; omega
theorem Rd.take {w : World} {A : Option Addr} {l : List (List UInt8)} (h : Rd w A (strVs l)) (k : Nat) : Rd w A (strVs (l.take k)) := fun j hj => by
  have hj' : j < (strVs l).length := by rw [strVs_len] at hj ⊢; rw [List.length_take] at hj; omega
  obtain ⟨b, o, h1, h2, h3⟩ := h j hj'
  refine ⟨b, o, h1, h2, h3.trans ?_⟩
  simp [strVs]
theorem Rd.drop {w : World} {b o : Nat} {l : List (List UInt8)} (h : Rd w (some ⟨b, o, none⟩) (strVs l)) (k : Nat) : Rd w (some ⟨b, o + k, none⟩) (strVs (l.drop k)) := fun j hj => by
  have hj' : k + j < (strVs l).length := by rw [strVs_len] at hj ⊢; rw [List.length_drop] at hj; omega
  obtain ⟨b', o', h1, h2, h3⟩ := h (k + j) hj'
  cases h1
  refine ⟨b, o + k, rfl, h2, ?_⟩
  rw [Nat.add_assoc, h3]
  simp [strVs]
theorem osum_new (vs : List (List UInt8)) (cs : Array Value) (hcs : cs.toList = strVs vs) (n : Nat) (hn : vs.length = n) (w : World) (ht : totl vs ≤ 1000000) (hll : n ≤ 1000000) (hL : Laid w) :
    Calls Tryd.prog 13 #[.slice (some ⟨w.heap.size, 0, none⟩) n n] (w.alloc (.cells cs 9)) fun e w' => e = .returned (.string ⟨(digL vs.flatten).toArray⟩) ∧ Below w.heap.size w w' := by
  subst hn
  have h := osum_any (some ⟨w.heap.size, 0, none⟩) vs.length vs _ ht hll (Nat.le_refl _) (by omega) (rd_made w 9 _ cs hcs) (hL.below ((Below.refl _ _).alloc (Nat.le_refl _) (.cells cs 9)))
  exact h.mono fun e w' ⟨a, b⟩ => ⟨a, chain (below_made w _) b⟩

set_option maxHeartbeats 4000000 in
theorem omerkle_fuel : ∀ (f : Nat) (A : Option Addr) (cap : Nat) (l : List (List UInt8)) (w : World), l.length < f → totl l ≤ 900000 → l.length ≤ 1000 → l.length ≤ cap → cap ≤ 9223372036854775807 → Rd w A (strVs l) → Laid w →
    Calls Tryd.prog 20 #[.slice A l.length cap] w fun e w' => e = .returned (.string ⟨(merF f l).toArray⟩) ∧ Below w.heap.size w w'
  | 0, _, _, l, _, h, _, _, _, _, _, _ => absurd h (by omega)
  | f + 1, A, cap, l, w, hf, ht, hll, hlc, hcap, hRd, hL => by
    match l, hf, ht, hll, hlc, hRd with
    | [], hf, ht, hll, hlc, hRd =>
      have hc := Lib.hid (osum_new [[101, 109, 112, 116, 121]] #[.string ⟨#[101, 109, 112, 116, 121]⟩] rfl 1 rfl w (by decide) (by decide) hL)
      clear hRd hL
      go_enter Tryd.func20, Tryd.ntmps20
      go_wp2_with fail
      refine hc.out.mono ?_
      rintro e w1 ⟨rfl, hb1⟩
      go_wp2
      go_ret
      exact ⟨rfl, hb1⟩
    | [x], hf, ht, hll, hlc, hRd =>
      obtain ⟨b, o, rfl, hb, hcell⟩ := hRd 0 (by simp [strVs])
      have hcell : w.cell? ⟨b, o, none⟩ = some (.string ⟨x.toArray⟩) := by simpa [strVs, strV] using hcell
      have hx : x.length ≤ 900000 := by simpa [totl] using ht
      have hc := Lib.hid (osum_new [[108, 101, 97, 102], x] #[.string ⟨#[108, 101, 97, 102]⟩, .string ⟨x.toArray⟩] rfl 2 rfl w (by simp [totl]; omega) (by decide) hL)
      clear hRd hL
      go_enter Tryd.func20, Tryd.ntmps20
      go_wp2_with fail
      refine hc.out.mono ?_
      rintro e w1 ⟨rfl, hb1⟩
      go_wp2
      go_ret
      exact ⟨ret_string (by show digL _ = digL _; simp), hb1⟩
    | x :: y :: r, hf, ht, hll, hlc, hRd =>
      obtain ⟨l, hl⟩ : ∃ l, x :: y :: r = l := ⟨_, rfl⟩
      have h2 : 2 ≤ l.length := by rw [← hl]; simp
      rw [hl] at hf ht hll hlc hRd ⊢
      clear hl
      obtain ⟨_, _, _, hk1, hkl⟩ := pow_k l.length h2 hll
      obtain ⟨b, o, rfl, _, _⟩ := hRd 0 (by rw [strVs_len]; omega)
      have hpw := Lib.hid (fun W => opower_any l.length W h2 hll)
      have hmer := merF_two f l h2
      obtain ⟨k, hk⟩ : ∃ k, kOf l.length = k := ⟨_, rfl⟩
      rw [hk] at hk1 hkl hpw hmer
      have htt : totl (l.take k) + totl (l.drop k) = totl l := by
        conv => rhs; rw [← List.take_append_drop k l]
        simp only [totl, List.map_append, List.sum_append]
      have c1 := fun (W : World) (hW : Below w.heap.size w W) => omerkle_fuel f (some ⟨b, o, none⟩) cap (l.take k) W (by rw [List.length_take]; omega) (by omega) (by rw [List.length_take]; omega) (by rw [List.length_take]; omega) hcap (Rd.take (hRd.below hW) k) (hL.below hW)
      have c2 := fun (W : World) (hW : Below w.heap.size w W) => omerkle_fuel f (some ⟨b, o + k, none⟩) (cap - k) (l.drop k) W (by rw [List.length_drop]; omega) (by omega) (by rw [List.length_drop]; omega) (by rw [List.length_drop]; omega) (by omega) (Rd.drop (hRd.below hW) k) (hL.below hW)
      have m1 := merF_len f (l.take k)
      have m2 := merF_len f (l.drop k)
      obtain ⟨X, hX⟩ : ∃ X, merF f (l.take k) = X := ⟨_, rfl⟩
      obtain ⟨Y, hY⟩ : ∃ Y, merF f (l.drop k) = Y := ⟨_, rfl⟩
      rw [hX] at c1 m1 hmer
      rw [hY] at c2 m2 hmer
      have e1 : (l.take k).length = k := by rw [List.length_take]; omega
      obtain ⟨n, hn⟩ : ∃ n, l.length = n := ⟨_, rfl⟩
      obtain ⟨n2, hn2⟩ : ∃ n2, (l.drop k).length = n2 := ⟨_, rfl⟩
      have hn2e : n - k = n2 := by rw [← hn2, List.length_drop, hn]
      rw [hn] at hkl hlc hpw hll h2 ⊢
      rw [e1] at c1
      rw [hn2] at c2
      have c3 := fun (W : World) (hW : Laid W) => osum_new [[110, 111, 100, 101], X, Y] #[.string ⟨#[110, 111, 100, 101]⟩, .string ⟨X.toArray⟩, .string ⟨Y.toArray⟩] rfl 3 rfl W (by simp [totl]; omega) (by decide) hW
      have hfl : [[110, 111, 100, 101], X, Y].flatten = [110, 111, 100, 101] ++ X ++ Y := by simp
      rw [hfl, ← hmer] at c3
      have c1 := Lib.hid c1
      have c2 := Lib.hid c2
      have c3 := Lib.hid c3
      have d0 : ((n : Int) == 0) = false := by rw [beq_eq_false_iff_ne]; omega
      have d1 : ((n : Int) == 1) = false := by rw [beq_eq_false_iff_ne]; omega
      have k0 : (0 : Int) ≤ (k : Int) := by omega
      have k1 : (k : Int) ≤ (n : Int) := by omega
      have k2 : (k : Int) ≤ (cap : Int) := by omega
      have hkc : k ≠ cap := by omega
      clear hfl hmer hX hY hn hn2 e1 hk htt hRd ht hf
      go_enter Tryd.func20, Tryd.ntmps20
      go_wp2_with fail
      refine (hpw.out _).mono ?_
      rintro e w0 ⟨rfl, rfl⟩
      go_wp2_with fail
      refine wp_at (fun a ha => ?_)
      have y0 : At a 0 (.slice (some ⟨b, o, none⟩) n cap) := by rw [ha]; rfl
      have y3 : At a 3 (.int .i64 (k : Int)) := by rw [ha]; rfl
      have hs30 : a.tmps.size = 30 := by rw [ha]; rfl
      have hdf : a.defers = [] := by rw [ha]
      have S0 := Same.refl a 0 1000
      clear ha
      rename_i Qf Kf hKf
      refine wp_region_noPanic ?_
      refine wp_region_held_drew (S := fun _ => True) (by kernel_rfl) trivial (fun _ => ?_)
      refine wpAnyH_take (i := 0) (oi := ⟨some 20, _, _, _, _, _⟩) (v := (.slice (some ⟨b, o, none⟩) n cap)) rfl (by kernel_rfl) (by kernel_rfl) (by kernel_rfl) (fun _ _ _ h => h) (.inl ⟨rfl, fun W _ => ex_move rfl y0.eval W⟩) trivial ?_
      show wpAnyH _ _ _ _ _ _ _ (a.put (some 20) (.slice (some ⟨b, o, none⟩) n cap)) _
      have f1_0 := y0.ne (n := 20) (by decide) (.slice (some ⟨b, o, none⟩) n cap)
      have f1_3 := y3.ne (n := 20) (by decide) (.slice (some ⟨b, o, none⟩) n cap)
      have f1_20 := At.put (a := a) (n := 20) (by rw [S0.1, hs30]; decide) (.slice (some ⟨b, o, none⟩) n cap)
      have S1 := S0.put (n := 20) (by decide) (by decide) (.slice (some ⟨b, o, none⟩) n cap)
      generalize a.put (some 20) (.slice (some ⟨b, o, none⟩) n cap) = a1 at S1 f1_0 f1_3 f1_20 ⊢
      refine wpAnyH_take (i := 1) (oi := ⟨some 21, _, _, _, _, _⟩) (v := (.int .i64 (k : Int))) rfl (by kernel_rfl) (by kernel_rfl) (by kernel_rfl) (fun _ _ _ h => h) (.inl ⟨rfl, fun W _ => ex_move rfl f1_3.eval W⟩) trivial ?_
      show wpAnyH _ _ _ _ _ _ _ (a1.put (some 21) (.int .i64 (k : Int))) _
      have f2_0 := f1_0.ne (n := 21) (by decide) (.int .i64 (k : Int))
      have f2_3 := f1_3.ne (n := 21) (by decide) (.int .i64 (k : Int))
      have f2_20 := f1_20.ne (n := 21) (by decide) (.int .i64 (k : Int))
      have f2_21 := At.put (a := a1) (n := 21) (by rw [S1.1, hs30]; decide) (.int .i64 (k : Int))
      have S2 := S1.put (n := 21) (by decide) (by decide) (.int .i64 (k : Int))
      generalize a1.put (some 21) (.int .i64 (k : Int)) = a2 at S2 f2_0 f2_3 f2_20 f2_21 ⊢
      refine wpAnyH_take (i := 2) (oi := ⟨some 22, _, _, _, _, _⟩) (v := (.slice (some ⟨b, o, none⟩) k cap)) rfl (by kernel_rfl) (by kernel_rfl) (by kernel_rfl) (fun _ _ _ h => h) (.inl ⟨rfl, fun W _ => ex_slHi rfl f2_20 f2_21 (by omega) W⟩) trivial ?_
      show wpAnyH _ _ _ _ _ _ _ (a2.put (some 22) (.slice (some ⟨b, o, none⟩) k cap)) _
      have f3_0 := f2_0.ne (n := 22) (by decide) (.slice (some ⟨b, o, none⟩) k cap)
      have f3_3 := f2_3.ne (n := 22) (by decide) (.slice (some ⟨b, o, none⟩) k cap)
      have f3_20 := f2_20.ne (n := 22) (by decide) (.slice (some ⟨b, o, none⟩) k cap)
      have f3_21 := f2_21.ne (n := 22) (by decide) (.slice (some ⟨b, o, none⟩) k cap)
      have f3_22 := At.put (a := a2) (n := 22) (by rw [S2.1, hs30]; decide) (.slice (some ⟨b, o, none⟩) k cap)
      have S3 := S2.put (n := 22) (by decide) (by decide) (.slice (some ⟨b, o, none⟩) k cap)
      generalize a2.put (some 22) (.slice (some ⟨b, o, none⟩) k cap) = a3 at S3 f3_0 f3_3 f3_20 f3_21 f3_22 ⊢
      refine wpAnyH_take (i := 4) (oi := ⟨some 24, _, _, _, _, _⟩) (v := (.slice (some ⟨b, o, none⟩) n cap)) rfl (by kernel_rfl) (by kernel_rfl) (by kernel_rfl) (fun _ _ _ h => h) (.inl ⟨rfl, fun W _ => ex_move rfl f3_0.eval W⟩) trivial ?_
      show wpAnyH _ _ _ _ _ _ _ (a3.put (some 24) (.slice (some ⟨b, o, none⟩) n cap)) _
      have f4_0 := f3_0.ne (n := 24) (by decide) (.slice (some ⟨b, o, none⟩) n cap)
      have f4_3 := f3_3.ne (n := 24) (by decide) (.slice (some ⟨b, o, none⟩) n cap)
      have f4_20 := f3_20.ne (n := 24) (by decide) (.slice (some ⟨b, o, none⟩) n cap)
      have f4_21 := f3_21.ne (n := 24) (by decide) (.slice (some ⟨b, o, none⟩) n cap)
      have f4_22 := f3_22.ne (n := 24) (by decide) (.slice (some ⟨b, o, none⟩) n cap)
      have f4_24 := At.put (a := a3) (n := 24) (by rw [S3.1, hs30]; decide) (.slice (some ⟨b, o, none⟩) n cap)
      have S4 := S3.put (n := 24) (by decide) (by decide) (.slice (some ⟨b, o, none⟩) n cap)
      generalize a3.put (some 24) (.slice (some ⟨b, o, none⟩) n cap) = a4 at S4 f4_0 f4_3 f4_20 f4_21 f4_22 f4_24 ⊢
      refine wpAnyH_take (i := 5) (oi := ⟨some 25, _, _, _, _, _⟩) (v := (.int .i64 (k : Int))) rfl (by kernel_rfl) (by kernel_rfl) (by kernel_rfl) (fun _ _ _ h => h) (.inl ⟨rfl, fun W _ => ex_move rfl f4_3.eval W⟩) trivial ?_
      show wpAnyH _ _ _ _ _ _ _ (a4.put (some 25) (.int .i64 (k : Int))) _
      have f5_0 := f4_0.ne (n := 25) (by decide) (.int .i64 (k : Int))
      have f5_3 := f4_3.ne (n := 25) (by decide) (.int .i64 (k : Int))
      have f5_20 := f4_20.ne (n := 25) (by decide) (.int .i64 (k : Int))
      have f5_21 := f4_21.ne (n := 25) (by decide) (.int .i64 (k : Int))
      have f5_22 := f4_22.ne (n := 25) (by decide) (.int .i64 (k : Int))
      have f5_24 := f4_24.ne (n := 25) (by decide) (.int .i64 (k : Int))
      have f5_25 := At.put (a := a4) (n := 25) (by rw [S4.1, hs30]; decide) (.int .i64 (k : Int))
      have S5 := S4.put (n := 25) (by decide) (by decide) (.int .i64 (k : Int))
      generalize a4.put (some 25) (.int .i64 (k : Int)) = a5 at S5 f5_0 f5_3 f5_20 f5_21 f5_22 f5_24 f5_25 ⊢
      refine wpAnyH_take (i := 6) (oi := ⟨some 26, _, _, _, _, _⟩) (v := (.slice (some ⟨b, o + k, none⟩) (n - k) (cap - k))) rfl (by kernel_rfl) (by kernel_rfl) (by kernel_rfl) (fun _ _ _ h => h) (.inl ⟨rfl, fun W _ => ex_slLo rfl f5_24 f5_25 (by omega) (by omega) W⟩) trivial ?_
      show wpAnyH _ _ _ _ _ _ _ (a5.put (some 26) (.slice (some ⟨b, o + k, none⟩) (n - k) (cap - k))) _
      have f6_0 := f5_0.ne (n := 26) (by decide) (.slice (some ⟨b, o + k, none⟩) (n - k) (cap - k))
      have f6_3 := f5_3.ne (n := 26) (by decide) (.slice (some ⟨b, o + k, none⟩) (n - k) (cap - k))
      have f6_20 := f5_20.ne (n := 26) (by decide) (.slice (some ⟨b, o + k, none⟩) (n - k) (cap - k))
      have f6_21 := f5_21.ne (n := 26) (by decide) (.slice (some ⟨b, o + k, none⟩) (n - k) (cap - k))
      have f6_22 := f5_22.ne (n := 26) (by decide) (.slice (some ⟨b, o + k, none⟩) (n - k) (cap - k))
      have f6_24 := f5_24.ne (n := 26) (by decide) (.slice (some ⟨b, o + k, none⟩) (n - k) (cap - k))
      have f6_25 := f5_25.ne (n := 26) (by decide) (.slice (some ⟨b, o + k, none⟩) (n - k) (cap - k))
      have f6_26 := At.put (a := a5) (n := 26) (by rw [S5.1, hs30]; decide) (.slice (some ⟨b, o + k, none⟩) (n - k) (cap - k))
      have S6 := S5.put (n := 26) (by decide) (by decide) (.slice (some ⟨b, o + k, none⟩) (n - k) (cap - k))
      generalize a5.put (some 26) (.slice (some ⟨b, o + k, none⟩) (n - k) (cap - k)) = a6 at S6 f6_0 f6_3 f6_20 f6_21 f6_22 f6_24 f6_25 f6_26 ⊢
      refine wpAnyH_ready (rs := [3]) (by kernel_rfl) (by simp) ?_
      refine all_enter (v := (.string ⟨X.toArray⟩)) (R := fun w' => Below w.drew.heap.size w.drew w') rfl rfl (ex_mer rfl f6_22 _) (c1.out _ ((Below.refl _ _).drew)) (fun w1 hb1 => ?_) AllReadyH.nil
      refine ⟨trivial, ?_⟩
      show wpAnyH _ _ _ _ _ _ _ (a6.put (some 23) (.string ⟨X.toArray⟩)) _
      have f7_0 := f6_0.ne (n := 23) (by decide) (.string ⟨X.toArray⟩)
      have f7_3 := f6_3.ne (n := 23) (by decide) (.string ⟨X.toArray⟩)
      have f7_20 := f6_20.ne (n := 23) (by decide) (.string ⟨X.toArray⟩)
      have f7_21 := f6_21.ne (n := 23) (by decide) (.string ⟨X.toArray⟩)
      have f7_22 := f6_22.ne (n := 23) (by decide) (.string ⟨X.toArray⟩)
      have f7_24 := f6_24.ne (n := 23) (by decide) (.string ⟨X.toArray⟩)
      have f7_25 := f6_25.ne (n := 23) (by decide) (.string ⟨X.toArray⟩)
      have f7_26 := f6_26.ne (n := 23) (by decide) (.string ⟨X.toArray⟩)
      have f7_23 := At.put (a := a6) (n := 23) (by rw [S6.1, hs30]; decide) (.string ⟨X.toArray⟩)
      have S7 := S6.put (n := 23) (by decide) (by decide) (.string ⟨X.toArray⟩)
      generalize a6.put (some 23) (.string ⟨X.toArray⟩) = a7 at S7 f7_0 f7_3 f7_20 f7_21 f7_22 f7_24 f7_25 f7_26 f7_23 ⊢
      have hB1 : Below w.heap.size w w1 := chain ((Below.refl w.heap.size w).drew) hb1
      refine wpAnyH_ready (rs := [7]) (by kernel_rfl) (by simp) ?_
      have c2' := c2.out _ hB1
      rw [← hn2e] at c2'
      refine all_enter (v := (.string ⟨Y.toArray⟩)) (R := fun w' => Below w1.heap.size w1 w') rfl rfl (ex_mer rfl f7_26 _) c2' (fun w2 hb2 => ?_) AllReadyH.nil
      refine ⟨trivial, ?_⟩
      show wpAnyH _ _ _ _ _ _ _ (a7.put (some 27) (.string ⟨Y.toArray⟩)) _
      have f8_0 := f7_0.ne (n := 27) (by decide) (.string ⟨Y.toArray⟩)
      have f8_3 := f7_3.ne (n := 27) (by decide) (.string ⟨Y.toArray⟩)
      have f8_20 := f7_20.ne (n := 27) (by decide) (.string ⟨Y.toArray⟩)
      have f8_21 := f7_21.ne (n := 27) (by decide) (.string ⟨Y.toArray⟩)
      have f8_22 := f7_22.ne (n := 27) (by decide) (.string ⟨Y.toArray⟩)
      have f8_24 := f7_24.ne (n := 27) (by decide) (.string ⟨Y.toArray⟩)
      have f8_25 := f7_25.ne (n := 27) (by decide) (.string ⟨Y.toArray⟩)
      have f8_26 := f7_26.ne (n := 27) (by decide) (.string ⟨Y.toArray⟩)
      have f8_23 := f7_23.ne (n := 27) (by decide) (.string ⟨Y.toArray⟩)
      have f8_27 := At.put (a := a7) (n := 27) (by rw [S7.1, hs30]; decide) (.string ⟨Y.toArray⟩)
      have S8 := S7.put (n := 27) (by decide) (by decide) (.string ⟨Y.toArray⟩)
      generalize a7.put (some 27) (.string ⟨Y.toArray⟩) = a8 at S8 f8_0 f8_3 f8_20 f8_21 f8_22 f8_24 f8_25 f8_26 f8_23 f8_27 ⊢
      have hB2 := chain hB1 hb2
      refine wpAnyH_ready (rs := [8]) (by kernel_rfl) (by simp) ?_
      refine all_val rfl rfl (ex_build3 rfl f8_23 f8_27 _) trivial ?_ AllReadyH.nil
      show wpAnyH _ _ _ _ _ _ _ (a8.put (some 28) (.slice (some ⟨w2.heap.size, 0, none⟩) 3 3)) _
      have f9_0 := f8_0.ne (n := 28) (by decide) (.slice (some ⟨w2.heap.size, 0, none⟩) 3 3)
      have f9_3 := f8_3.ne (n := 28) (by decide) (.slice (some ⟨w2.heap.size, 0, none⟩) 3 3)
      have f9_20 := f8_20.ne (n := 28) (by decide) (.slice (some ⟨w2.heap.size, 0, none⟩) 3 3)
      have f9_21 := f8_21.ne (n := 28) (by decide) (.slice (some ⟨w2.heap.size, 0, none⟩) 3 3)
      have f9_22 := f8_22.ne (n := 28) (by decide) (.slice (some ⟨w2.heap.size, 0, none⟩) 3 3)
      have f9_24 := f8_24.ne (n := 28) (by decide) (.slice (some ⟨w2.heap.size, 0, none⟩) 3 3)
      have f9_25 := f8_25.ne (n := 28) (by decide) (.slice (some ⟨w2.heap.size, 0, none⟩) 3 3)
      have f9_26 := f8_26.ne (n := 28) (by decide) (.slice (some ⟨w2.heap.size, 0, none⟩) 3 3)
      have f9_23 := f8_23.ne (n := 28) (by decide) (.slice (some ⟨w2.heap.size, 0, none⟩) 3 3)
      have f9_27 := f8_27.ne (n := 28) (by decide) (.slice (some ⟨w2.heap.size, 0, none⟩) 3 3)
      have f9_28 := At.put (a := a8) (n := 28) (by rw [S8.1, hs30]; decide) (.slice (some ⟨w2.heap.size, 0, none⟩) 3 3)
      have S9 := S8.put (n := 28) (by decide) (by decide) (.slice (some ⟨w2.heap.size, 0, none⟩) 3 3)
      generalize a8.put (some 28) (.slice (some ⟨w2.heap.size, 0, none⟩) 3 3) = a9 at S9 f9_0 f9_3 f9_20 f9_21 f9_22 f9_24 f9_25 f9_26 f9_23 f9_27 f9_28 ⊢
      refine wpAnyH_ready (rs := [9]) (by kernel_rfl) (by simp) ?_
      refine all_enter (v := (.string ⟨(merF (f + 1) l).toArray⟩)) (R := fun w' => Below w2.heap.size w2 w') rfl rfl (ex_sum rfl f9_28 _) (c3.out _ (hL.below hB2)) (fun w3 hb3 => ?_) AllReadyH.nil
      refine ⟨trivial, ?_⟩
      show wpAnyH _ _ _ _ _ _ _ (a9.put (some 29) (.string ⟨(merF (f + 1) l).toArray⟩)) _
      have f10_0 := f9_0.ne (n := 29) (by decide) (.string ⟨(merF (f + 1) l).toArray⟩)
      have f10_3 := f9_3.ne (n := 29) (by decide) (.string ⟨(merF (f + 1) l).toArray⟩)
      have f10_20 := f9_20.ne (n := 29) (by decide) (.string ⟨(merF (f + 1) l).toArray⟩)
      have f10_21 := f9_21.ne (n := 29) (by decide) (.string ⟨(merF (f + 1) l).toArray⟩)
      have f10_22 := f9_22.ne (n := 29) (by decide) (.string ⟨(merF (f + 1) l).toArray⟩)
      have f10_24 := f9_24.ne (n := 29) (by decide) (.string ⟨(merF (f + 1) l).toArray⟩)
      have f10_25 := f9_25.ne (n := 29) (by decide) (.string ⟨(merF (f + 1) l).toArray⟩)
      have f10_26 := f9_26.ne (n := 29) (by decide) (.string ⟨(merF (f + 1) l).toArray⟩)
      have f10_23 := f9_23.ne (n := 29) (by decide) (.string ⟨(merF (f + 1) l).toArray⟩)
      have f10_27 := f9_27.ne (n := 29) (by decide) (.string ⟨(merF (f + 1) l).toArray⟩)
      have f10_28 := f9_28.ne (n := 29) (by decide) (.string ⟨(merF (f + 1) l).toArray⟩)
      have f10_29 := At.put (a := a9) (n := 29) (by rw [S9.1, hs30]; decide) (.string ⟨(merF (f + 1) l).toArray⟩)
      have S10 := S9.put (n := 29) (by decide) (by decide) (.string ⟨(merF (f + 1) l).toArray⟩)
      generalize a9.put (some 29) (.string ⟨(merF (f + 1) l).toArray⟩) = a10 at S10 f10_0 f10_3 f10_20 f10_21 f10_22 f10_24 f10_25 f10_26 f10_23 f10_27 f10_28 f10_29 ⊢
      refine wpAnyH_take (i := 10) (oi := ⟨some 2, _, _, _, _, _⟩) (v := (.string ⟨(merF (f + 1) l).toArray⟩)) rfl (by kernel_rfl) (by kernel_rfl) (by kernel_rfl) (fun _ _ _ h => h) (.inl ⟨rfl, fun W _ => ex_assign rfl f10_29.eval W⟩) trivial ?_
      show wpAnyH _ _ _ _ _ _ _ (a10.put (some 2) (.string ⟨(merF (f + 1) l).toArray⟩)) _
      have f11_0 := f10_0.ne (n := 2) (by decide) (.string ⟨(merF (f + 1) l).toArray⟩)
      have f11_3 := f10_3.ne (n := 2) (by decide) (.string ⟨(merF (f + 1) l).toArray⟩)
      have f11_20 := f10_20.ne (n := 2) (by decide) (.string ⟨(merF (f + 1) l).toArray⟩)
      have f11_21 := f10_21.ne (n := 2) (by decide) (.string ⟨(merF (f + 1) l).toArray⟩)
      have f11_22 := f10_22.ne (n := 2) (by decide) (.string ⟨(merF (f + 1) l).toArray⟩)
      have f11_24 := f10_24.ne (n := 2) (by decide) (.string ⟨(merF (f + 1) l).toArray⟩)
      have f11_25 := f10_25.ne (n := 2) (by decide) (.string ⟨(merF (f + 1) l).toArray⟩)
      have f11_26 := f10_26.ne (n := 2) (by decide) (.string ⟨(merF (f + 1) l).toArray⟩)
      have f11_23 := f10_23.ne (n := 2) (by decide) (.string ⟨(merF (f + 1) l).toArray⟩)
      have f11_27 := f10_27.ne (n := 2) (by decide) (.string ⟨(merF (f + 1) l).toArray⟩)
      have f11_28 := f10_28.ne (n := 2) (by decide) (.string ⟨(merF (f + 1) l).toArray⟩)
      have f11_29 := f10_29.ne (n := 2) (by decide) (.string ⟨(merF (f + 1) l).toArray⟩)
      have f11_2 := At.put (a := a10) (n := 2) (by rw [S10.1, hs30]; decide) (.string ⟨(merF (f + 1) l).toArray⟩)
      have S11 := S10.put (n := 2) (by decide) (by decide) (.string ⟨(merF (f + 1) l).toArray⟩)
      generalize a10.put (some 2) (.string ⟨(merF (f + 1) l).toArray⟩) = a11 at S11 f11_0 f11_3 f11_20 f11_21 f11_22 f11_24 f11_25 f11_26 f11_23 f11_27 f11_28 f11_29 f11_2 ⊢
      refine wpAnyH_done (by kernel_rfl) ?_ _
      refine NoPanic.normal ?_
      show Kf a11 w3
      refine hKf _ _ ?_
      refine wp_ret ?_
      exact bodyPost_ret (results_at rfl f11_2 _ _) (S11.2.1.trans hdf) ⟨rfl, chain hB2 hb3⟩
theorem omerkle_any (A : Option Addr) (cap : Nat) (l : List (List UInt8)) (w : World) (ht : totl l ≤ 900000) (hll : l.length ≤ 1000) (hlc : l.length ≤ cap) (hcap : cap ≤ 9223372036854775807) (hRd : Rd w A (strVs l)) (hL : Laid w) :
    Calls Tryd.prog 20 #[.slice A l.length cap] w fun e w' => e = .returned (.string ⟨(merL l).toArray⟩) ∧ Below w.heap.size w w' :=
  omerkle_fuel (l.length + 1) A cap l w (by omega) ht hll hlc hcap hRd hL
end Go.Proofs.YtkppepdniehoiaaDoor.B4
