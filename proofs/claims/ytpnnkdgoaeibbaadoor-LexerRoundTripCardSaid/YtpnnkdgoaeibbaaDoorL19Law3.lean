/- LexerRoundTrip, walked. -/
import Derived.Test.YtpnnkdgoaeibbaaDoorL19Awake
import Derived.Test.YtpnnkdgoaeibbaaDoorL19Ref
namespace Go.Proofs.YtpnnkdgoaeibbaaDoor.L19
set_option maxRecDepth 100000
open Go.RowKit Mem
open M17 (Laid Laid.below)
set_option linter.unusedVariables false
set_option linter.unusedSimpArgs false

theorem rt_app (l m : List Tok) : rt (l ++ m) = rt l ++ rt m := by unfold rt; rw [List.flatMap_append]
theorem rt_take (l : List Tok) (k : Nat) : (rt (l.take k)).length ≤ (rt l).length := by
  conv => rhs; rw [← List.take_append_drop k l, rt_app, List.length_append]
  omega
theorem rt_step {l : List Tok} {k : Nat} {kd z : Nat} {T : List UInt8} (h : l[k]? = some (kd, T, z)) : rt (l.take (k + 1)) = rt (l.take k) ++ T ++ [32] := by
  obtain ⟨hk, e⟩ := List.getElem?_eq_some_iff.1 h
  rw [List.take_succ_eq_append_getElem hk, e, rt_snoc]
theorem rt_text {l : List Tok} {k : Nat} {kd z : Nat} {T : List UInt8} (h : l[k]? = some (kd, T, z)) : T.length ≤ (rt l).length := by
  have := rt_take l (k + 1)
  rw [rt_step h, List.length_append, List.length_append] at this
  omega
theorem cat_sp (a b : ByteArray) : (a ++ b ++ ⟨#[32]⟩).data.toList = a.data.toList ++ b.data.toList ++ [32] := by
  rw [ByteArray.data_append, ByteArray.data_append]
  simp
set_option maxHeartbeats 16000000 in
theorem walk_round (s : ByteArray) (w : World) (hL : Laid w) (hs : s.size ≤ 140737488351232) :
    Calls Tryd.prog 6 #[.string s] w fun e w' => e = .returned (.bool true) ∧ Below w.heap.size w w' := by
  have cW := Lib.hid awake_any
  have hL := Lib.hid hL
  have hls : s.data.toList.length = s.size := by simp
  obtain ⟨ts, n, e0, hx⟩ : ∃ ta na ea, ans s.data.toList = (ta, na, ea) := ⟨_, _, _, rfl⟩
  have bx := ans_bound s.data.toList
  rw [hx] at bx
  dsimp only at bx
  obtain ⟨n1, hn1⟩ : ∃ n, ts.length = n := ⟨_, rfl⟩
  have c1 := Tokens_use s hx hn1 (ni := (n : Int)) (ei := (e0 : Int)) rfl rfl w hL.out
  by_cases h6 : 1000 < s.size
  · have d6 : decide ((1000 : Int) < (s.size : Int)) = true := decide_eq_true (by omega)
    replace c1 := Lib.hid c1
    clear h6 hx bx hn1 hls
    go_enter Tryd.func6, Tryd.ntmps6
    go_wp2_with fail
    refine (c1.out).mono ?_
    rintro e w1 ⟨A1, p1, rfl, hI1, hb1⟩
    have hbx := Lib.hid hb1
    clear hI1 hb1
    have cW9 := Lib.hid (cW.out _ (hL.out.below hbx.out))
    go_wp2_with fail
    refine (cW9.out).mono ?_
    rintro e w9 ⟨rfl, hb9⟩
    go_wp2
    first | go_ret | skip
    exact ⟨rfl, chain hbx.out hb9⟩
  have d6 : decide ((1000 : Int) < (s.size : Int)) = false := decide_eq_false (by omega)
  by_cases e1 : e0 = 0
  rotate_left
  · obtain ⟨E, hE⟩ : ∃ E : Int, (e0 : Int) = E := ⟨_, rfl⟩
    have t2 : (E != 0) = true := bne_iff_ne.2 (by omega)
    rw [hE] at c1
    replace c1 := Lib.hid c1
    clear h6 hx bx hn1 hls hE e1
    go_enter Tryd.func6, Tryd.ntmps6
    go_wp2_with fail
    refine (c1.out).mono ?_
    rintro e w1 ⟨A1, p1, rfl, hI1, hb1⟩
    have hbx := Lib.hid hb1
    clear hI1 hb1
    have cW9 := Lib.hid (cW.out _ (hL.out.below hbx.out))
    go_wp2_with fail
    refine (cW9.out).mono ?_
    rintro e w9 ⟨rfl, hb9⟩
    go_wp2
    first | go_ret | skip
    exact ⟨rfl, chain hbx.out hb9⟩
  subst e1
  have hra := round_ans (by omega) hx
  have bn1 : n1 ≤ 1000 := by omega
  have N0 : (0 : Int) ≤ (n1 : Int) := by omega
  have N1 : (n1 : Int) ≤ 1000 := by omega
  have hrt : (rt ts).length ≤ 2000 := by omega
  have htk := Lib.hid (fun k => show (rt (ts.take k)).length ≤ 2000 from Nat.le_trans (rt_take ts k) hrt)
  have htx := Lib.hid (fun (k kd z : Nat) (T : List UInt8) (h : ts[k]? = some (kd, T, z)) => show T.length ≤ 2000 from Nat.le_trans (rt_text h) hrt)
  have hful := Lib.hid (show rt (ts.take n1) = rt ts by rw [← hn1, List.take_length])
  have c2 := Lib.hid (fun (S : ByteArray) (hS : S.data.toList = rt ts) W h => Tokens_use S (by rw [hS]; exact hra) (len := n1) (by rw [List.length_map, hn1]) (ni := 0) (ei := 0) rfl rfl W h)
  replace c1 := Lib.hid c1
  clear h6 hx bx hn1 hls hra hrt
  go_enter Tryd.func6, Tryd.ntmps6
  go_wp2_with fail
  refine (c1.out).mono ?_
  rintro e w1 ⟨A1, p1, rfl, hI1, hb1⟩
  have hga := Lib.hid (fun (k : Nat) (hk : k < n1) => hI1.at hk)
  have hcap := hI1.le
  have hbb := Lib.hid hb1
  have hIk := Lib.hid hI1
  clear c1 hI1 hb1
  go_wp2
  go_loopw [6, 28] (fun sv iv wr => ∃ (k : Nat) (S : ByteArray), sv = .string S ∧ iv = .int .i64 (k : Int) ∧ k ≤ n1 ∧ Hid (S.data.toList = rt (ts.take k)) ∧ Hid (∃ q, wr = w1.drewN q)) (fun _ iv _ => n1 - (intOf iv).toNat)
  case atStart => exact ⟨0, ⟨#[]⟩, rfl, rfl, Nat.zero_le _, Lib.hid rfl, Lib.hid ⟨0, rfl⟩⟩
  case round =>
    obtain ⟨k, S, rfl, rfl, hk, hS, hw⟩ := hrel
    by_cases hlt : k < n1
    · have dk : decide ((k : Int) < (n1 : Int)) = true := decide_eq_true (by omega)
      have k0 : (0 : Int) ≤ (k : Int) := by omega
      have k1 : (k : Int) < (n1 : Int) := by omega
      obtain ⟨kd, T, z, b1, o1, hT, rfl, hbl, f0, f1, f2⟩ := hga.out k hlt
      have hTl := htx.out k kd z T hT
      have hSz : S.size ≤ 2000 := by
        have : S.data.toList.length = S.size := by simp
        rw [← this, hS.out]
        exact htk.out k
      have hSI : (S.size : Int) ≤ 2000 := by omega
      have hst := rt_step hT
      unfold strV at f1
      obtain ⟨X, hX⟩ : ∃ X : ByteArray, ⟨T.toArray⟩ = X := ⟨_, rfl⟩
      have hXz : (X.size : Int) ≤ 2000 := by rw [← hX, str_size]; omega
      have hXl : X.data.toList = T := by rw [← hX]
      rw [hX] at f1
      have f1 : wr.cell? ⟨b1, o1 + k * 3 + 1, none⟩ = some (.string X) := by obtain ⟨q, e⟩ := hw.out; rw [e]; exact f1
      have hS2 := Lib.hid (show (S ++ X ++ ⟨#[32]⟩).data.toList = rt (ts.take (k + 1)) by rw [cat_sp, hS.out, hXl, hst])
      clear hX hXl hst hT f0 f2 hS hTl hga hIk
      go_wp2
      go_roundw
      case rel => exact ⟨k + 1, _, rfl, by go_num, by omega, hS2, hw⟩
      case measure => simp [intOf]; omega
    · obtain rfl : k = n1 := by omega
      have dk : decide ((k : Int) < (k : Int)) = false := decide_eq_false (by omega)
      have c2 := c2.out S (hS.out.trans hful.out) wr (by obtain ⟨q, e⟩ := hw.out; rw [e]; exact (hL.out.below hbb.out).below (chainN (Below.refl _ _) q))
      have hIk2 := Lib.hid (show IsTk wr A1 k p1 ts by obtain ⟨q, e⟩ := hw.out; rw [e]; exact hIk.out.below (chainN (Below.refl _ _) q))
      have hbw := Lib.hid (show Below w.heap.size w wr by obtain ⟨q, e⟩ := hw.out; rw [e]; exact chainN hbb.out q)
      have c2 := Lib.hid c2
      clear hga hw hS htk htx hful hIk hbb
      go_wp2_with fail
      refine (c2.out).mono ?_
      rintro e w2 ⟨A2, p2, rfl, hI2, hb2⟩
      have hga := Lib.hid (fun (j : Nat) (hj : j < k) => (hIk2.out.below hb2).at hj)
      have hgb := Lib.hid (fun (j : Nat) (hj : j < k) => hI2.at hj)
      have hcap2 := hI2.le
      have hbx := Lib.hid (chain hbw.out hb2)
      clear hIk2 hI2 hb2 c2 hbw
      go_wp2
      go_loopw [61] (fun iv wr => ∃ (j : Nat), iv = .int .i64 (j : Int) ∧ j ≤ k ∧ Hid (∃ q, wr = w2.drewN q)) (fun iv _ => k - (intOf iv).toNat)
      case atStart => exact ⟨0, rfl, Nat.zero_le _, Lib.hid ⟨0, rfl⟩⟩
      case round =>
        obtain ⟨j, rfl, hj, hw⟩ := hrel
        by_cases hlt : j < k
        · have dk : decide ((j : Int) < (k : Int)) = true := decide_eq_true (by omega)
          have k0 : (0 : Int) ≤ (j : Int) := by omega
          have k1 : (j : Int) < (k : Int) := by omega
          obtain ⟨kd, T, z, b1, o1, hT, rfl, _, f0, f1, f2⟩ := hga.out j hlt
          obtain ⟨kd', T', z', b2, o2, hT', rfl, _, g0, g1, g2⟩ := hgb.out j hlt
          rw [List.getElem?_map, hT] at hT'
          injection hT' with hT'
          unfold flat at hT'
          injection hT' with h1 hT'
          injection hT' with h2 h3
          dsimp only at h1 h2 h3
          subst h1 h2 h3
          unfold strV at f1 g1
          obtain ⟨X, hX⟩ : ∃ X : ByteArray, ⟨T.toArray⟩ = X := ⟨_, rfl⟩
          rw [hX] at f1 g1
          have f0 : wr.cell? ⟨b1, o1 + j * 3, none⟩ = some (.int .i64 (kd : Int)) := by obtain ⟨q, e⟩ := hw.out; rw [e]; exact f0
          have f1 : wr.cell? ⟨b1, o1 + j * 3 + 1, none⟩ = some (.string X) := by obtain ⟨q, e⟩ := hw.out; rw [e]; exact f1
          have g0 : wr.cell? ⟨b2, o2 + j * 3, none⟩ = some (.int .i64 (kd : Int)) := by obtain ⟨q, e⟩ := hw.out; rw [e]; exact g0
          have g1 : wr.cell? ⟨b2, o2 + j * 3 + 1, none⟩ = some (.string X) := by obtain ⟨q, e⟩ := hw.out; rw [e]; exact g1
          have g2 : wr.cell? ⟨b2, o2 + j * 3 + 2, none⟩ = some (.int .i64 1) := by obtain ⟨q, e⟩ := hw.out; rw [e]; exact g2
          have x1 : (X.toList == X.toList) = true := by simp
          clear hX hT f2 hga hgb
          go_wp2
          go_quiet (fail)
          go_wp2
          rename_i nq _
          go_roundw
          case rel => exact ⟨j + 1, by go_num, by omega, Lib.hid (by obtain ⟨q, e⟩ := hw.out; exact ⟨q + nq, by rw [e, World.drewN_drewN]⟩)⟩
          case measure => simp [intOf]; omega
        · obtain rfl : j = k := by omega
          have dk : decide ((j : Int) < (j : Int)) = false := decide_eq_false (by omega)
          have hbx := Lib.hid (show Below w.heap.size w wr by obtain ⟨q, e⟩ := hw.out; rw [e]; exact chainN hbx.out q)
          clear hga hgb hw
          have cW9 := Lib.hid (cW.out _ (hL.out.below hbx.out))
          go_wp2_with fail
          refine (cW9.out).mono ?_
          rintro e w9 ⟨rfl, hb9⟩
          go_wp2
          first | go_ret | skip
          exact ⟨rfl, chain hbx.out hb9⟩
theorem row_round (s : ByteArray) (w : World) (hL : Laid w) (hs : s.size ≤ 140737488351232) : Calls Tryd.prog 6 #[.string s] w fun e w' => e = .returned (.bool true) ∧ Below w.heap.size w w' := walk_round s w hL hs
end Go.Proofs.YtpnnkdgoaeibbaaDoor.L19
