/- AssemblerOrigin, walked. -/
import Derived.Test.YthmgocjmfhpafaaDoorA18Lib
import Derived.BigQuiet
import Derived.Deep.QuietTactic
namespace Go.Proofs.YthmgocjmfhpafaaDoor.A18
set_option maxRecDepth 100000
open Go.RowKit Mem
open M17 (Laid Laid.below)
set_option linter.unusedVariables false
set_option linter.unusedSimpArgs false

theorem dl_byte {x y : List UInt8} {SX SY : ByteArray} (h : dl x y = true) (hx : SX.data.toList = x) (hy : SY.data.toList = y) {k : Nat} (h1 : k < SX.size) (h2 : k < SY.size) : SX[k] = SY[k] ∨ (isDg SX[k] = true ∧ isDg SY[k] = true) := by
  have e1 : x[k]? = some SX[k] := by rw [← hx, List.getElem?_eq_getElem (by simpa using h1), ba_get SX k h1]
  have e2 : y[k]? = some SY[k] := by rw [← hy, List.getElem?_eq_getElem (by simpa using h2), ba_get SY k h2]
  exact dl_at k h e1 e2
theorem isDg_iff (c : UInt8) : isDg c = true ↔ 48 ≤ c.toNat ∧ c.toNat ≤ 57 := by unfold isDg; simp
set_option maxHeartbeats 16000000 in
theorem walk_origin (s : ByteArray) (a b : Int) (w : World) (hL : Laid w) (hs : s.size ≤ 140737488351232) :
    Calls Tryd.prog 6 #[.string s, .int .i64 a, .int .i64 b] w fun e w' => e = .returned (.bool true) ∧ Below w.heap.size w w' := by
  have cW := Lib.hid awake_any
  have hL := Lib.hid hL
  by_cases h1 : 600 < s.size
  · have dh1 : decide ((600 : Int) < (s.size : Int)) = true := decide_eq_true (by omega)
    have cW1 := Lib.hid (cW.out w hL.out)
    clear h1
    go_enter Tryd.func6, Tryd.ntmps6
    go_wp2_with fail
    refine (cW1.out).mono ?_
    rintro e w1 ⟨rfl, hb1⟩
    go_wp2
    first | go_ret | skip
    exact ⟨rfl, hb1⟩
  have dh1 : decide ((600 : Int) < (s.size : Int)) = false := decide_eq_false (by omega)
  by_cases h2 : a < 0
  · have dh2 : decide (a < 0) = true := decide_eq_true (by omega)
    have cW1 := Lib.hid (cW.out w hL.out)
    clear h1 h2
    go_enter Tryd.func6, Tryd.ntmps6
    go_wp2_with fail
    refine (cW1.out).mono ?_
    rintro e w1 ⟨rfl, hb1⟩
    go_wp2
    first | go_ret | skip
    exact ⟨rfl, hb1⟩
  have dh2 : decide (a < 0) = false := decide_eq_false (by omega)
  by_cases h3 : b < 0
  · have dh3 : decide (b < 0) = true := decide_eq_true (by omega)
    have cW1 := Lib.hid (cW.out w hL.out)
    clear h1 h2 h3
    go_enter Tryd.func6, Tryd.ntmps6
    go_wp2_with fail
    refine (cW1.out).mono ?_
    rintro e w1 ⟨rfl, hb1⟩
    go_wp2
    first | go_ret | skip
    exact ⟨rfl, hb1⟩
  have dh3 : decide (b < 0) = false := decide_eq_false (by omega)
  by_cases h4 : 262144 ≤ a
  · have dh4 : decide (262144 ≤ a) = true := decide_eq_true (by omega)
    have cW1 := Lib.hid (cW.out w hL.out)
    clear h1 h2 h3 h4
    go_enter Tryd.func6, Tryd.ntmps6
    go_wp2_with fail
    refine (cW1.out).mono ?_
    rintro e w1 ⟨rfl, hb1⟩
    go_wp2
    first | go_ret | skip
    exact ⟨rfl, hb1⟩
  have dh4 : decide (262144 ≤ a) = false := decide_eq_false (by omega)
  by_cases h5 : 262144 ≤ b
  · have dh5 : decide (262144 ≤ b) = true := decide_eq_true (by omega)
    have cW1 := Lib.hid (cW.out w hL.out)
    clear h1 h2 h3 h4 h5
    go_enter Tryd.func6, Tryd.ntmps6
    go_wp2_with fail
    refine (cW1.out).mono ?_
    rintro e w1 ⟨rfl, hb1⟩
    go_wp2
    first | go_ret | skip
    exact ⟨rfl, hb1⟩
  have dh5 : decide (262144 ≤ b) = false := decide_eq_false (by omega)
  have c1 := Assemble_use s (by omega) a
  have c2 := Assemble_use s (by omega) b
  have hor := origin_of s.data.toList (a := a) (b := b) (by omega) (by omega) (by omega) (by omega)
  have hx1 := asm_len s.data.toList a
  have hx2 := asm_len s.data.toList b
  have hsl : s.data.toList.length ≤ 600 := by have : s.data.toList.length = s.size := by simp
                                              omega
  have hrng := fun (o : Int) (h : (asm s.data.toList o).err = 0) => lbs_range nul o (wof (toks s.data.toList)) []
  have hlab : ∀ o, 0 ≤ o → o < 262144 → ∀ p ∈ (asm s.data.toList o).labs, 0 ≤ p.2 ∧ p.2 ≤ 400000 := fun o h0 h1 p hp => by
    by_cases he : (asm s.data.toList o).err = 0
    · have H := asm_ok he
      rw [H.eq] at hp
      have h2 := lbs_range nul o _ _ p hp
      have h3 := H.len
      omega
    · rw [(asm_bad he).2] at hp
      cases hp
  have hlx := hlab a (by omega) (by omega)
  have hly := hlab b (by omega) (by omega)
  obtain ⟨x, hx⟩ : ∃ x, asm s.data.toList a = x := ⟨_, rfl⟩
  obtain ⟨y, hy⟩ : ∃ y, asm s.data.toList b = y := ⟨_, rfl⟩
  rw [hx] at c1 hor hx1 hlx
  rw [hy] at c2 hor hx2 hly
  clear hx hy hlab hrng
  obtain ⟨xt, xl, xn, xe⟩ := x
  obtain ⟨yt, yl, yn, ye⟩ := y
  obtain ⟨o1, o2, o3, o4⟩ := hor
  dsimp only at c1 c2 o1 o2 o3 o4 hx1 hx2 hlx hly
  subst o1 o2
  obtain ⟨SX, hSX⟩ : ∃ S : ByteArray, ⟨xt.toArray⟩ = S := ⟨_, rfl⟩
  obtain ⟨SY, hSY⟩ : ∃ S : ByteArray, ⟨yt.toArray⟩ = S := ⟨_, rfl⟩
  rw [hSX] at c1
  rw [hSY] at c2
  have hXl : SX.data.toList = xt := by rw [← hSX]
  have hYl : SY.data.toList = yt := by rw [← hSY]
  have hXn : SX.size = xt.length := by rw [← hSX, str_size]
  have hYn : SY.size = yt.length := by rw [← hSY, str_size]
  have htl := dl_len o3
  have hll : xl.length = yl.length := by have := congrArg List.length o4; simpa using this
  have hbyte := Lib.hid (fun (k : Nat) (h1 : k < SX.size) (h2 : k < SY.size) => dl_byte o3 hXl hYl h1 h2)
  have hsz : SY.size = SX.size := by omega
  obtain ⟨n, hn⟩ : ∃ n, yl.length = n := ⟨_, rfl⟩
  rw [hll, hn] at c1
  rw [hn] at c2
  have hn6 : n ≤ 600 := by omega
  have hz4 : (SX.size : Int) ≤ 40000 := by omega
  have hlabs := Lib.hid (fun (k : Nat) (T U : List UInt8) (p q : Int) (h1 : xl[k]? = some (T, p)) (h2 : yl[k]? = some (U, q)) => show T = U ∧ p - a = q - b ∧ (0 ≤ p ∧ p ≤ 400000) ∧ (0 ≤ q ∧ q ≤ 400000) by
    have e := congrArg (fun l => l[k]?) o4
    simp only [List.getElem?_map, h1, h2, Option.map_some] at e
    injection e with e
    injection e with e1 e2
    exact ⟨e1, e2, hlx _ (List.mem_of_getElem? h1), hly _ (List.mem_of_getElem? h2)⟩)
  have c1 := Lib.hid (c1 w hL.out)
  have c2 := Lib.hid c2
  have a0 : 0 ≤ a := by omega
  have a1 : a < 262144 := by omega
  have b0 : 0 ≤ b := by omega
  have b1 : b < 262144 := by omega
  have t1 : ((xn : Int) != (xn : Int)) = false := by simp
  have t2 : ((xe : Int) != (xe : Int)) = false := by simp
  have t3 : ((SX.size : Int) != (SY.size : Int)) = false := by rw [hsz]; simp
  have t4 : ((n : Int) != (n : Int)) = false := by simp
  replace hsz := Lib.hid hsz
  clear o3 o4 hx1 hx2 hsl hlx hly hSX hSY hXl hYl hXn hYn htl hll hn
  go_enter Tryd.func6, Tryd.ntmps6
  go_wp2_with fail
  refine (c1.out).mono ?_
  rintro e w1 ⟨A1, p1, rfl, hI1, hb1⟩
  have c2 := Lib.hid (c2.out w1 (hL.out.below hb1))
  have hI1 := Lib.hid hI1
  have hb1 := Lib.hid hb1
  go_wp2_with fail
  refine (c2.out).mono ?_
  rintro e w2 ⟨A2, p2, rfl, hI2, hb2⟩
  have hJ1 := hI1.out.below hb2
  have hg1 := Lib.hid (fun (k : Nat) (hk : k < n) => hJ1.at hk)
  have hg2 := Lib.hid (fun (k : Nat) (hk : k < n) => hI2.at hk)
  have hc1 := hJ1.le
  have hc2 := hI2.le
  have hb12 := Lib.hid (chain hb1.out hb2)
  clear hI1 hI2 hb2 hJ1 hb1
  go_wp2
  go_loopw [78] (fun iv wr => ∃ (k : Nat), iv = .int .i64 (k : Int) ∧ k ≤ n ∧ Hid (∃ q, wr = w2.drewN q)) (fun iv _ => n - (intOf iv).toNat)
  case atStart => exact ⟨0, rfl, Nat.zero_le _, Lib.hid ⟨0, rfl⟩⟩
  case round =>
    obtain ⟨k, rfl, hk, hw⟩ := hrel
    by_cases hlt : k < n
    · have dk : decide ((k : Int) < (n : Int)) = true := decide_eq_true (by omega)
      have k0 : (0 : Int) ≤ (k : Int) := by omega
      have k1 : (k : Int) < (n : Int) := by omega
      have k2 : (k : Int) ≤ 1000000 := by omega
      obtain ⟨T, p, b1', o1, hT, rfl, _, g1, g2⟩ := hg1.out k hlt
      obtain ⟨U, q, b2', o2, hU, rfl, _, g3, g4⟩ := hg2.out k hlt
      obtain ⟨rfl, hpq, ⟨p0, p1'⟩, q0, q1⟩ := hlabs.out k T U p q hT hU
      unfold strV at g1 g3
      obtain ⟨S, hS⟩ : ∃ S : ByteArray, ⟨T.toArray⟩ = S := ⟨_, rfl⟩
      rw [hS] at g1 g3
      have g1 : wr.cell? ⟨b1', o1 + k * 2, none⟩ = some (.string S) := by obtain ⟨q, e⟩ := hw.out; rw [e]; exact g1
      have g2 : wr.cell? ⟨b1', o1 + k * 2 + 1, none⟩ = some (.int .i64 p) := by obtain ⟨q, e⟩ := hw.out; rw [e]; exact g2
      have g3 : wr.cell? ⟨b2', o2 + k * 2, none⟩ = some (.string S) := by obtain ⟨q, e⟩ := hw.out; rw [e]; exact g3
      have g4 : wr.cell? ⟨b2', o2 + k * 2 + 1, none⟩ = some (.int .i64 q) := by obtain ⟨q, e⟩ := hw.out; rw [e]; exact g4
      have s1 : (S.toList != S.toList) = false := by simp
      have s2 : (S.toList == S.toList) = true := by simp
      obtain ⟨D, hD⟩ : ∃ D, p - q = D := ⟨_, rfl⟩
      have hD2 : a - b = D := by omega
      have eD : IntKind.i64.wrap D = D := by rw [IntKind.wrap_i64]; omega
      have sD : (D != D) = false := by simp
      clear hpq hS hT hU hg1 hg2 hlabs hbyte
      go_wp2
      go_quiet (fail)
      go_wp2
      rename_i nq _
      go_roundw
      case rel => exact ⟨k + 1, by go_num, by omega, Lib.hid (by obtain ⟨q, e⟩ := hw.out; exact ⟨q + nq, by rw [e, World.drewN_drewN]⟩)⟩
      case measure => simp [intOf]; omega
    · obtain rfl : k = n := by omega
      have dk : decide ((k : Int) < (k : Int)) = false := decide_eq_false (by omega)
      clear hg1 hg2 hlabs
      go_wp2
      go_loopw [112] (fun iv wi => ∃ (j : Nat), iv = .int .i64 (j : Int) ∧ j ≤ SX.size ∧ Hid (∃ q, wi = w2.drewN q)) (fun iv _ => SX.size - (intOf iv).toNat)
      case atStart => exact ⟨0, rfl, Nat.zero_le _, hw⟩
      case round =>
        clear hw
        obtain ⟨j, rfl, hj, hw⟩ := hrel
        by_cases hjt : j < SX.size
        · have dj : decide ((j : Int) < (SX.size : Int)) = true := decide_eq_true (by omega)
          have dj2 : decide (j < SX.size) = true := decide_eq_true hjt
          have j0 : (0 : Int) ≤ (j : Int) := by omega
          have j1 : (j : Int) < (SX.size : Int) := by omega
          have j2 : (j : Int) ≤ 1000000 := by omega
          have hjt2 : j < SY.size := by rw [hsz.out]; exact hjt
          have j3 : (j : Int) < (SY.size : Int) := by omega
          have hbt := hbyte.out j hjt hjt2
          rw [isDg_iff, isDg_iff] at hbt
          have hne : ((SX[j].toNat : Int) != (SY[j].toNat : Int)) = !(decide (SX[j] = SY[j])) := by
            rw [bne, Bool.not_eq_eq_eq_not, Bool.not_not, Bool.eq_iff_iff, beq_iff_eq, decide_eq_true_eq]
            constructor
            · intro h; exact UInt8.toNat_inj.1 (by omega)
            · intro h; rw [h]
          obtain ⟨c, hc⟩ : ∃ c, SX[j] = c := ⟨_, rfl⟩
          obtain ⟨d, hd⟩ : ∃ d, SY[j] = d := ⟨_, rfl⟩
          rw [hc, hd] at hbt hne
          by_cases hcd : c = d
          · rw [decide_eq_true hcd] at hne
            subst hcd
            obtain ⟨m, hm⟩ : ∃ m, c.toNat = m := ⟨_, rfl⟩
            rw [hm] at hne
            have hne : ((m : Int) != (m : Int)) = false := hne
            by_cases m1 : 48 ≤ m
            · have u1 : decide ((48 : Int) ≤ (m : Int)) = true := decide_eq_true (by omega)
              by_cases m2 : m ≤ 57
              · have u2 : decide ((m : Int) ≤ 57) = true := decide_eq_true (by omega)
                clear hbt m1 m2 hbyte
                go_wp2
                go_quiet (fail)
                go_wp2
                rename_i nq _
                go_roundw
                case rel => exact ⟨j + 1, by go_num, by omega, Lib.hid (by obtain ⟨q, e⟩ := hw.out; exact ⟨q + nq, by rw [e, World.drewN_drewN]⟩)⟩
                case measure => simp [intOf]; omega
              · have u2 : decide ((m : Int) ≤ 57) = false := decide_eq_false (by omega)
                clear hbt m1 m2 hbyte
                go_wp2
                go_quiet (fail)
                go_wp2
                rename_i nq _
                go_roundw
                case rel => exact ⟨j + 1, by go_num, by omega, Lib.hid (by obtain ⟨q, e⟩ := hw.out; exact ⟨q + nq, by rw [e, World.drewN_drewN]⟩)⟩
                case measure => simp [intOf]; omega
            · have u1 : decide ((48 : Int) ≤ (m : Int)) = false := decide_eq_false (by omega)
              clear hbt m1 hbyte
              go_wp2
              go_quiet (fail)
              go_wp2
              rename_i nq _
              go_roundw
              case rel => exact ⟨j + 1, by go_num, by omega, Lib.hid (by obtain ⟨q, e⟩ := hw.out; exact ⟨q + nq, by rw [e, World.drewN_drewN]⟩)⟩
              case measure => simp [intOf]; omega
          · rw [decide_eq_false hcd] at hne
            obtain ⟨⟨m1, m2⟩, m3, m4⟩ := hbt.resolve_left hcd
            obtain ⟨m, hm⟩ : ∃ m, c.toNat = m := ⟨_, rfl⟩
            obtain ⟨l, hl⟩ : ∃ m, d.toNat = m := ⟨_, rfl⟩
            rw [hm, hl] at hne
            rw [hm] at m1 m2
            rw [hl] at m3 m4
            have hne : ((m : Int) != (l : Int)) = true := hne
            have u1 : decide ((48 : Int) ≤ (m : Int)) = true := decide_eq_true (by omega)
            have u2 : decide ((m : Int) ≤ 57) = true := decide_eq_true (by omega)
            have u3 : decide ((48 : Int) ≤ (l : Int)) = true := decide_eq_true (by omega)
            have u4 : decide ((l : Int) ≤ 57) = true := decide_eq_true (by omega)
            clear hbt m1 m2 m3 m4 hbyte hcd
            go_wp2
            go_quiet (fail)
            go_wp2
            rename_i nq _
            go_roundw
            case rel => exact ⟨j + 1, by go_num, by omega, Lib.hid (by obtain ⟨q, e⟩ := hw.out; exact ⟨q + nq, by rw [e, World.drewN_drewN]⟩)⟩
            case measure => simp [intOf]; omega
        · obtain rfl : j = SX.size := by omega
          have dj : decide ((SX.size : Int) < (SX.size : Int)) = false := decide_eq_false (by omega)
          have hbw : Below w.heap.size w wr := by obtain ⟨q, e⟩ := hw.out; rw [e]; exact chainN hb12.out q
          have cW4 := Lib.hid (cW.out wr (hL.out.below hbw))
          have hbw := Lib.hid hbw
          clear hbyte
          go_wp2_with fail
          refine (cW4.out).mono ?_
          rintro e w5 ⟨rfl, hb5⟩
          go_wp2
          first | go_ret | skip
          exact ⟨rfl, chain hbw.out hb5⟩
theorem row_origin (s : ByteArray) (a b : Int) (w : World) (hL : Laid w) (hs : s.size ≤ 140737488351232) (q1 : (Lit.int .i64 a).wf = true) (q2 : (Lit.int .i64 b).wf = true) : Calls Tryd.prog 6 #[.string s, .int .i64 a, .int .i64 b] w fun e w' => e = .returned (.bool true) ∧ Below w.heap.size w w' := walk_origin s a b w hL hs
end Go.Proofs.YthmgocjmfhpafaaDoor.A18
