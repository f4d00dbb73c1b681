/- The walk of the law SyncmarkTolerance, under the package's contracts. -/
import Derived.Test.YtpekdmplphpheaaM12Law2
import Derived.Test.YtpekdmplphpheaaArrB
namespace Go.Proofs.Ytpekdmplphpheaa.M12
open Go.RowKit Mem
set_option linter.unusedVariables false
set_option linter.unusedSimpArgs false

theorem u8_mod8 (x : UInt8) : (x % 8).toNat = x.toNat % 8 := by
  rw [UInt8.toNat_mod]
  rfl
theorem u8_eq (x y : UInt8) : x = y ↔ x.toNat = y.toNat := UInt8.toNat_inj.symm
/-- One round of the law's loop: the cell that is read, and what the row is behind the store. -/
theorem tol_step {z : List UInt8} (hz : z.length = 16) {k G : Nat} (hk : k < 16) {W : World} (h : BAt W G (chg z k)) {r : Nat} (hr : (z[k]'(by omega)).toNat % 8 = r) :
    ∃ m : Nat, (m = 48 ∨ m = 49) ∧ W.cell? ⟨G, k, none⟩ = some (.int .u8 (m : Int)) ∧ W.frozen? ⟨G, k, none⟩ = false ∧
      ((r = 0 ∧ BAt (W.setCell ⟨G, k, none⟩ (.int .u8 63)) G (chg z (k + 1)) ∧ cnt z (k + 1) = cnt z k + 1) ∨
       (r = 1 ∧ BAt (W.setCell ⟨G, k, none⟩ (.int .u8 (97 - (m : Int)))) G (chg z (k + 1)) ∧ cnt z (k + 1) = cnt z k + 1) ∨
       (2 ≤ r ∧ BAt W G (chg z (k + 1)) ∧ cnt z (k + 1) = cnt z k)) := by
  have hl : k < (chg z k).length := by rw [chg_len hz (by omega)]; exact hk
  obtain ⟨h1, h2⟩ := h k hl
  have e : (chg z k)[k]'hl = mk[k]'hk := by
    have := chg_get hz (Nat.le_refl k) hk
    rw [List.getElem?_eq_getElem hl] at this
    exact Option.some.inj this
  rw [e] at h1
  refine ⟨(mk[k]'hk).toNat, ?_, h1, h2, ?_⟩
  · rcases mk_cell hk with e | e <;> rw [e]
    · exact .inl rfl
    · exact .inr rfl
  have hx : ∀ n : UInt8, z[k]'(by omega) % 8 = n ↔ r = n.toNat := fun n => by rw [u8_eq, u8_mod8, hr]
  by_cases r0 : r = 0
  · have e0 : z[k]'(by omega) % 8 = 0 := (hx 0).2 r0
    have hn : nw (z[k]'(by omega)) (mk[k]'hk) = 63 := by unfold nw; rw [if_pos e0]
    refine .inl ⟨r0, ?_, cnt_yes (by omega) (by unfold cg; rw [decide_eq_true e0]; rfl)⟩
    rw [chg_step hz hk, hn]
    exact h.set hl 63
  · have e0 : ¬ z[k]'(by omega) % 8 = 0 := fun e => r0 ((hx 0).1 e)
    by_cases r1 : r = 1
    · have e1 : z[k]'(by omega) % 8 = 1 := (hx 1).2 r1
      have hn : nw (z[k]'(by omega)) (mk[k]'hk) = 97 - mk[k]'hk := by unfold nw; rw [if_neg e0, if_pos e1]
      refine .inr (.inl ⟨r1, ?_, cnt_yes (by omega) (by unfold cg; rw [decide_eq_true e1, Bool.or_true])⟩)
      rw [chg_step hz hk, hn]
      have hv : ((97 - mk[k]'hk).toNat : Int) = 97 - ((mk[k]'hk).toNat : Int) := by rcases mk_cell hk with e | e <;> rw [e] <;> rfl
      rw [← hv]
      exact h.set hl _
    · have e1 : ¬ z[k]'(by omega) % 8 = 1 := fun e => r1 ((hx 1).1 e)
      have hn : nw (z[k]'(by omega)) (mk[k]'hk) = mk[k]'hk := by unfold nw; rw [if_neg e0, if_neg e1]
      refine .inr (.inr ⟨by omega, ?_, cnt_no (by omega) (by unfold cg; rw [decide_eq_false e0, decide_eq_false e1]; rfl)⟩)
      rw [chg_same hz hk hn]
      exact h
/-- What the law asks of the strip. -/
theorem tol_facts {b f X : ByteArray} {z : List UInt8} (hz : z.length = 16) (hX : X = ⟨(chg z 16).toArray⟩) : ∃ (i : Int) (o : Bool), ds (b ++ X ++ f).data.toList (b.size : Int) = cnt z 16 ∧
    fdI (b ++ X ++ f).data.toList (b.size : Int) = i ∧ fdB (b ++ X ++ f).data.toList (b.size : Int) = o ∧
    ((cnt z 16 ≤ 2 ∧ o = true ∧ i = (b.size : Int)) ∨ (2 < cnt z 16 ∧ o = false) ∨ (2 < cnt z 16 ∧ o = true ∧ ¬ i = (b.size : Int))) := by
  have hl := chg_len hz (k := 16) (by omega)
  have hL : (b ++ X ++ f).data.toList = b.data.toList ++ chg z 16 ++ f.data.toList := by rw [app_list, app_list, hX]
  have hd : ds (b ++ X ++ f).data.toList (b.size : Int) = cnt z 16 := by rw [hL, ← size_list b, ds_mid _ _ _ hl, ds_chg hz]
  have hh := fd_here (l := (b ++ X ++ f).data.toList) (a := b.size) (by rw [hL, List.length_append, List.length_append, size_list, hl]; omega)
  rw [hd] at hh
  rcases h : fd (b ++ X ++ f).data.toList (b.size : Int) with _ | p
  · obtain ⟨e1, e2⟩ := fdIB_none h
    rw [h] at hh
    exact ⟨_, _, hd, e1, e2, .inr (.inl ⟨by
      by_cases hn : cnt z 16 ≤ 2
      · cases hh.2 hn
      · omega, rfl⟩)⟩
  · obtain ⟨e1, e2⟩ := fdIB_some h
    rw [h] at hh
    refine ⟨_, _, hd, e1, e2, ?_⟩
    by_cases hn : cnt z 16 ≤ 2
    · have := Option.some.inj (hh.2 hn)
      exact .inl ⟨hn, rfl, by rw [this]⟩
    · exact .inr (.inr ⟨by omega, rfl, fun e => hn (hh.1 (congrArg some (by omega)))⟩)
set_option maxRecDepth 100000 in
set_option maxHeartbeats 4000000 in
theorem walk_tolerance (D : Dev) (b f : ByteArray) (z : List UInt8) (w : World) (hb0 : b.size ≤ 140737488351232) (hf0 : f.size ≤ 140737488351232) (hz : z.length = 16) :
    Calls Try.prog 6 #[.string b, .string f, bav z] w fun e w' => e = .returned (.bool true) ∧ Below w.heap.size w w' := by
  have cA := Lib.hid (fun W => alive_any D W)
  obtain ⟨Z, hZ⟩ : ∃ Z, (bys z).toArray = Z := ⟨_, rfl⟩
  unfold bav
  rw [hZ]
  by_cases h1 : b.size ≤ 500
  · have d1 : decide ((500 : Int) < (b.size : Int)) = false := decide_eq_false (by omega)
    have d1' : decide (500 < b.size) = false := decide_eq_false (by omega)
    by_cases h2 : f.size ≤ 500
    · have d2 : decide ((500 : Int) < (f.size : Int)) = false := decide_eq_false (by omega)
      have d2' : decide (500 < f.size) = false := decide_eq_false (by omega)
      have cM := Lib.hid (fun W => D.mark W)
      go_enter Try.func6, Try.ntmps6
      go_wp2_with fail
      refine (cA.out _).mono ?_
      rintro e w1 ⟨rfl, hB⟩
      go_wp2_with fail
      refine (cM.out _).mono ?_
      rintro e w2 ⟨rfl, rfl⟩
      have hb0 : Below w.heap.size w (w.alloc (.cells Z 29)) := (Below.refl w.heap.size w).alloc (by simp) _
      have hz0 : BAt (w.alloc (.cells Z 29)) w.heap.size z := by rw [← hZ]; exact at_of_alloc w _ z
      have hs0 : w.heap.size < (w.alloc (.cells Z 29)).heap.size := by simp
      obtain ⟨B, hBs⟩ : ∃ B, w.heap.size = B := ⟨_, rfl⟩
      obtain ⟨W0, hW0⟩ : ∃ W, w.alloc (.cells Z 29) = W := ⟨_, rfl⟩
      rw [hBs, hW0] at hz0 hs0
      rw [hW0] at hB hb0
      have hBw := chain hb0 hB
      have hz1 := hz0.below hB hs0
      have hs1 : B < w1.heap.size := Nat.lt_of_lt_of_le hs0 hB.size
      obtain ⟨C1, cap1, hcap1, hcv1, hat1⟩ := bytes_of (P := Try.prog) w1 (src := 9) (dst := 30) (e := 5) mkB Try.underlying9 Try.underlying30 Try.underlying5
      obtain ⟨G, hG⟩ : ∃ G, w1.heap.size = G := ⟨_, rfl⟩
      obtain ⟨W3, hW3⟩ : ∃ W, w1.drew.alloc (.cells C1 5 (cap1, cap1 + 1)) = W := ⟨_, rfl⟩
      have hb3 : Below w1.heap.size w1 W3 := by rw [← hW3]; exact ((Below.refl w1.heap.size w1).drew).alloc (by simp) _
      have hA3 : BAt W3 G (chg z 0) := by rw [← hW3, ← hG]; exact hat1
      have hs3 : G < W3.heap.size := by rw [← hW3, ← hG]; simp
      rw [hW3, hG, show mkB.size = 16 from rfl] at hcv1
      rw [hG] at hs1
      rw [hG] at hb3
      have hBG : Hid (Below w.heap.size w w1 ∧ w1.heap.size = G) := Lib.hid ⟨hBw, hG⟩
      have hz1 := Lib.hid hz1
      have hA3 := Lib.hid hA3
      have hs3 := Lib.hid hs3
      have hzh := Lib.hid hz
      have hBh := Lib.hid hBs
      clear hat1 hW3 hG hcap1 hz0 hs0 hW0 hBs hB hBw hb0 hZ hz cM h1 h2
      go_wp2
      clear hcv1
      go_loopw [8, 9] (fun u iv wr => ∃ k : Nat, k ≤ 16 ∧ iv = .int .i64 (k : Int) ∧ u = .int .i64 (cnt z k : Int) ∧ Hid (BAt wr G (chg z k)) ∧ Hid (G < wr.heap.size) ∧ Below G w1 wr) (fun _ iv _ => 16 - (intOf iv).toNat)
      case atStart => exact ⟨0, Nat.zero_le _, rfl, rfl, hA3, hs3, hb3⟩
      case round =>
        clear hA3 hs3 hb3
        obtain ⟨k, hk, rfl, rfl, hg, hsz, hb⟩ := hrel
        have hcl := cnt_le z k
        by_cases hlt : k < 16
        · have hkz : k < z.length := by rw [hzh.out]; exact hlt
          obtain ⟨q1, q2⟩ := (hz1.out.below hb hs1) k hkz
          have hx := (z[k]'hkz).toNat_lt
          obtain ⟨r, hr⟩ : ∃ r, (z[k]'hkz).toNat % 8 = r := ⟨_, rfl⟩
          obtain ⟨m, hm, g1, g2, hst⟩ := tol_step hzh.out hlt hg.out hr
          obtain ⟨x, hxx⟩ : ∃ x, (z[k]'hkz).toNat = x := ⟨_, rfl⟩
          rw [hxx] at hx hr q1
          rw [← hBh.out] at q1 q2
          have e1 : (x : Int).tmod 8 = (r : Int) := by rw [Int.tmod_eq_emod_of_nonneg (by omega)]; omega
          have e2 : (x : Int) % 8 = (r : Int) := by omega
          have x1 : (x : Int) ≤ 255 := by omega
          have x0 : (0 : Int) ≤ (x : Int) := by omega
          have k0 : (0 : Int) ≤ (k : Int) := by omega
          have k1 : (k : Int) < 16 := by omega
          clear hr hxx hkz hx
          rcases hst with ⟨rfl, hA, hc⟩ | ⟨rfl, hA, hc⟩ | ⟨h2r, hA, hc⟩
          · have hA := Lib.hid hA
            have hc := Lib.hid hc
            have hs2 : Hid (G < (wr.setCell ⟨G, k, none⟩ (.int .u8 63)).heap.size) := Lib.hid (by simpa using hsz.out)
            have hb2 := hb.setCell (p := ⟨G, k, none⟩) (Nat.le_refl G) (.int .u8 63)
            clear hg hsz hb hz1 hm
            go_wp2
            go_roundw
            case rel => exact ⟨k + 1, by omega, by go_num, by rw [hc.out]; go_num, hA, hs2, hb2⟩
            case measure => simp [intOf]; omega
          · have hs2 : ∀ v, Hid (G < (wr.setCell ⟨G, k, none⟩ (.int .u8 v)).heap.size) := fun v => Lib.hid (by simpa using hsz.out)
            have hb2 := fun v => hb.setCell (p := ⟨G, k, none⟩) (Nat.le_refl G) (.int .u8 v)
            replace hs2 := Lib.hid hs2
            replace hb2 := Lib.hid hb2
            have hc := Lib.hid hc
            clear hg hsz hb hz1
            rcases hm with rfl | rfl
            · replace hA := Lib.hid (show BAt (wr.setCell ⟨G, k, none⟩ (.int .u8 49)) G (chg z (k + 1)) from hA)
              replace g1 : wr.cell? ⟨G, k, none⟩ = some (.int .u8 48) := g1
              go_wp2
              go_roundw
              case rel => exact ⟨k + 1, by omega, by go_num, by rw [hc.out]; go_num, hA, hs2.out _, hb2.out _⟩
              case measure => simp [intOf]; omega
            · replace hA := Lib.hid (show BAt (wr.setCell ⟨G, k, none⟩ (.int .u8 48)) G (chg z (k + 1)) from hA)
              replace g1 : wr.cell? ⟨G, k, none⟩ = some (.int .u8 49) := g1
              go_wp2
              go_roundw
              case rel => exact ⟨k + 1, by omega, by go_num, by rw [hc.out]; go_num, hA, hs2.out _, hb2.out _⟩
              case measure => simp [intOf]; omega
          · have hA := Lib.hid hA
            have hc := Lib.hid hc
            have t0 : ((r : Int) == 0) = false := by rw [beq_eq_false_iff_ne]; omega
            have t1 : ((r : Int) == 1) = false := by rw [beq_eq_false_iff_ne]; omega
            clear hg hz1 hm h2r
            go_wp2
            go_roundw
            case rel => exact ⟨k + 1, by omega, by go_num, by rw [hc.out], hA, hsz, hb⟩
            case measure => simp [intOf]; omega
        · obtain rfl : k = 16 := by omega
          have hcv := hg.out.conv (P := Try.prog) (cap := cap1) (n := 16) (chg_len hzh.out (Nat.le_refl 16)) Try.underlying30 Try.underlying5 Try.underlying9
          obtain ⟨X, hX⟩ : ∃ X : ByteArray, X = ⟨(chg z 16).toArray⟩ := ⟨_, rfl⟩
          have hXs : X.size = 16 := by rw [hX, str_size, chg_len hzh.out (Nat.le_refl 16)]
          rw [← hX] at hcv
          obtain ⟨i, o, e1, e2, e3, hf⟩ := tol_facts (b := b) (f := f) hzh.out hX
          obtain ⟨N, hN⟩ : ∃ N, cnt z 16 = N := ⟨_, rfl⟩
          rw [hN] at e1 hf hcl ⊢
          have hs1' : (b ++ X).size = b.size + X.size := ByteArray.size_append
          have hs2' : (b ++ X ++ f).size = (b ++ X).size + f.size := ByteArray.size_append
          have p1 : (b.size : Int) ≤ 500 := by have := of_decide_eq_false d1; omega
          have p2 : (f.size : Int) ≤ 500 := by have := of_decide_eq_false d2; omega
          have p3 : (X.size : Int) ≤ 16 := by omega
          have p4 : ((b ++ X).size : Int) ≤ 600 := by omega
          have c1 := Lib.hid (fun W => D.find_as (c := b ++ X ++ f) (by omega) (by omega) (by omega) e2 e3 W)
          have c2 := Lib.hid (fun W => D.dist_as (c := b ++ X ++ f) (by omega) (by omega) (by omega) e1 W)
          have hBk := chain hBG.out.1 (show Below w1.heap.size w1 wr by rw [hBG.out.2]; exact hb)
          clear hX e1 e2 e3 hN hg hb hsz hz1 hXs hs1' hs2' hf0
          rcases hf with ⟨g1, rfl, rfl⟩ | ⟨g1, rfl⟩ | ⟨g1, rfl, g2⟩
          · have t1 : decide ((N : Int) ≤ 2) = true := decide_eq_true (by omega)
            clear g1
            go_wp2_with fail
            refine (c1.out _).mono ?_
            rintro e w5 ⟨rfl, hb⟩
            replace hBk := chain hBk hb
            clear hb
            go_wp2_with (go_at_call 11; refine (c2.out _).mono ?_; rintro e w6 ⟨rfl, n, rfl⟩)
            go_ret
            exact ⟨rfl, chainN hBk n⟩
          · have t1 : decide ((N : Int) ≤ 2) = false := decide_eq_false (by omega)
            clear g1
            go_wp2_with fail
            refine (c1.out _).mono ?_
            rintro e w5 ⟨rfl, hb⟩
            replace hBk := chain hBk hb
            clear hb
            go_wp2_with (go_at_call 11; refine (c2.out _).mono ?_; rintro e w6 ⟨rfl, n, rfl⟩)
            go_ret
            exact ⟨rfl, chainN hBk n⟩
          · have t1 : decide ((N : Int) ≤ 2) = false := decide_eq_false (by omega)
            have t2 : (i == (b.size : Int)) = false := beq_eq_false_iff_ne.2 g2
            clear g1 g2
            go_wp2_with fail
            refine (c1.out _).mono ?_
            rintro e w5 ⟨rfl, hb⟩
            replace hBk := chain hBk hb
            clear hb
            go_wp2_with (go_at_call 11; refine (c2.out _).mono ?_; rintro e w6 ⟨rfl, n, rfl⟩)
            go_ret
            exact ⟨rfl, chainN hBk n⟩
    · have d2 : decide ((500 : Int) < (f.size : Int)) = true := decide_eq_true (by omega)
      have d2' : decide (500 < f.size) = true := decide_eq_true (by omega)
      clear h1 h2 hb0 hf0
      go_enter Try.func6, Try.ntmps6
      go_wp2_with fail
      refine (cA.out _).mono ?_
      rintro e w1 ⟨rfl, hB⟩
      go_wp2
      go_ret
      exact ⟨rfl, chain ((Below.refl w.heap.size w).alloc (by simp) _) hB⟩
  · have d1 : decide ((500 : Int) < (b.size : Int)) = true := decide_eq_true (by omega)
    have d1' : decide (500 < b.size) = true := decide_eq_true (by omega)
    clear h1 hb0 hf0
    go_enter Try.func6, Try.ntmps6
    go_wp2_with fail
    refine (cA.out _).mono ?_
    rintro e w1 ⟨rfl, hB⟩
    go_wp2
    go_ret
    exact ⟨rfl, chain ((Below.refl w.heap.size w).alloc (by simp) _) hB⟩
end Go.Proofs.Ytpekdmplphpheaa.M12
