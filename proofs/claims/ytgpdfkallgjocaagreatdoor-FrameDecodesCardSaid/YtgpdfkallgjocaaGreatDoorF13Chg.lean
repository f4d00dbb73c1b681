/- The contract of the helper 'changed' of layer 13's law Decodes: whatever is changed, at most 836 bytes are handed back. -/
import Derived.Test.YtgpdfkallgjocaaGreatDoorM13AD
import Derived.Test.YtgpdfkallgjocaaGreatDoorM13AA
namespace Go.Proofs.YtgpdfkallgjocaaGreatDoor.F13
set_option maxRecDepth 100000
open Go.RowKit Mem
set_option linter.unusedVariables false
set_option linter.unusedSimpArgs false

theorem bat_take {W : World} {G : Nat} {X : List UInt8} (h : BAt W G X) (m : Nat) : BAt W G (X.take m) := fun j hj => by
  have hj' : j < X.length := by rw [List.length_take] at hj; omega
  rw [List.getElem_take]
  exact h j hj'
set_option maxHeartbeats 8000000 in
theorem changed_any (S : ByteArray) (A1 A2 : Option Addr) (n1 c1 n2 c2 kp : Nat) (z1 z2 : List Nat) (w : World) (hs : S.size = 852) (hk : kp ≤ 65535) (h1 : IsHw w A1 n1 c1 z1) (h2 : IsBy w A2 n2 c2 z2) (hn : n1 ≤ 300) :
    Calls Tryz.prog 22 #[.string S, .agg #[.slice A1 n1 c1, .slice A2 n2 c2, .int .u16 (kp : Int)]] w fun e w' => (∃ d : ByteArray, d.size ≤ 836 ∧ e = .returned (.string d)) ∧ Below w.heap.size w w' := by
  have hb0 : Below w.heap.size w (w.alloc (.cells #[.slice A1 n1 c1, .slice A2 n2 c2, .int .u16 (kp : Int)] 40)) := (Below.refl _ _).alloc (Nat.le_refl _) _
  have hv0 : VAt (w.alloc (.cells #[.slice A1 n1 c1, .slice A2 n2 c2, .int .u16 (kp : Int)] 40)) w.heap.size [.slice A1 n1 c1, .slice A2 n2 c2, .int .u16 (kp : Int)] := vat_alloc w _ [.slice A1 n1 c1, .slice A2 n2 c2, .int .u16 (kp : Int)]
  have hs0 : w.heap.size < (w.alloc (.cells #[.slice A1 n1 c1, .slice A2 n2 c2, .int .u16 (kp : Int)] 40)).heap.size := by simp
  obtain ⟨w1, hw1⟩ : ∃ W, w.alloc (.cells #[.slice A1 n1 c1, .slice A2 n2 c2, .int .u16 (kp : Int)] 40) = W := ⟨_, rfl⟩
  rw [hw1] at hb0 hv0 hs0
  have hes : (S.extract 16 S.size).size = 836 := by rw [ByteArray.size_extract]; omega
  obtain ⟨L, hL⟩ : ∃ L, S.extract 16 S.size = L := ⟨_, rfl⟩
  rw [hL] at hes
  have i1 : (16 : Int) ≤ (S.size : Int) := by omega
  have i2 : (S.size : Int) = 852 := by omega
  have hL2 : S.extract 16 852 = L := by rw [← hL, hs]
  obtain ⟨C1, cap1, hcap1, hcv1, hat1⟩ := bytes_of (P := Tryz.prog) w1 (src := 9) (dst := 37) (e := 5) L Tryz.underlying9 Tryz.underlying37 Tryz.underlying5
  obtain ⟨G, hG⟩ : ∃ G, w1.heap.size = G := ⟨_, rfl⟩
  obtain ⟨W6, hW6⟩ : ∃ W, w1.drew.alloc (.cells C1 5 (cap1, cap1 + 1)) = W := ⟨_, rfl⟩
  have hb6 : Below G w1 W6 := by rw [← hW6, ← hG]; exact ((Below.refl w1.heap.size w1).drew).alloc (by simp) _
  have hA6 : BAt W6 G L.data.toList := by rw [← hW6, ← hG]; exact hat1
  have hs6 : G < W6.heap.size := by rw [← hW6, ← hG]; simp
  rw [hW6, hG, hes] at hcv1
  have hcap2 : 836 ≤ cap1 := by omega
  have hLl : L.data.toList.length = 836 := by simpa using hes
  have rule := fun (W : World) (h : Below G w1 W) => cells3 (hv0.below (B := G) h (by rw [← hG]; exact hs0))
  replace rule := Lib.hid rule
  have h1h := Lib.hid h1
  have h2h := Lib.hid h2
  have hA6 := Lib.hid hA6
  have hs6 := Lib.hid hs6
  have hb6 := Lib.hid hb6
  have hGh := Lib.hid hG
  have hb0 := Lib.hid hb0
  have hLl := Lib.hid hLl
  obtain ⟨a0, a1, a2, _, _, _⟩ := rule.out W6 hb6.out
  have p1 : (kp : Int) ≤ 65535 := by omega
  have n1' : (n1 : Int) ≤ 300 := by omega
  clear hW6 hat1 hcap1 hs hes hv0 hs0 h1 h2 hk
  go_enter Tryz.func22, Tryz.ntmps22
  go_wp2
  clear hcv1 hL hL2 i1 i2 a0 a1 a2 hw1
  go_loopw [15] (fun iv wr => ∃ (i : Nat) (X : List UInt8), i ≤ n1 ∧ iv = .int .i64 (i : Int) ∧ Hid (X.length = 836) ∧ Hid (BAt wr G X) ∧ Hid (G < wr.heap.size) ∧ Hid (Below G w1 wr)) (fun iv _ => n1 - (intOf iv).toNat)
  case atStart => exact ⟨0, L.data.toList, Nat.zero_le _, rfl, hLl, hA6, hs6, hb6⟩
  case round =>
    clear hA6 hs6 hb6
    obtain ⟨i, X, hin, rfl, hXl, hAt, hsz, hb⟩ := hrel
    obtain ⟨a0, a1, a2, _, _, _⟩ := rule.out wr hb.out
    have hBw : Hid (Below w.heap.size w wr) := Lib.hid (chain hb0.out (by rw [hGh.out]; exact hb.out))
    by_cases hlt : i < n1
    · obtain ⟨bb, oo, rfl, hbb, hce, hz8⟩ := (h1h.out.below hBw.out).read (k := i) hlt
      obtain ⟨z, hz⟩ : ∃ z, z1.getD i 0 = z := ⟨_, rfl⟩
      rw [hz] at hce hz8
      obtain ⟨K, hK⟩ : ∃ K, z % 836 = K := ⟨_, rfl⟩
      have z0 : (0 : Int) ≤ (z : Int) := by omega
      have z5 : (z : Int) ≤ 65535 := by omega
      have f1 : (z : Int) % 836 = (K : Int) := by omega
      have f2 : (z : Int).tmod 836 = (K : Int) := by rw [Int.tmod_eq_emod_of_nonneg (by omega)]; omega
      have K0 : (0 : Int) ≤ (K : Int) := by omega
      have K1 : (K : Int) < 836 := by omega
      have i0 : (0 : Int) ≤ (i : Int) := by omega
      have i1 : (i : Int) < (n1 : Int) := by omega
      have dk : decide ((i : Int) < (n1 : Int)) = true := decide_eq_true (by omega)
      have hXE : K < X.length := by rw [hXl.out]; omega
      obtain ⟨o1, o2⟩ := hAt.out K hXE
      obtain ⟨x, hx⟩ : ∃ x, X[K] = x := ⟨_, rfl⟩
      rw [hx] at o1
      clear hz hK hbb hx
      by_cases hi2 : i < n2
      · have dn : decide ((i : Int) < (n2 : Int)) = true := decide_eq_true (by omega)
        have j1 : (i : Int) < (n2 : Int) := by omega
        obtain ⟨b2, o2', rfl, hbb2, hce2, hy8⟩ := (h2h.out.below hBw.out).read (k := i) hi2
        obtain ⟨y, hy⟩ : ∃ z, z2.getD i 0 = z := ⟨_, rfl⟩
        rw [hy] at hce2 hy8
        have y0 : (0 : Int) ≤ (y : Int) := by omega
        have y5 : (y : Int) ≤ 255 := by omega
        have hy3 : y % 3 = 0 ∨ y % 3 = 1 ∨ y % 3 = 2 := by omega
        clear hy hbb2 hBw
        rcases hy3 with hy3 | hy3 | hy3
        · have e1 : (y : Int) % 3 = 0 := by omega
          have e2 : (y : Int).tmod 3 = 0 := by rw [Int.tmod_eq_emod_of_nonneg (by omega)]; omega
          clear hy3
          have hset := Lib.hid (hAt.out.set hXE 48)
          have hset : Hid (BAt (wr.setCell ⟨G, K, none⟩ (.int .u8 48)) G (X.set K 48)) := hset
          have hsz2 : Hid (G < (wr.setCell ⟨G, K, none⟩ (.int .u8 48)).heap.size) := Lib.hid (by simpa using hsz.out)
          have hb2 : Hid (Below G w1 (wr.setCell ⟨G, K, none⟩ (.int .u8 48))) := Lib.hid (hb.out.setCell (p := ⟨G, K, none⟩) (Nat.le_refl G) (.int .u8 48))
          have hl2 : Hid ((X.set K 48).length = 836) := Lib.hid (by rw [List.length_set]; exact hXl.out)
          clear hXE hAt hsz hb hXl
          go_wp2
          go_roundw
          case rel => exact ⟨i + 1, X.set K 48, Nat.succ_le_of_lt hlt, by go_num, hl2, hset, hsz2, hb2⟩
          case measure => simp [intOf]; omega
        · have e1 : (y : Int) % 3 = 1 := by omega
          have e2 : (y : Int).tmod 3 = 1 := by rw [Int.tmod_eq_emod_of_nonneg (by omega)]; omega
          clear hy3
          have hset := Lib.hid (hAt.out.set hXE 49)
          have hset : Hid (BAt (wr.setCell ⟨G, K, none⟩ (.int .u8 49)) G (X.set K 49)) := hset
          have hsz2 : Hid (G < (wr.setCell ⟨G, K, none⟩ (.int .u8 49)).heap.size) := Lib.hid (by simpa using hsz.out)
          have hb2 : Hid (Below G w1 (wr.setCell ⟨G, K, none⟩ (.int .u8 49))) := Lib.hid (hb.out.setCell (p := ⟨G, K, none⟩) (Nat.le_refl G) (.int .u8 49))
          have hl2 : Hid ((X.set K 49).length = 836) := Lib.hid (by rw [List.length_set]; exact hXl.out)
          clear hXE hAt hsz hb hXl
          go_wp2
          go_roundw
          case rel => exact ⟨i + 1, X.set K 49, Nat.succ_le_of_lt hlt, by go_num, hl2, hset, hsz2, hb2⟩
          case measure => simp [intOf]; omega
        · have e1 : (y : Int) % 3 = 2 := by omega
          have e2 : (y : Int).tmod 3 = 2 := by rw [Int.tmod_eq_emod_of_nonneg (by omega)]; omega
          clear hy3
          have hset := Lib.hid (hAt.out.set hXE 63)
          have hset : Hid (BAt (wr.setCell ⟨G, K, none⟩ (.int .u8 63)) G (X.set K 63)) := hset
          have hsz2 : Hid (G < (wr.setCell ⟨G, K, none⟩ (.int .u8 63)).heap.size) := Lib.hid (by simpa using hsz.out)
          have hb2 : Hid (Below G w1 (wr.setCell ⟨G, K, none⟩ (.int .u8 63))) := Lib.hid (hb.out.setCell (p := ⟨G, K, none⟩) (Nat.le_refl G) (.int .u8 63))
          have hl2 : Hid ((X.set K 63).length = 836) := Lib.hid (by rw [List.length_set]; exact hXl.out)
          clear hXE hAt hsz hb hXl
          go_wp2
          go_roundw
          case rel => exact ⟨i + 1, X.set K 63, Nat.succ_le_of_lt hlt, by go_num, hl2, hset, hsz2, hb2⟩
          case measure => simp [intOf]; omega
      · have dn : decide ((i : Int) < (n2 : Int)) = false := decide_eq_false (by omega)
        clear hBw
        have hset := Lib.hid (hAt.out.set hXE 63)
        have hset : Hid (BAt (wr.setCell ⟨G, K, none⟩ (.int .u8 63)) G (X.set K 63)) := hset
        have hsz2 : Hid (G < (wr.setCell ⟨G, K, none⟩ (.int .u8 63)).heap.size) := Lib.hid (by simpa using hsz.out)
        have hb2 : Hid (Below G w1 (wr.setCell ⟨G, K, none⟩ (.int .u8 63))) := Lib.hid (hb.out.setCell (p := ⟨G, K, none⟩) (Nat.le_refl G) (.int .u8 63))
        have hl2 : Hid ((X.set K 63).length = 836) := Lib.hid (by rw [List.length_set]; exact hXl.out)
        clear hXE hAt hsz hb hXl
        go_wp2
        go_roundw
        case rel => exact ⟨i + 1, X.set K 63, Nat.succ_le_of_lt hlt, by go_num, hl2, hset, hsz2, hb2⟩
        case measure => simp [intOf]; omega
    · have dk : decide ((i : Int) < (n1 : Int)) = false := decide_eq_false (by omega)
      have hBf := Lib.hid (chain hb0.out (by rw [hGh.out]; exact hb.out))
      by_cases hkp : kp < 836
      · have d8 : decide ((kp : Int) < 836) = true := decide_eq_true (by omega)
        have k0 : (0 : Int) ≤ (kp : Int) := by omega
        have k1 : (kp : Int) < 836 := by omega
        have k2 : (kp : Int) ≤ (cap1 : Int) := by omega
        have hln : (X.take kp).length = kp := by rw [List.length_take, hXl.out]; omega
        have hcv := (bat_take hAt.out kp).conv (P := Tryz.prog) (cap := cap1) (n := kp) hln Tryz.underlying37 Tryz.underlying5 Tryz.underlying9
        have hds : (⟨(X.take kp).toArray⟩ : ByteArray).size ≤ 836 := by show (X.take kp).length ≤ 836; omega
        obtain ⟨V, hV⟩ : ∃ V : ByteArray, ⟨(X.take kp).toArray⟩ = V := ⟨_, rfl⟩
        rw [hV] at hcv hds
        replace hds := Lib.hid hds
        clear hV hln hAt hsz hb hXl hBw
        go_wp2
        go_ret
        exact ⟨⟨V, hds.out, rfl⟩, hBf.out⟩
      · have d8 : decide ((kp : Int) < 836) = false := decide_eq_false (by omega)
        have hcv := hAt.out.conv (P := Tryz.prog) (cap := cap1) (n := 836) hXl.out Tryz.underlying37 Tryz.underlying5 Tryz.underlying9
        have hds : (⟨X.toArray⟩ : ByteArray).size ≤ 836 := by show X.length ≤ 836; rw [hXl.out]; exact Nat.le_refl _
        obtain ⟨V, hV⟩ : ∃ V : ByteArray, ⟨X.toArray⟩ = V := ⟨_, rfl⟩
        rw [hV] at hcv hds
        replace hds := Lib.hid hds
        clear hV hAt hsz hb hXl hBw
        go_wp2
        go_ret
        exact ⟨⟨V, hds.out, rfl⟩, hBf.out⟩
end Go.Proofs.YtgpdfkallgjocaaGreatDoor.F13
