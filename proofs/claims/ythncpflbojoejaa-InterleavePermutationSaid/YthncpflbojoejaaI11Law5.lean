/- The walk of the law InterleaveTrivial, under the package's contracts. -/
import Derived.Test.YthncpflbojoejaaI11Dev
import Derived.Laws.BitsAllLaws
import Derived.BigRegion
namespace Go.Proofs.Ythncpflbojoejaa.I11
open Go.RowKit Mem
set_option linter.unusedVariables false
set_option linter.unusedSimpArgs false

theorem bxr8 (x y : UInt8) : bits .xor .u8 (x.toNat : Int) (y.toNat : Int) = ((x ^^^ y).toNat : Int) := by
  rw [UInt8.toNat_xor]
  exact u8_xor_nat _ _ x.toNat_lt y.toNat_lt
theorem u8_of {a : Int} (h : (Lit.int .u8 a).wf = true) : ∃ x : UInt8, a = (x.toNat : Int) := by
  obtain ⟨h1, h2⟩ : 0 ≤ a ∧ a ≤ 255 := (Lit.wf_int_iff .u8 _).1 h
  refine ⟨UInt8.ofNat a.toNat, ?_⟩
  rw [UInt8.toNat_ofNat']
  omega
/-- The first k bytes replaced. -/
def xr (f : UInt8 → UInt8) (l : List UInt8) (k : Nat) : List UInt8 := (l.map f).take k ++ l.drop k
theorem xr_zero (f : UInt8 → UInt8) (l : List UInt8) : xr f l 0 = l := by simp [xr]
theorem xr_all (f : UInt8 → UInt8) (l : List UInt8) (n : Nat) (h : l.length = n) : xr f l n = l.map f := by
  unfold xr
  rw [List.take_of_length_le (by rw [List.length_map]; omega), List.drop_of_length_le (by omega), List.append_nil]
theorem xr_len (f : UInt8 → UInt8) (l : List UInt8) (k : Nat) : (xr f l k).length = l.length := by
  unfold xr
  rw [List.length_append, List.length_take, List.length_drop, List.length_map]
  omega
theorem xr_at (f : UInt8 → UInt8) (l : List UInt8) {k : Nat} (h : k < l.length) : (xr f l k)[k]'(by rw [xr_len]; exact h) = l[k] := by
  unfold xr
  rw [List.getElem_append_right (by rw [List.length_take]; omega)]
  rw [List.getElem_drop]
  congr 1
  rw [List.length_take, List.length_map]
  omega
theorem xr_step (f : UInt8 → UInt8) (l : List UInt8) {k : Nat} (h : k < l.length) : (xr f l k).set k (f l[k]) = xr f l (k + 1) := by
  have hx : k < (l.map f).length := by rw [List.length_map]; exact h
  unfold xr
  rw [List.drop_eq_getElem_cons h, List.set_append_right _ _ (by rw [List.length_take]; omega), List.length_take, Nat.min_eq_left (by omega), Nat.sub_self, List.set_cons_zero, List.take_succ_eq_append_getElem hx, List.append_assoc, List.getElem_map]
  rfl
/-- One byte of a row that is being replaced: what it reads, and the row behind the store. -/
theorem xr_cell {W : World} {g n k : Nat} {f : UInt8 → UInt8} {l : List UInt8} (h : BAt W g (xr f l k)) (hl : l.length = n) (hk : k < n) :
    ∃ X : UInt8, W.cell? ⟨g, k, none⟩ = some (.int .u8 (X.toNat : Int)) ∧ W.frozen? ⟨g, k, none⟩ = false ∧ ∀ W', BAt W' g (xr f l k) → BAt (W'.setCell ⟨g, k, none⟩ (.int .u8 ((f X).toNat : Int))) g (xr f l (k + 1)) := by
  have hk' : k < l.length := by omega
  have hx : k < (xr f l k).length := by rw [xr_len]; exact hk'
  have hc := h k hx
  rw [xr_at f l hk'] at hc
  refine ⟨l[k], hc.1, hc.2, fun W' h' => ?_⟩
  have := h'.set hx (f l[k])
  rwa [xr_step f l hk'] at this
theorem iS_map (c : ByteArray) {r : Nat} (hr : 1 ≤ r) (f : UInt8 → UInt8) : iS ⟨(c.data.toList.map f).toArray⟩ (r : Int) = ⟨((iS c (r : Int)).data.toList.map f).toArray⟩ := by
  rw [iS_at hr, iS_at hr]
  show (⟨(il r (c.data.toList.map f)).toArray⟩ : ByteArray) = ⟨((il r c.data.toList).map f).toArray⟩
  rw [il_map hr]
theorem iS_one (c : ByteArray) : iS c 1 = c := by
  have : iS c ((1 : Nat) : Int) = c := by
    rw [iS_at (by decide)]
    refine str_eq ?_
    show il 1 c.data.toList = _
    rw [il_one]
  exact this
theorem iS_great (c : ByteArray) {r : Nat} (hr : 1 ≤ r) (h : c.size ≤ r) : iS c (r : Int) = c := by
  rw [iS_at hr]
  refine str_eq ?_
  show il r c.data.toList = _
  rw [il_great hr _ (by rw [size_list]; exact h)]
set_option maxRecDepth 100000 in
set_option maxHeartbeats 8000000 in
theorem walk_trivial (D : Dev) (c : ByteArray) (r b : Int) (w : World) (hc : c.size ≤ 140737488351232) (wr : (Lit.int .i64 r).wf = true) (wb : (Lit.int .u8 b).wf = true) :
    Calls Try.prog 9 #[.string c, .int .i64 r, .int .u8 b] w fun e w' => e = .returned (.bool true) ∧ Below w.heap.size w w' := by
  have cA := Lib.hid (fun W => awake_any D W)
  obtain ⟨r1, r2⟩ : -9223372036854775808 ≤ r ∧ r ≤ 9223372036854775807 := (Lit.wf_int_iff .i64 _).1 wr
  obtain ⟨y, rfl⟩ := u8_of wb
  clear wr wb
  by_cases h1 : c.size ≤ 300
  · have d1 : decide (300 < c.size) = false := decide_eq_false (by omega)
    have d1' : decide ((300 : Int) < (c.size : Int)) = false := decide_eq_false (by omega)
    by_cases h2 : r < 1
    · have d2 : decide (r < 1) = true := decide_eq_true h2
      clear h1 h2 hc r1 r2
      go_enter Try.func9, Try.ntmps9
      go_wp2_with fail
      refine (cA.out _).mono ?_
      rintro e w1 ⟨rfl, hB⟩
      go_wp2
      go_ret
      exact ⟨rfl, hB⟩
    · have d2 : decide (r < 1) = false := decide_eq_false h2
      obtain ⟨R, rfl⟩ : ∃ I : Nat, r = I := ⟨r.toNat, by omega⟩
      have hR : 1 ≤ R := by omega
      have sB := iS_size c hR
      have hgreat := fun h => iS_great c hR h
      have hmap := iS_map c hR (fun x => x ^^^ y)
      obtain ⟨B, hB0⟩ : ∃ A, iS c (R : Int) = A := ⟨_, rfl⟩
      rw [hB0] at sB hgreat hmap
      obtain ⟨X, hX⟩ : ∃ X : ByteArray, ⟨(c.data.toList.map (fun x => x ^^^ y)).toArray⟩ = X := ⟨_, rfl⟩
      obtain ⟨Y, hY⟩ : ∃ X : ByteArray, ⟨(B.data.toList.map (fun x => x ^^^ y)).toArray⟩ = X := ⟨_, rfl⟩
      have sX : X.size = c.size := by
        rw [← hX]
        show (c.data.toList.map (fun x => x ^^^ y)).length = _
        rw [List.length_map, size_list]
      rw [hX, hY] at hmap
      have c1 := Lib.hid (fun W => D.inter_as (c := c) (r := 1) (by omega) (by decide) (by decide) (iS_one c) (p_ok (r := 1) (Nat.le_refl 1)) W)
      have c2 := Lib.hid (fun W => D.inter_as (by omega) r1 r2 hB0 (p_ok hR) W)
      have c3 := Lib.hid (fun W => D.inter_as (by omega) r1 r2 hmap (p_ok hR) W)
      obtain ⟨n, hn⟩ : ∃ n, c.size = n := ⟨_, rfl⟩
      have hn3 : n ≤ 300 := by omega
      have sBn : B.size = n := by rw [sB, hn]
      have lc : c.data.toList.length = n := by rw [size_list, hn]
      have lb : B.data.toList.length = n := by rw [size_list, sBn]
      have hbeq := fun h => str_beq_yes (hgreat h)
      rw [hn] at hbeq
      have hnh := Lib.hid hn
      have sBh := Lib.hid sBn
      replace lc := Lib.hid lc
      replace lb := Lib.hid lb
      replace hX := Lib.hid hX
      replace hY := Lib.hid hY
      clear h1 h2 hc hB0 sB sX hgreat hmap
      have main : ∀ le : Bool, decide ((n : Int) ≤ (R : Int)) = le → decide (n ≤ R) = le → (le = true → (B.toList == c.toList) = true) → Calls Try.prog 9 #[.string c, .int .i64 (R : Int), .int .u8 (y.toNat : Int)] w fun e w' => e = .returned (.bool true) ∧ Below w.heap.size w w' := by
        intro le
        rcases le with _ | _
        all_goals
          intro dle dle' dB
          first
            | replace dB := dB rfl
            | clear dB
          clear hbeq
          go_enter Try.func9, Try.ntmps9
          go_wp2_with fail
          refine (c1.out _).mono ?_
          rintro e w1 ⟨rfl, hB⟩
          go_wp2_with fail
          refine (c2.out _).mono ?_
          rintro e w2 ⟨rfl, hb⟩
          replace hB := chain hB hb
          obtain ⟨C1, cap1, hcap1, hcv1, hat1⟩ := bytes_of (P := Try.prog) w2 (src := 9) (dst := 34) (e := 5) c Try.underlying9 Try.underlying34 Try.underlying5
          obtain ⟨G, hG⟩ : ∃ G, w2.heap.size = G := ⟨_, rfl⟩
          obtain ⟨W3, hW3⟩ : ∃ W, w2.drew.alloc (.cells C1 5 (cap1, cap1 + 1)) = W := ⟨_, rfl⟩
          have hb3 : Below w2.heap.size w2 W3 := by rw [← hW3]; exact ((Below.refl w2.heap.size w2).drew).alloc (by simp) _
          have hA3 : BAt W3 G (xr (fun x => x ^^^ y) c.data.toList 0) := by rw [xr_zero, ← hW3, ← hG]; exact hat1
          have hs3 : G < W3.heap.size := by rw [← hW3, ← hG]; simp
          obtain ⟨C2, cap2, hcap2, hcv2, hat2⟩ := bytes_of (P := Try.prog) W3 (src := 9) (dst := 34) (e := 5) B Try.underlying9 Try.underlying34 Try.underlying5
          obtain ⟨H, hH⟩ : ∃ G, W3.heap.size = G := ⟨_, rfl⟩
          obtain ⟨W4, hW4⟩ : ∃ W, W3.drew.alloc (.cells C2 5 (cap2, cap2 + 1)) = W := ⟨_, rfl⟩
          have hb4 : Below W3.heap.size W3 W4 := by rw [← hW4]; exact ((Below.refl W3.heap.size W3).drew).alloc (by simp) _
          have hA4 : BAt W4 H (xr (fun x => x ^^^ y) B.data.toList 0) := by rw [xr_zero, ← hW4, ← hH]; exact hat2
          have hs4 : H < W4.heap.size := by rw [← hW4, ← hH]; simp
          have hA5 := hA3.below hb4 hs3
          have hGH : G < H := by rw [← hH]; exact hs3
          have hbB := chain hb3 hb4
          rw [hW3, hG, hnh.out] at hcv1
          rw [hW4, hH, sBh.out] at hcv2
          rw [hnh.out] at hcap1
          rw [sBh.out] at hcap2
          rw [hG] at hbB
          replace hA5 := Lib.hid hA5
          replace hA4 := Lib.hid hA4
          replace hs4 := Lib.hid hs4
          have hGh := Lib.hid hG
          clear hA3 hs3 hat1 hat2 hW3 hW4 hb3 hb4 hG hH hb c1 c2
          go_wp2
          go_loopw [63] (fun iv wr => ∃ k : Nat, k ≤ n ∧ iv = .int .i64 (k : Int) ∧ Hid (BAt wr G (xr (fun x => x ^^^ y) c.data.toList k)) ∧ Hid (BAt wr H (xr (fun x => x ^^^ y) B.data.toList k)) ∧ Hid (H < wr.heap.size) ∧ Below G w2 wr) (fun iv _ => n - (intOf iv).toNat)
          case atStart => exact ⟨0, Nat.zero_le _, rfl, hA5, hA4, hs4, hbB⟩
          case round =>
            clear hA5 hA4 hs4 hbB hcv1 hcv2
            obtain ⟨k, hk, rfl, hg, hh, hsz, hb⟩ := hrel
            by_cases hlt : k < n
            · obtain ⟨X1, hcx, hfx, hsx⟩ := xr_cell hg.out lc.out hlt
              obtain ⟨Y1, hcy, hfy, hsy⟩ := xr_cell hh.out lb.out hlt
              have e1 := bxr8 X1 y
              have e2 := bxr8 Y1 y
              obtain ⟨X2, hX2⟩ : ∃ X2, X1 ^^^ y = X2 := ⟨_, rfl⟩
              obtain ⟨Y2, hY2⟩ : ∃ X2, Y1 ^^^ y = X2 := ⟨_, rfl⟩
              rw [hX2] at e1
              rw [hY2] at e2
              replace hsx : ∀ W', BAt W' G (xr (fun x => x ^^^ y) c.data.toList k) → BAt (W'.setCell ⟨G, k, none⟩ (.int .u8 (X2.toNat : Int))) G (xr (fun x => x ^^^ y) c.data.toList (k + 1)) := by rw [← hX2]; exact hsx
              replace hsy : ∀ W', BAt W' H (xr (fun x => x ^^^ y) B.data.toList k) → BAt (W'.setCell ⟨H, k, none⟩ (.int .u8 (Y2.toNat : Int))) H (xr (fun x => x ^^^ y) B.data.toList (k + 1)) := by rw [← hY2]; exact hsy
              have hne : G ≠ H := Nat.ne_of_lt hGH
              have g2 := Lib.hid ((hsx wr hg.out).far (k := k) (Ne.symm hne) (.int .u8 (Y2.toNat : Int)))
              have h2 := Lib.hid (hsy (wr.setCell ⟨G, k, none⟩ (.int .u8 (X2.toNat : Int))) (hh.out.far hne _))
              have s2 : Hid (H < ((wr.setCell ⟨G, k, none⟩ (.int .u8 (X2.toNat : Int))).setCell ⟨H, k, none⟩ (.int .u8 (Y2.toNat : Int))).heap.size) := Lib.hid (by simpa using hsz.out)
              have b2 := (hb.setCell (p := ⟨G, k, none⟩) (Nat.le_refl G) (.int .u8 (X2.toNat : Int))).setCell (p := ⟨H, k, none⟩) (Nat.le_of_lt hGH) (.int .u8 (Y2.toNat : Int))
              have dk : decide ((k : Int) < (n : Int)) = true := decide_eq_true (by omega)
              have dk' : decide (k < n) = true := decide_eq_true (by omega)
              have k0 : (0 : Int) ≤ (k : Int) := by omega
              have k1 : (k : Int) < (n : Int) := by omega
              clear hX2 hY2 hsx hsy hg hh hsz hb
              go_wp2_with fail
              go_region
              all_goals
                have g3 : Hid (BAt ((wr.setCell ⟨G, k, none⟩ (.int .u8 (X2.toNat : Int))).setCell ⟨H, k, none⟩ (.int .u8 (Y2.toNat : Int))).drew G (xr (fun x => x ^^^ y) c.data.toList (k + 1))) := Lib.hid g2.out.drew
                have h3 : Hid (BAt ((wr.setCell ⟨G, k, none⟩ (.int .u8 (X2.toNat : Int))).setCell ⟨H, k, none⟩ (.int .u8 (Y2.toNat : Int))).drew H (xr (fun x => x ^^^ y) B.data.toList (k + 1))) := Lib.hid h2.out.drew
                have s3 : Hid (H < ((wr.setCell ⟨G, k, none⟩ (.int .u8 (X2.toNat : Int))).setCell ⟨H, k, none⟩ (.int .u8 (Y2.toNat : Int))).drew.heap.size) := Lib.hid s2.out
                go_wp2
                go_roundw
                case rel => exact ⟨k + 1, by omega, by go_num, g3, h3, s3, b2.drew⟩
                case measure => simp [intOf]; omega
            · obtain rfl : k = n := by omega
              have dk : decide ((k : Int) < (k : Int)) = false := decide_eq_false (by omega)
              have dk' : decide (k < k) = false := decide_eq_false (by omega)
              have g2 := hg.out
              have h2 := hh.out
              rw [xr_all _ _ _ lc.out] at g2
              rw [xr_all _ _ _ lb.out] at h2
              have hcvx := g2.conv (P := Try.prog) (cap := cap1) (n := k) (by rw [List.length_map]; exact lc.out) Try.underlying34 Try.underlying5 Try.underlying9
              rw [hX.out] at hcvx
              have hBk := chain hB (show Below w2.heap.size w2 wr by rw [hGh.out]; exact hb)
              replace h2 := Lib.hid h2
              clear g2 hg hh hb hX
              go_wp2_with fail
              refine (c3.out _).mono ?_
              rintro e w5 ⟨rfl, hb5⟩
              have h5 := h2.out.below hb5 hsz.out
              have hcvy := h5.conv (P := Try.prog) (cap := cap2) (n := k) (by rw [List.length_map]; exact lb.out) Try.underlying34 Try.underlying5 Try.underlying9
              rw [hY.out] at hcvy
              replace hBk := chain hBk hb5
              clear h2 h5 hb5 hcvx hsz hY c3
              go_wp2_with (go_at_call 11; refine (cA.out _).mono ?_; rintro e w6 ⟨rfl, hb⟩)
              go_ret
              exact ⟨rfl, chain hBk hb⟩
      by_cases hle : n ≤ R
      · exact main true (decide_eq_true (by omega)) (decide_eq_true hle) (fun _ => hbeq hle)
      · exact main false (decide_eq_false (by omega)) (decide_eq_false hle) (fun h => by cases h)
  · have d1 : decide (300 < c.size) = true := decide_eq_true (by omega)
    have d1' : decide ((300 : Int) < (c.size : Int)) = true := decide_eq_true (by omega)
    clear h1 hc r1 r2
    go_enter Try.func9, Try.ntmps9
    go_wp2_with fail
    refine (cA.out _).mono ?_
    rintro e w1 ⟨rfl, hB⟩
    go_wp2
    go_ret
    exact ⟨rfl, hB⟩
end Go.Proofs.Ythncpflbojoejaa.I11
