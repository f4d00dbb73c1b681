/- Facts and contracts that the walks of this layer use, merged: F13Con, F13Own1, F13Own2, F13Own3. -/
import Derived.Test.YtgpdfkallgjocaaGreatDoorM13AJ
import Derived.Test.YtgpdfkallgjocaaGreatDoorM13AC
import Derived.Test.YtgpdfkallgjocaaGreatDoorM13AG
import Derived.Test.YtgpdfkallgjocaaGreatDoorM13AI
import Derived.Test.YtgpdfkallgjocaaGreatDoorM13AK
import Derived.Test.YtgpdfkallgjocaaGreatDoorM13AN
import Derived.Test.YtgpdfkallgjocaaGreatDoorM13AP
import Derived.Test.YtgpdfkallgjocaaGreatDoorM13AD
import Derived.Test.YtgpdfkallgjocaaGreatDoorShelf
import Derived.Test.YtgpdfkallgjocaaGreatDoorM13AB
import Derived.Laws.BitsAllLaws
import Derived.Deep.RegionHeld3
namespace Go.Proofs.YtgpdfkallgjocaaGreatDoor.F13
set_option maxRecDepth 100000
open Go.RowKit Mem
set_option linter.unusedVariables false
set_option linter.unusedSimpArgs false

/-! ### coded frames -/
/-- The bits of a word's cells. -/
def bitsOf (W : ByteArray) : List Bool := (C1.fromB W.data.toList).map C9.toB
theorem bits8_bit (c : UInt8) : (C1.bits8 c).all C9.bitB = true := C1.byte_cases (fun c => (C1.bits8 c).all C9.bitB) (by decide) c
theorem fromB_bit (l : List UInt8) : (C1.fromB l).all C9.bitB = true := by
  unfold C1.fromB
  rw [List.all_flatMap]
  rw [List.all_eq_true]
  exact fun c _ => bits8_bit c
theorem cs_bits : ∀ l : List UInt8, l.all C9.bitB = true → C9.cs (l.map C9.toB) = l
  | [], _ => rfl
  | c :: l, h => by
    rw [List.all_cons, Bool.and_eq_true] at h
    show C9.cell (C9.toB c) :: C9.cs (l.map C9.toB) = c :: l
    rw [C9.cell_toB h.1, cs_bits l h.2]
theorem cs_bitsOf (W : ByteArray) : C9.cs (bitsOf W) = C1.fromB W.data.toList := cs_bits _ (fromB_bit _)
theorem sb_bitsOf (W : ByteArray) : C9.sb (bitsOf W) = ⟨(C1.fromB W.data.toList).toArray⟩ := by
  unfold C9.sb
  rw [cs_bitsOf]
theorem bitsOf_len (W : ByteArray) : (bitsOf W).length = 8 * W.size := by
  unfold bitsOf
  rw [List.length_map, C1.fromB_len]
  simp
def Word (f : Fr) (W : ByteArray) : Prop := ∃ t, G7.IsEnc 8 (G7.el ⟨(msgL f).toArray⟩) t ∧ W = G7.str (G7.el ⟨(msgL f).toArray⟩ ++ t)
theorem msg_el {f : Fr} (h : Valid f) : (G7.el ⟨(msgL f).toArray⟩).length = 44 := by
  rw [G7.el_len]
  exact msgL_len h
theorem Word.only {f : Fr} {W W' : ByteArray} (hv : Valid f) (h : Word f W) (h' : Word f W') : W = W' := by
  obtain ⟨t, h1, rfl⟩ := h
  obtain ⟨t', h2, rfl⟩ := h'
  rw [h1.only h2 (by rw [msg_el hv]; decide)]
theorem Word.size {f : Fr} {W : ByteArray} (hv : Valid f) (h : Word f W) : W.size = 52 := by
  obtain ⟨t, h1, rfl⟩ := h
  rw [G7.size_str, List.length_append, msg_el hv, h1.1]
theorem Word.cw {f : Fr} {W : ByteArray} (h : Word f W) : G7.Cw 8 (G7.el W) := by
  obtain ⟨t, h1, rfl⟩ := h
  rw [G7.el_str]
  exact h1.2
theorem Word.take {f : Fr} {W : ByteArray} (hv : Valid f) (h : Word f W) : W.data.toList.take 44 = msgL f := by
  obtain ⟨t, h1, rfl⟩ := h
  rw [← G7.str_app, G7.str_el]
  rw [ByteArray.data_append, Array.toList_append]
  exact List.take_left' (msgL_len hv)
def bodyC (W : ByteArray) : ByteArray := ⟨(I11.il 8 (C9.cs (C9.enc (bitsOf W)))).toArray⟩
theorem encL (W : ByteArray) (h : W.size = 52) : (C9.enc (bitsOf W)).length = 836 := by
  rw [C9.enc_len, bitsOf_len, h]
theorem bodyC_list (W : ByteArray) : (bodyC W).data.toList = I11.il 8 (C9.cs (C9.enc (bitsOf W))) := rfl
theorem bodyC_size {W : ByteArray} (h : W.size = 52) : (bodyC W).size = 836 := by
  show (I11.il 8 (C9.cs (C9.enc (bitsOf W)))).length = 836
  rw [I11.il_len, C9.cs_len, encL W h]
def EncQ (f : Fr) (S : ByteArray) : Prop := (ckE f = 0 → ∃ W, Word f W ∧ S = M12.mkB ++ bodyC W) ∧ (ckE f ≠ 0 → S = ⟨#[]⟩)
theorem EncQ.only {f : Fr} {S S' : ByteArray} (h : EncQ f S) (h' : EncQ f S') : S = S' := by
  by_cases h0 : ckE f = 0
  · obtain ⟨W, h1, rfl⟩ := h.1 h0
    obtain ⟨W', h2, rfl⟩ := h'.1 h0
    rw [h1.only ((valid_iff f).1 h0) h2]
  · rw [h.2 h0, h'.2 h0]
def EncP (f : Fr) (w : World) (e : Ending) (w' : World) : Prop := ∃ S, EncQ f S ∧ e = .returned (.tuple #[.string S, .int .i64 (ckE f)]) ∧ Below w.heap.size w w'

/-! ### decoding -/
def padL (c : List UInt8) : List UInt8 := c ++ List.replicate (836 - c.length) 63
theorem padL_len {c : List UInt8} (h : c.length ≤ 836) : (padL c).length = 836 := by
  unfold padL
  rw [List.length_append, List.length_replicate]
  omega
theorem padL_full {c : List UInt8} (h : c.length = 836) : padL c = c := by
  unfold padL
  rw [h, Nat.sub_self]
  simp
def xB (c : ByteArray) : ByteArray := ⟨(I11.dl 8 (padL c.data.toList)).toArray⟩
def byB (X : ByteArray) : ByteArray := ⟨(C1.tbS (V10.dS X).data.toList).toArray⟩
def qV (d u n : Int) : Value := .agg #[.int .i64 d, .int .i64 u, .int .i64 n]
structure No (F : Fr) (d u n : Int) : Prop where
  f : F = zeroF
  d : d = 0
  u : u = 0
  n : n = 0
def InQ (X : ByteArray) (F : Fr) (d u n k : Int) : Prop := ∃ (S : ByteArray) (m j : Int), G8.DecQ (G7.el (byB X)) 8 [] S m j ∧
  (j ≠ 0 → No F d u n ∧ k = j) ∧ (j = 0 → (unE (S.data.toList.take 44) ≠ 0 → No F d u n ∧ k = unE (S.data.toList.take 44)) ∧
    (unE (S.data.toList.take 44) = 0 → F = unF (S.data.toList.take 44) ∧ d = V10.dN X ∧ u = (C1.unr X.data.toList : Int) ∧ n = m ∧ k = 0))
def DcQ (c : ByteArray) (F : Fr) (d u n k : Int) : Prop :=
  (C1.chk c.data.toList ≠ 0 → No F d u n ∧ k = 3) ∧ (C1.chk c.data.toList = 0 → (836 < c.size → No F d u n ∧ k = 6) ∧ (c.size ≤ 836 → InQ (xB c) F d u n k))
theorem No.only {F F' : Fr} {d u n d' u' n' : Int} (h : No F d u n) (h' : No F' d' u' n') : F = F' ∧ d = d' ∧ u = u' ∧ n = n' :=
  ⟨h.f.trans h'.f.symm, h.d.trans h'.d.symm, h.u.trans h'.u.symm, h.n.trans h'.n.symm⟩
theorem InQ.only {X : ByteArray} {F F' : Fr} {d u n k d' u' n' k' : Int} (h : InQ X F d u n k) (h' : InQ X F' d' u' n' k') : F = F' ∧ d = d' ∧ u = u' ∧ n = n' ∧ k = k' := by
  obtain ⟨S, m, j, h1, h2, h3⟩ := h
  obtain ⟨S', m', j', h1', h2', h3'⟩ := h'
  obtain ⟨rfl, rfl, rfl⟩ := h1.only h1'
  by_cases hj : j = 0
  · by_cases hu : unE (S.data.toList.take 44) = 0
    · obtain ⟨rfl, rfl, rfl, rfl, rfl⟩ := (h3 hj).2 hu
      obtain ⟨rfl, rfl, rfl, rfl, rfl⟩ := (h3' hj).2 hu
      exact ⟨rfl, rfl, rfl, rfl, rfl⟩
    · obtain ⟨a, rfl⟩ := (h3 hj).1 hu
      obtain ⟨b, rfl⟩ := (h3' hj).1 hu
      obtain ⟨e1, e2, e3, e4⟩ := a.only b
      exact ⟨e1, e2, e3, e4, rfl⟩
  · obtain ⟨a, rfl⟩ := h2 hj
    obtain ⟨b, rfl⟩ := h2' hj
    obtain ⟨e1, e2, e3, e4⟩ := a.only b
    exact ⟨e1, e2, e3, e4, rfl⟩
theorem DcQ.only {c : ByteArray} {F F' : Fr} {d u n k d' u' n' k' : Int} (h : DcQ c F d u n k) (h' : DcQ c F' d' u' n' k') : F = F' ∧ d = d' ∧ u = u' ∧ n = n' ∧ k = k' := by
  by_cases hc : C1.chk c.data.toList = 0
  · by_cases hs : 836 < c.size
    · obtain ⟨a, rfl⟩ := (h.2 hc).1 hs
      obtain ⟨b, rfl⟩ := (h'.2 hc).1 hs
      obtain ⟨e1, e2, e3, e4⟩ := a.only b
      exact ⟨e1, e2, e3, e4, rfl⟩
    · exact ((h.2 hc).2 (by omega)).only ((h'.2 hc).2 (by omega))
  · obtain ⟨a, rfl⟩ := h.1 hc
    obtain ⟨b, rfl⟩ := h'.1 hc
    obtain ⟨e1, e2, e3, e4⟩ := a.only b
    exact ⟨e1, e2, e3, e4, rfl⟩
def DcP (c : ByteArray) (w : World) (e : Ending) (w' : World) : Prop := ∃ (F : Fr) (d u n k : Int), DcQ c F d u n k ∧ e = .returned (.tuple #[F.val, qV d u n, .int .i64 k]) ∧ Below w.heap.size w w'

/-! ### the inner code: Extract or the Viterbi decoder -/
theorem chk_okC {l : List UInt8} : C1.chk l = 0 ↔ l.all C9.okC = true := by
  unfold C1.chk
  split
  · next h => exact ⟨fun _ => h, fun _ => rfl⟩
  · next h => exact ⟨fun e => absurd e (by decide), fun e => absurd e h⟩
theorem xB_list (c : ByteArray) : (xB c).data.toList = I11.dl 8 (padL c.data.toList) := rfl
theorem xB_size {c : ByteArray} (h : c.size ≤ 836) : (xB c).size = 836 := by
  show (I11.dl 8 (padL c.data.toList)).length = 836
  rw [I11.dl_len, padL_len (by simpa using h)]
theorem dl_all {r : Nat} (hr : 0 < r) {l : List UInt8} {P : UInt8 → Bool} (h : l.all P = true) : (I11.dl r l).all P = true := by
  rw [List.all_eq_true] at *
  intro x hx
  have := (I11.perm_il hr (I11.dl r l)).mem_iff.2 hx
  rw [I11.il_dl hr] at this
  exact h x this
theorem xB_ok {c : ByteArray} (h : C1.chk c.data.toList = 0) : (xB c).data.toList.all C9.okC = true := by
  rw [xB_list]
  refine dl_all (by decide) ?_
  unfold padL
  rw [List.all_append, chk_okC.1 h, Bool.true_and, List.all_eq_true]
  intro x hx
  rw [(List.mem_replicate.1 hx).2]
  rfl
theorem xB_eB {c : ByteArray} (h : C1.chk c.data.toList = 0) (hs : c.size ≤ 836) : V10.eB (xB c) = 0 := V10.eB_ok (xB_ok h) (n := 416) (xB_size hs)
theorem ext_dec {X S : ByteArray} {k : Int} (hs : X.size = 836) (ho : X.data.toList.all C9.okC = true) (h : C9.ExtQ X S k) (hk : k = 0) : V10.dS X = S ∧ V10.dN X = 0 := by
  have h2 := ((h.2 ho).2 ⟨by omega, by omega⟩)
  by_cases hc : ∃ l, C9.CodeOf X l
  · obtain ⟨l, hl⟩ := hc
    obtain ⟨rfl, _⟩ := h2.1 l hl
    obtain ⟨g, hg⟩ := V10.good (V10.eB_ok ho (n := 416) hs) (n := 416) hs
    have hX : X.data.toList = C9.cs (C9.enc l) := by rw [hl.eq]; rfl
    have hll : l.length = 416 := by
      have : X.data.toList.length = 836 := by simpa using hs
      rw [hX, C9.cs_len, C9.enc_len] at this
      omega
    have hz : V10.misL X.data.toList (C9.enc l) = 0 := by rw [hX]; exact V10.misL_self _
    have hu : V10.unrL X.data.toList = 0 := by rw [hX]; exact V10.unrL_cs _
    obtain ⟨e1, e2, _⟩ := hg.near (b := l) hs hll (by omega)
    subst e1
    exact ⟨hg.str, by rw [e2, hz]; rfl⟩
  · obtain ⟨_, e⟩ := h2.2 (fun l hl => hc ⟨l, hl⟩)
    omega
theorem inner {f : Fr} {W X : ByteArray} (hv : Valid f) (hW : Word f W) (hs : X.size = 836) (ho : X.data.toList.all C9.okC = true) (ha : Apart X.data.toList (C9.enc (bitsOf W))) {F : Fr} {d u n k : Int} (h : InQ X F d u n k) :
    F = f ∧ d = (V10.misL X.data.toList (C9.enc (bitsOf W)) : Int) ∧ u = (C1.unr X.data.toList : Int) ∧ n = 0 ∧ k = 0 := by
  have hw := hW.size hv
  have he := encL W hw
  have hl : X.data.toList.length = (C9.enc (bitsOf W)).length := by rw [he]; simpa using hs
  obtain ⟨g, hg⟩ := V10.good (V10.eB_ok ho (n := 416) hs) (n := 416) hs
  obtain ⟨e1, e2, _⟩ := near hg hs (b := bitsOf W) (by rw [bitsOf_len, hw]) (ha.sp hl)
  subst e1
  have hby : byB X = W := by
    unfold byB
    rw [hg.str, sb_bitsOf]
    show (⟨(C1.tbS (C1.fromB W.data.toList)).toArray⟩ : ByteArray) = W
    rw [C1.tbS_fromB]
  obtain ⟨S, m, j, h1, h2, h3⟩ := h
  rw [hby] at h1
  have hel : (G7.el W).length = 52 := by rw [G7.el_len, hw]
  have hnb : ¬ G8.Bad (G7.el W).length 8 [] := by
    rw [hel]
    rintro (h | h | h | h | ⟨z, hz, _⟩)
    · omega
    · omega
    · omega
    · omega
    · cases hz
  have hself : G8.Within (8 : Int).toNat (G7.el W) (G8.Lof []) (G7.el W) := G8.Within.self hW.cw (by decide)
  obtain ⟨rfl, e3, rfl⟩ := (h1.2 hnb).1 _ hself
  have hd0 : G8.dif (G7.el W) (G7.el W) = 0 := by
    unfold G8.dif G8.cnt
    have : (List.range (G7.el W).length).filter (G8.differ (G7.el W) (G7.el W)) = [] := by
      rw [List.filter_eq_nil_iff]
      intro i _
      unfold G8.differ
      simp
    rw [this]
    rfl
  rw [G7.str_el, hW.take hv] at h3
  obtain ⟨rfl, rfl, rfl, rfl, rfl⟩ := (h3 rfl).2 (unE_msg hv)
  exact ⟨unF_msg hv, e2, rfl, by rw [e3, hd0]; rfl, rfl⟩
end Go.Proofs.YtgpdfkallgjocaaGreatDoor.F13
namespace Go.Proofs.YtgpdfkallgjocaaGreatDoor.F13
set_option maxRecDepth 100000
open Go.RowKit Mem
set_option linter.unusedVariables false
set_option linter.unusedSimpArgs false

def btw (n a b : Int) : Bool := decide (a ≤ n) && decide (n ≤ b)
theorem btw_yes {n a b : Int} (h : btw n a b = true) : a ≤ n ∧ n ≤ b := by
  unfold btw at h
  rw [Bool.and_eq_true, decide_eq_true_iff, decide_eq_true_iff] at h
  exact h
theorem between_own {n a b : Int} {r : Bool} (w : World) (h : btw n a b = r) : Calls Tryz.prog 72 #[.int .i64 n, .int .i64 a, .int .i64 b] w fun e w' => e = .returned (.bool r) ∧ w = w' := by
  subst h
  unfold btw
  rcases h1 : decide (a ≤ n) with _ | _
  · go_enter Tryz.func72, Tryz.ntmps72
    go_wp2
    go_ret
    exact ⟨rfl, rfl⟩
  · rcases h2 : decide (n ≤ b) with _ | _
    all_goals
      go_enter Tryz.func72, Tryz.ntmps72
      go_wp2
      go_ret
      exact ⟨rfl, rfl⟩
def nmB (f : Fr) : Bool := btw f.data 1 8 && (btw f.spare 0 7 && (btw f.reel 0 (f.data + f.spare - 1) && (btw f.sess 1 255 && (btw f.idx 0 65535 && btw f.len 0 28))))
theorem nm_rg (f : Fr) : nmB f = !rgB f := by
  rw [Bool.eq_iff_iff]
  unfold nmB btw rgB
  simp only [Bool.and_eq_true, Bool.or_eq_true, Bool.not_eq_true', Bool.or_eq_false_iff, decide_eq_true_eq, decide_eq_false_iff_not]
  omega
set_option maxHeartbeats 4000000 in
theorem numbers_own (f : Fr) (w : World) : Calls Tryz.prog 34 #[f.val] w fun e w' => e = .returned (.bool (!rgB f)) ∧ Below w.heap.size w w' := by
  rw [← nm_rg]
  unfold nmB
  obtain ⟨kind, reel, sess, idx, len, data, spare, arch, pay⟩ := f
  unfold Fr.val Fr.cells
  dsimp only
  have hal : Below w.heap.size w (w.alloc (.cells #[.int .i64 kind, .int .i64 reel, .int .i64 sess, .int .i64 idx, .int .i64 len, .int .i64 data, .int .i64 spare, .int .u32 (arch.toNat : Int), .string pay] 26)) := (Below.refl _ _).alloc (Nat.le_refl _) _
  replace hal := Lib.hid hal
  rcases h1 : btw data 1 8 with _ | _
  · have c1 := Lib.hid (fun W => between_own W h1)
    go_enter Tryz.func34, Tryz.ntmps34
    go_wp2_with (go_at_call 72; refine (c1.out _).mono ?_; rintro e w1 ⟨rfl, rfl⟩)
    go_ret
    exact ⟨rfl, hal.out⟩
  · have c1 := Lib.hid (fun W => between_own W h1)
    have b1 := btw_yes h1
    rcases h2 : btw spare 0 7 with _ | _
    · have c2 := Lib.hid (fun W => between_own W h2)
      clear b1
      go_enter Tryz.func34, Tryz.ntmps34
      go_wp2_with (go_at_call 72; (first | (with_reducible refine (c1.out _).mono ?_) | (with_reducible refine (c2.out _).mono ?_)); rintro e w1 ⟨rfl, rfl⟩)
      go_ret
      exact ⟨rfl, hal.out⟩
    · have c2 := Lib.hid (fun W => between_own W h2)
      have b2 := btw_yes h2
      rcases h3 : btw reel 0 (data + spare - 1) with _ | _
      · have c3 := Lib.hid (fun W => between_own W h3)
        go_enter Tryz.func34, Tryz.ntmps34
        go_wp2_with (go_at_call 72; (first | (with_reducible refine (c1.out _).mono ?_) | (with_reducible refine (c2.out _).mono ?_) | (with_reducible refine (c3.out _).mono ?_)); rintro e w1 ⟨rfl, rfl⟩)
        go_ret
        exact ⟨rfl, hal.out⟩
      · have c3 := Lib.hid (fun W => between_own W h3)
        rcases h4 : btw sess 1 255 with _ | _
        · have c4 := Lib.hid (fun W => between_own W h4)
          go_enter Tryz.func34, Tryz.ntmps34
          go_wp2_with (go_at_call 72; (first | (with_reducible refine (c1.out _).mono ?_) | (with_reducible refine (c2.out _).mono ?_) | (with_reducible refine (c3.out _).mono ?_) | (with_reducible refine (c4.out _).mono ?_)); rintro e w1 ⟨rfl, rfl⟩)
          go_ret
          exact ⟨rfl, hal.out⟩
        · have c4 := Lib.hid (fun W => between_own W h4)
          rcases h5 : btw idx 0 65535 with _ | _
          · have c5 := Lib.hid (fun W => between_own W h5)
            go_enter Tryz.func34, Tryz.ntmps34
            go_wp2_with (go_at_call 72; (first | (with_reducible refine (c1.out _).mono ?_) | (with_reducible refine (c2.out _).mono ?_) | (with_reducible refine (c3.out _).mono ?_) | (with_reducible refine (c4.out _).mono ?_) | (with_reducible refine (c5.out _).mono ?_)); rintro e w1 ⟨rfl, rfl⟩)
            go_ret
            exact ⟨rfl, hal.out⟩
          · have c5 := Lib.hid (fun W => between_own W h5)
            obtain ⟨r, h6⟩ : ∃ r, btw len 0 28 = r := ⟨_, rfl⟩
            rw [h6]
            have c6 := Lib.hid (fun W => between_own W h6)
            go_enter Tryz.func34, Tryz.ntmps34
            go_wp2_with (go_at_call 72; (first | (with_reducible refine (c1.out _).mono ?_) | (with_reducible refine (c2.out _).mono ?_) | (with_reducible refine (c3.out _).mono ?_) | (with_reducible refine (c4.out _).mono ?_) | (with_reducible refine (c5.out _).mono ?_) | (with_reducible refine (c6.out _).mono ?_)); rintro e w1 ⟨rfl, rfl⟩)
            go_ret
            exact ⟨rfl, hal.out⟩
def plB (s : ByteArray) (u : Nat) : Bool := (s.size == 28) && zerosB (s.data.toList.drop u)
set_option maxHeartbeats 4000000 in
theorem payload_own (s : ByteArray) (u : Nat) (w : World) (hs : s.size ≤ 1000000) (hu : u ≤ 28) : Calls Tryz.prog 35 #[.string s, .int .i64 (u : Int)] w fun e w' => e = .returned (.bool (plB s u)) ∧ Below w.heap.size w w' := by
  by_cases h : s.size = 28
  · have t1 : ((s.size : Int) == 28) = true := by rw [h]; rfl
    have hT := fun W => Tryz.strings_Trim_one (s.extract u s.size) 0 (by decide) W (by rw [ByteArray.size_extract]; omega)
    rw [show (s.extract u s.size).data.toList = s.data.toList.drop u by
      rw [ByteArray.data_extract, Array.toList_extract]
      simp only [List.extract, Nat.sub_eq]
      rw [List.take_of_length_le]
      rw [List.length_drop, Array.length_toList]
      exact Nat.le_refl _] at hT
    have hp : plB s u = zerosB (s.data.toList.drop u) := by
      unfold plB
      rw [show (s.size == 28) = true by rw [h]; rfl, Bool.true_and]
    obtain ⟨T, hTT⟩ : ∃ T, Lib.trimB (s.data.toList.drop u) 0 = T := ⟨_, rfl⟩
    have hz : (⟨T.toArray⟩ : ByteArray).toList.isEmpty = plB s u := by
      rw [hp, Bool.eq_iff_iff, List.isEmpty_iff, ByteArray.toList_eq, ← trim_nil, hTT]
    rw [hTT] at hT
    obtain ⟨B, hB⟩ : ∃ B, plB s u = B := ⟨_, rfl⟩
    obtain ⟨V, hV⟩ : ∃ V : ByteArray, ⟨T.toArray⟩ = V := ⟨_, rfl⟩
    rw [hB, hV] at hz
    rw [hV] at hT
    rw [hB]
    have u0 : (0 : Int) ≤ (u : Int) := by omega
    have u1 : (u : Int) ≤ 28 := by omega
    have u2 : (s.size : Int) = 28 := by omega
    have u3 : (u : Int) ≤ (s.size : Int) := by omega
    replace hT := Lib.hid hT
    clear hB hV hTT hp h
    go_enter Tryz.func35, Tryz.ntmps35
    go_wp2_with fail
    refine (hT.out _).mono ?_
    rintro e w1 ⟨rfl, hw⟩
    have hbl : Below w.heap.size w w1 := by
      rcases hw with rfl | rfl
      · exact Below.refl _ _
      · exact chainN (Below.refl _ _) 1
    go_wp2
    go_ret
    exact ⟨rfl, hbl⟩
  · have t1 : ((s.size : Int) == 28) = false := by rw [beq_eq_false_iff_ne]; omega
    have hp : plB s u = false := by
      unfold plB
      rw [show (s.size == 28) = false by rw [beq_eq_false_iff_ne]; exact h, Bool.false_and]
    rw [hp]
    clear h hp
    go_enter Tryz.func35, Tryz.ntmps35
    go_wp2
    go_ret
    exact ⟨rfl, Below.refl _ _⟩
theorem pl_py {f : Fr} {u : Nat} (hu : f.len = (u : Int)) : plB f.pay u = !pyB f := by
  unfold plB pyB
  rw [hu, Int.toNat_natCast]
  cases h : (f.pay.size == 28)
  · rw [show (f.pay.size != 28) = true by simpa using h]
    rfl
  · rw [show (f.pay.size != 28) = false by simpa using h]
    simp
set_option maxHeartbeats 4000000 in
theorem check_rest (f : Fr) (w : World) (hp : f.pay.size ≤ 1000000) (hk : (f.kind != 66) = false ∨ ((f.kind != 66) = true ∧ (f.kind != 68) = false)) :
    Calls Tryz.prog 16 #[f.val] w fun e w' => e = .returned (.int .i64 (if rgB f then 2 else if pyB f then 1 else 0)) ∧ Below w.heap.size w w' := by
  have cN := fun W => numbers_own f W
  have hb0 : Below w.heap.size w (w.alloc (.cells f.cells 26)) := (Below.refl _ _).alloc (Nat.le_refl _) _
  have hvB : VAt (w.alloc (.cells f.cells 26)) w.heap.size f.cells.toList := vat_alloc w _ f.cells.toList
  have hsB : w.heap.size < (w.alloc (.cells f.cells 26)).heap.size := by simp
  rcases hr : rgB f with _ | _
  · rw [hr] at cN
    have hl : 0 ≤ f.len ∧ f.len ≤ 28 := by
      unfold rgB at hr
      simp only [Bool.or_eq_false_iff, decide_eq_false_iff_not] at hr
      omega
    obtain ⟨u, hu⟩ : ∃ u : Nat, f.len = (u : Int) := ⟨f.len.toNat, by omega⟩
    have cP := fun W => payload_own f.pay u W hp (by omega)
    rw [pl_py hu] at cP
    obtain ⟨B, hB⟩ : ∃ B, pyB f = B := ⟨_, rfl⟩
    rw [hB] at cP
    rw [hB]
    replace cN := Lib.hid cN
    replace cP := Lib.hid cP
    obtain ⟨kind, reel, sess, idx, len, data, spare, arch, pay⟩ := f
    unfold Fr.val Fr.cells at *
    dsimp only at *
    subst hu
    clear hB hr hl hp
    rcases hk with hk | ⟨hk, hk2⟩
    all_goals
      rcases B with _ | _
      all_goals
        go_enter Tryz.func16, Tryz.ntmps16
        go_wp2_with fail
        refine (cN.out _).mono ?_
        rintro e w1 ⟨rfl, hb1⟩
        obtain ⟨a0, a1, a2, a3, a4, a5, a6, a7, a8, _, _, _, _, _, _, _, _, _⟩ := cells9 (hvB.below hb1 hsB)
        go_wp2_with fail
        refine (cP.out _).mono ?_
        rintro e w2 ⟨rfl, hb2⟩
        go_wp2
        go_ret
        exact ⟨rfl, chain hb0 (chain hb1 hb2)⟩
  · rw [hr] at cN
    replace cN := Lib.hid cN
    obtain ⟨kind, reel, sess, idx, len, data, spare, arch, pay⟩ := f
    unfold Fr.val Fr.cells at *
    dsimp only at *
    clear hr hp hvB hsB
    rcases hk with hk | ⟨hk, hk2⟩
    all_goals
      go_enter Tryz.func16, Tryz.ntmps16
      go_wp2_with fail
      refine (cN.out _).mono ?_
      rintro e w1 ⟨rfl, hb1⟩
      go_wp2
      go_ret
      exact ⟨rfl, chain hb0 hb1⟩
theorem check_own (f : Fr) (w : World) (hf : Fit f) : Calls Tryz.prog 16 #[f.val] w fun e w' => e = .returned (.int .i64 (ckE f)) ∧ Below w.heap.size w w' := by
  unfold ckE kdB
  rcases h1 : (f.kind != 66) with _ | _
  · exact check_rest f w hf.size (.inl h1)
  · rcases h2 : (f.kind != 68) with _ | _
    · exact check_rest f w hf.size (.inr ⟨h1, h2⟩)
    · have hb0 : Below w.heap.size w (w.alloc (.cells f.cells 26)) := (Below.refl _ _).alloc (Nat.le_refl _) _
      obtain ⟨kind, reel, sess, idx, len, data, spare, arch, pay⟩ := f
      unfold Fr.val Fr.cells at *
      dsimp only at *
      go_enter Tryz.func16, Tryz.ntmps16
      go_wp2
      go_ret
      exact ⟨rfl, hb0⟩
end Go.Proofs.YtgpdfkallgjocaaGreatDoor.F13
namespace Go.Proofs.YtgpdfkallgjocaaGreatDoor.F13
set_option maxRecDepth 100000
open Go.RowKit Mem
set_option linter.unusedVariables false
set_option linter.unusedSimpArgs false

theorem bor_byte {v : Nat} (b : UInt8) (h : v * 256 < 4611686018427387904) : bits .or .i64 ((v : Int) * 256) (b.toNat : Int) = (v : Int) * 256 + (b.toNat : Int) := by
  have hb := b.toNat_lt
  have hx : v * 256 ||| b.toNat = v * 256 + b.toNat := or_byte v b
  have e : ∀ a : Nat, a < 9223372036854775808 → (BitVec.ofInt 64 (a : Int)).toNat = a := fun a ha => by
    rw [BitVec.ofInt_natCast, BitVec.toNat_ofNat]
    exact Nat.mod_eq_of_lt (by omega)
  rw [show (v : Int) * 256 = ((v * 256 : Nat) : Int) by simp]
  show IntKind.i64.wrap ((BitVec.ofInt 64 ((v * 256 : Nat) : Int) ||| BitVec.ofInt 64 (b.toNat : Int)).toNat : Int) = _
  rw [BitVec.toNat_or, e _ (by omega), e _ (by omega), hx, IntKind.wrap_i64]
  omega
set_option maxHeartbeats 4000000 in
theorem number_own (n m : Nat) (w : World) (hn : n ≤ 4294967295) (hm : m ≤ 4) : Calls Tryz.prog 67 #[.int .i64 (n : Int), .int .i64 (m : Int)] w fun e w' => e = .returned (.string (nbS n m)) ∧ Below w.heap.size w w' := by
  obtain ⟨l0, hl0, hmk⟩ := I11.make_bytesI w m (by omega)
  have hB0 : BAt (w.alloc (.cells l0.toArray 5)) w.heap.size (nbl n m 0) := by
    rw [hl0, nbl_zero]
    exact I11.made_at w _ _
  have hb0 : Below w.heap.size w (w.alloc (.cells l0.toArray 5)) := (Below.refl _ w).alloc (Nat.le_refl _) _
  obtain ⟨W0, hW0⟩ : ∃ W0, w.alloc (.cells l0.toArray 5) = W0 := ⟨_, rfl⟩
  obtain ⟨G, hG⟩ : ∃ G, w.heap.size = G := ⟨_, rfl⟩
  rw [hW0, hG] at hmk hB0 hb0
  have hlen := fun k => nbl_len n m k
  have hstep := fun k q (h : k < m) (hq : m - 1 - k = q) => nbl_step n m k q h hq
  have hfin : (⟨(nbl n m m).toArray⟩ : ByteArray) = nbS n m := rfl
  obtain ⟨M, hM⟩ : ∃ M : Nat → List UInt8, nbl n m = M := ⟨_, rfl⟩
  rw [hM] at hB0 hlen hstep hfin
  replace hB0 := Lib.hid hB0
  replace hlen := Lib.hid hlen
  replace hstep := Lib.hid hstep
  replace hfin := Lib.hid hfin
  replace hb0 := Lib.hid hb0
  have hGh := Lib.hid hG
  clear hl0 hW0 hM
  go_enter Tryz.func67, Tryz.ntmps67
  go_wp2
  go_loopw [11] (fun iv wr => ∃ k : Nat, k ≤ m ∧ iv = .int .i64 (k : Int) ∧ Hid (BAt wr G (M k)) ∧ Hid (Below G w wr)) (fun iv _ => m - (intOf iv).toNat)
  case atStart => exact ⟨0, Nat.zero_le _, rfl, hB0, hb0⟩
  case round =>
    clear hB0 hb0 hmk
    obtain ⟨k, hk, rfl, hg, hb⟩ := hrel
    by_cases hlt : k < m
    · obtain ⟨q, hq⟩ : ∃ q, m - 1 - k = q := ⟨_, rfl⟩
      have hg2 := hg.out.set (k := q) (by rw [hlen.out]; omega) (UInt8.ofNat (n / 256 ^ k))
      rw [hstep.out k q hlt hq] at hg2
      have hql : q < (M k).length := by rw [hlen.out]; omega
      obtain ⟨o1, o2⟩ := hg.out q hql
      obtain ⟨old, hold⟩ : ∃ x, (M k)[q]'hql = x := ⟨_, rfl⟩
      rw [hold] at o1
      obtain ⟨m1, hm1⟩ : ∃ m1 : Nat, m = m1 + 1 := ⟨m - 1, by omega⟩
      have p1 : (m : Int) - 1 = (m1 : Int) := by omega
      have p2 : (m1 : Int) - (k : Int) = (q : Int) := by omega
      have q0 : (0 : Int) ≤ (q : Int) := by omega
      have q1 : (q : Int) < (m : Int) := by omega
      have k3 : k = 0 ∨ k = 1 ∨ k = 2 ∨ k = 3 := by omega
      have hb2 := Lib.hid (hb.out.setCell (p := ⟨G, q, none⟩) (Nat.le_refl G) (.int .u8 ((UInt8.ofNat (n / 256 ^ k)).toNat : Int)))
      have hg2 := Lib.hid hg2
      have d1 : decide ((k : Int) < (m : Int)) = true := decide_eq_true (by omega)
      clear hold hql hg hb hstep hfin hlen hm1 hq
      have hv : (n : Int) / 2 ^ (8 * k) % 256 = ((UInt8.ofNat (n / 256 ^ k)).toNat : Int) := by
        rw [UInt8.toNat_ofNat', show (256 : Nat) ^ k = 2 ^ (8 * k) by rw [Nat.pow_mul]]
        simp
      replace hv := Lib.hid hv
      go_wp2
      rw [hv.out]
      go_roundw
      case rel => exact ⟨k + 1, by omega, by go_num, hg2, hb2⟩
      case measure => simp [intOf]; omega
    · obtain rfl : k = m := by omega
      have hc := hg.out.conv (P := Tryz.prog) (cap := k) (n := k) (hlen.out k) Tryz.underlying37 Tryz.underlying5 Tryz.underlying9
      rw [hfin.out] at hc
      have hb2 := hb.out
      clear hg hb hlen hstep hfin
      go_wp2
      go_ret
      exact ⟨rfl, by rw [hGh.out]; exact hb2⟩
set_option maxHeartbeats 4000000 in
theorem value_own (s : ByteArray) (w : World) (hs : s.size ≤ 4) : Calls Tryz.prog 71 #[.string s] w fun e w' => e = .returned (.int .i64 (vlN s.data.toList : Int)) ∧ w = w' := by
  have hl : s.data.toList.length = s.size := by simp
  go_enter Tryz.func71, Tryz.ntmps71
  go_wp2
  go_loop [3, 7] (fun v i => ∃ k : Nat, k ≤ s.size ∧ i = .int .i64 (k : Int) ∧ v = .int .i64 (vlN (s.data.toList.take k) : Int)) (fun _ i => s.size - (intOf i).toNat)
  case atStart => exact ⟨0, Nat.zero_le _, rfl, rfl⟩
  case round =>
    obtain ⟨k, hk, rfl, rfl⟩ := hrel
    by_cases hlt : k < s.size
    · have hv := vlN_lt (s.data.toList.take k)
      rw [List.length_take, hl, Nat.min_eq_left hk] at hv
      have hp : 256 ^ k ≤ 256 ^ 3 := Nat.pow_le_pow_right (by decide) (by omega)
      have hst : vlN (s.data.toList.take (k + 1)) = vlN (s.data.toList.take k) * 256 + (s[k]'hlt).toNat := by
        rw [List.take_succ_eq_append_getElem (by omega), vlN_snoc]
        rfl
      obtain ⟨v, hvv⟩ : ∃ v, vlN (s.data.toList.take k) = v := ⟨_, rfl⟩
      rw [hvv] at hv hst ⊢
      have hbor := bor_byte (v := v) (s[k]'hlt) (by omega)
      have k0 : (0 : Int) ≤ (k : Int) := by omega
      have k1 : (k : Int) < (s.size : Int) := by omega
      have v1 : (v : Int) < 16777216 := by omega
      replace hst := Lib.hid hst
      replace hbor := Lib.hid hbor
      clear hvv hv hp
      go_wp2
      go_round
      case rel => exact ⟨k + 1, by omega, by go_num, by
        rw [hst.out, show wrap64 ((s[k]'hlt).toNat : Int) = ((s[k]'hlt).toNat : Int) by have := (s[k]'hlt).toNat_lt; unfold wrap64; omega, hbor.out]
        simp⟩
      case measure => simp [intOf]; omega
    · have hfin := Lib.hid (show vlN s.data.toList = vlN (s.data.toList.take k) by rw [List.take_of_length_le (by omega)])
      go_wp2
      go_ret
      exact ⟨ret_i (by rw [hfin.out]), rfl⟩
theorem checksum_own (s : ByteArray) (w : World) (hs : s.size ≤ 1000000) : Calls Tryz.prog 29 #[.string s] w fun e w' => e = .returned (.string ⟨(K3.byL (K3.sumL s.data.toList)).toArray⟩) ∧ Below w.heap.size w w' := by
  have cS : ∀ W : World, Calls Tryz.prog 69 #[.slice (some ⟨W.heap.size, 0, none⟩) 1 1] (W.alloc (.cells #[.string s] 9)) fun e w' => e = .returned (.int .u32 ((K3.sumL s.data.toList).toNat : Int)) ∧ Below W.heap.size W w' := fun W => by
    have h := K3.sum_any (some ⟨W.heap.size, 0, none⟩) 1 [s.data.toList] (W.alloc (.cells #[.string s] 9)) (by simpa using hs) (by simp) (by simp) (by decide) (rd_one W 9 s)
    rw [show K3.joinL [s.data.toList] = s.data.toList by simp [K3.joinL]] at h
    exact h.mono fun e w' ⟨a, b⟩ => ⟨a, b ▸ (Below.refl _ _).alloc (Nat.le_refl _) _⟩
  have cB := fun W => K3.bytes_any (K3.sumL s.data.toList) W
  obtain ⟨Q, hQ⟩ : ∃ Q, (⟨(K3.byL (K3.sumL s.data.toList)).toArray⟩ : ByteArray) = Q := ⟨_, rfl⟩
  obtain ⟨K, hK⟩ : ∃ K, K3.sumL s.data.toList = K := ⟨_, rfl⟩
  rw [hK] at cS cB hQ
  rw [hK, hQ]
  rw [hQ] at cB
  replace cS := Lib.hid cS
  replace cB := Lib.hid cB
  clear hQ hK
  go_enter Tryz.func29, Tryz.ntmps29
  go_wp2_with fail
  refine (cS.out _).mono ?_
  rintro e w1 ⟨rfl, hb1⟩
  go_wp2_with fail
  refine (cB.out _).mono ?_
  rintro e w2 ⟨rfl, hb2⟩
  go_wp2
  go_ret
  exact ⟨rfl, chain hb1 hb2⟩
end Go.Proofs.YtgpdfkallgjocaaGreatDoor.F13
namespace Go.Proofs.YtgpdfkallgjocaaGreatDoor.F13
set_option maxRecDepth 100000
open Go.RowKit Mem
set_option linter.unusedVariables false
set_option linter.unusedSimpArgs false

theorem num_int (n : Int) (m : Nat) (w : World) (h0 : 0 ≤ n) (hn : n ≤ 4294967295) (hm : m ≤ 4) : Calls Tryz.prog 67 #[.int .i64 n, .int .i64 (m : Int)] w fun e w' => e = .returned (.string (nbS n.toNat m)) ∧ Below w.heap.size w w' := by
  have := number_own n.toNat m w (by omega) hm
  rwa [Int.toNat_of_nonneg h0] at this
theorem nbS_size (n m : Nat) : (nbS n m).size = m := nbl_len n m m
theorem nbS_list (n m : Nat) : (nbS n m).data.toList = nbl n m m := rfl
set_option maxHeartbeats 8000000 in
theorem header_own (f : Fr) (w : World) (h : Valid f) :
    Calls Tryz.prog 28 #[f.val] w fun e w' => e = .returned (.string ⟨(hdL f).toArray⟩) ∧ Below w.heap.size w w' := by
  have hparts := hd_parts h
  have h1 := h.kind
  have h2 := h.data
  have h3 := h.spare
  have h4 := h.reel
  have h5 := h.sess
  have h6 := h.idx
  have h7 := h.len
  obtain ⟨kind, reel, sess, idx, len, data, spare, arch, pay⟩ := f
  obtain ⟨l, hl⟩ : ∃ l, hdL (Fr.mk kind reel sess idx len data spare arch pay) = l := ⟨_, rfl⟩
  rw [hl] at hparts ⊢
  dsimp only at *
  have hx := arch.isLt
  have c0 := fun W => num_int kind 1 W (by omega) (by omega) (by decide)
  have c1 := fun W => num_int reel 1 W (by omega) (by omega) (by decide)
  have c2 := fun W => num_int sess 2 W (by omega) (by omega) (by decide)
  have c3 := fun W => num_int idx 2 W (by omega) (by omega) (by decide)
  have c4 := fun W => num_int len 1 W (by omega) (by omega) (by decide)
  have c5 := fun W => num_int (16 * data + spare) 1 W (by omega) (by omega) (by decide)
  have c6 := fun W => num_int (arch.toNat : Int) 4 W (by omega) (by omega) (by decide)
  rw [Int.toNat_natCast] at c6
  have z0 := nbS_size kind.toNat 1
  have z1 := nbS_size reel.toNat 1
  have z2 := nbS_size sess.toNat 2
  have z3 := nbS_size idx.toNat 2
  have z4 := nbS_size len.toNat 1
  have z5 := nbS_size (16 * data + spare).toNat 1
  have z6 := nbS_size arch.toNat 4
  have hsum : nbS kind.toNat 1 ++ nbS reel.toNat 1 ++ nbS sess.toNat 2 ++ nbS idx.toNat 2 ++ nbS len.toNat 1 ++ nbS (16 * data + spare).toNat 1 ++ nbS arch.toNat 4 = ⟨l.toArray⟩ := str_eq (by
    simp only [app_list, nbS_list]
    exact hparts)
  have m1 : ((1 : Nat) : Int) = 1 := rfl
  have m2 : ((2 : Nat) : Int) = 2 := rfl
  have m4 : ((4 : Nat) : Int) = 4 := rfl
  rw [m1] at c0 c1 c4 c5
  rw [m2] at c2 c3
  rw [m4] at c6
  obtain ⟨ly, hly⟩ : ∃ ly, 16 * data + spare = ly := ⟨_, rfl⟩
  rw [hly] at c5 z5 hsum
  obtain ⟨s0, e0⟩ : ∃ s, nbS kind.toNat 1 = s := ⟨_, rfl⟩
  obtain ⟨s1, e1⟩ : ∃ s, nbS reel.toNat 1 = s := ⟨_, rfl⟩
  obtain ⟨s2, e2⟩ : ∃ s, nbS sess.toNat 2 = s := ⟨_, rfl⟩
  obtain ⟨s3, e3⟩ : ∃ s, nbS idx.toNat 2 = s := ⟨_, rfl⟩
  obtain ⟨s4, e4⟩ : ∃ s, nbS len.toNat 1 = s := ⟨_, rfl⟩
  obtain ⟨s5, e5⟩ : ∃ s, nbS ly.toNat 1 = s := ⟨_, rfl⟩
  obtain ⟨s6, e6⟩ : ∃ s, nbS arch.toNat 4 = s := ⟨_, rfl⟩
  rw [e0] at c0 z0 hsum
  rw [e1] at c1 z1 hsum
  rw [e2] at c2 z2 hsum
  rw [e3] at c3 z3 hsum
  rw [e4] at c4 z4 hsum
  rw [e5] at c5 z5 hsum
  rw [e6] at c6 z6 hsum
  obtain ⟨p1, f1⟩ : ∃ p, s0 ++ s1 = p := ⟨_, rfl⟩
  have y1 : p1.size = 2 := by rw [← f1, ByteArray.size_append]; omega
  rw [f1] at hsum
  obtain ⟨p2, f2⟩ : ∃ p, p1 ++ s2 = p := ⟨_, rfl⟩
  have y2 : p2.size = 4 := by rw [← f2, ByteArray.size_append]; omega
  rw [f2] at hsum
  obtain ⟨p3, f3⟩ : ∃ p, p2 ++ s3 = p := ⟨_, rfl⟩
  have y3 : p3.size = 6 := by rw [← f3, ByteArray.size_append]; omega
  rw [f3] at hsum
  obtain ⟨p4, f4⟩ : ∃ p, p3 ++ s4 = p := ⟨_, rfl⟩
  have y4 : p4.size = 7 := by rw [← f4, ByteArray.size_append]; omega
  rw [f4] at hsum
  obtain ⟨p5, f5⟩ : ∃ p, p4 ++ s5 = p := ⟨_, rfl⟩
  have y5 : p5.size = 8 := by rw [← f5, ByteArray.size_append]; omega
  rw [f5] at hsum
  obtain ⟨S, hS⟩ : ∃ S : ByteArray, ⟨l.toArray⟩ = S := ⟨_, rfl⟩
  rw [hS] at hsum ⊢
  obtain ⟨X, hX⟩ : ∃ X, arch.toNat = X := ⟨_, rfl⟩
  rw [hX] at hx c6
  have r1 : ∀ W, (Op.stringOp .add s0 s1).run Tryz.prog W = .ok (.string p1) W := fun W => by rw [← f1]; exact Go.run_string_add_sum _ _ _ (by omega)
  have r2 : ∀ W, (Op.stringOp .add p1 s2).run Tryz.prog W = .ok (.string p2) W := fun W => by rw [← f2]; exact Go.run_string_add_sum _ _ _ (by omega)
  have r3 : ∀ W, (Op.stringOp .add p2 s3).run Tryz.prog W = .ok (.string p3) W := fun W => by rw [← f3]; exact Go.run_string_add_sum _ _ _ (by omega)
  have r4 : ∀ W, (Op.stringOp .add p3 s4).run Tryz.prog W = .ok (.string p4) W := fun W => by rw [← f4]; exact Go.run_string_add_sum _ _ _ (by omega)
  have r5 : ∀ W, (Op.stringOp .add p4 s5).run Tryz.prog W = .ok (.string p5) W := fun W => by rw [← f5]; exact Go.run_string_add_sum _ _ _ (by omega)
  have r6 : ∀ W, (Op.stringOp .add p5 s6).run Tryz.prog W = .ok (.string S) W := fun W => by rw [← hsum]; exact Go.run_string_add_sum _ _ _ (by omega)
  have ly1 : 0 ≤ ly ∧ ly ≤ 255 := by omega
  unfold Fr.val Fr.cells
  dsimp only
  rw [hX]
  have hb0 : Below w.heap.size w (w.alloc (.cells #[.int .i64 kind, .int .i64 reel, .int .i64 sess, .int .i64 idx, .int .i64 len, .int .i64 data, .int .i64 spare, .int .u32 (X : Int), .string pay] 26)) := (Below.refl _ _).alloc (Nat.le_refl _) _
  have hvB : VAt (w.alloc (.cells #[.int .i64 kind, .int .i64 reel, .int .i64 sess, .int .i64 idx, .int .i64 len, .int .i64 data, .int .i64 spare, .int .u32 (X : Int), .string pay] 26)) w.heap.size [.int .i64 kind, .int .i64 reel, .int .i64 sess, .int .i64 idx, .int .i64 len, .int .i64 data, .int .i64 spare, .int .u32 (X : Int), .string pay] := vat_alloc w _ [.int .i64 kind, .int .i64 reel, .int .i64 sess, .int .i64 idx, .int .i64 len, .int .i64 data, .int .i64 spare, .int .u32 (X : Int), .string pay]
  have hsB : w.heap.size < (w.alloc (.cells #[.int .i64 kind, .int .i64 reel, .int .i64 sess, .int .i64 idx, .int .i64 len, .int .i64 data, .int .i64 spare, .int .u32 (X : Int), .string pay] 26)).heap.size := by simp
  have hx1 : (X : Int) < 4294967296 := by omega
  have wx : IntKind.i64.wrap (X : Int) = (X : Int) := IntWalk.i64_in _ (by omega)
  replace c0 := Lib.hid c0
  replace c1 := Lib.hid c1
  replace c2 := Lib.hid c2
  replace c3 := Lib.hid c3
  replace c4 := Lib.hid c4
  replace c5 := Lib.hid c5
  replace c6 := Lib.hid c6
  clear e0 e1 e2 e3 e4 e5 e6 f1 f2 f3 f4 f5 hS hsum hparts hl h hX z0 z1 z2 z3 z4 z5 z6 y1 y2 y3 y4 y5 h1 h4 h5 h6 h7
  go_enter Tryz.func28, Tryz.ntmps28
  go_wp2_with fail
  obtain ⟨W0, hW0⟩ : ∃ W0, w.alloc (.cells #[.int .i64 kind, .int .i64 reel, .int .i64 sess, .int .i64 idx, .int .i64 len, .int .i64 data, .int .i64 spare, .int .u32 (X : Int), .string pay] 26) = W0 := ⟨_, rfl⟩
  rw [hW0] at hb0 hvB hsB ⊢
  have rule := fun (W : World) (h : Below W0.heap.size W0 W) => cells9 (hvB.below h hsB)
  have l0 := fun W h => (rule W h).c0
  have l1 := fun W h => (rule W h).c1
  have l2 := fun W h => (rule W h).c2
  have l3 := fun W h => (rule W h).c3
  have l4 := fun W h => (rule W h).c4
  have l7 := fun W h => (rule W h).c7
  have keep0 := Below.refl W0.heap.size W0
  have keep1 : ∀ W, Below W0.heap.size W0 W → Below W0.heap.size W0 (World.drew W) := fun W h => chainN h 1
  clear rule hvB hsB hW0
  go_region_held3 (fun W => Below W0.heap.size W0 W) (first | exact keep0 | exact keep1 _ keep0 | exact chain ‹_› ‹_› | assumption) (first | (go_at_call 67; (first | (with_reducible refine (c0.out _).mono ?_) | (with_reducible refine (c1.out _).mono ?_) | (with_reducible refine (c2.out _).mono ?_) | (with_reducible refine (c3.out _).mono ?_) | (with_reducible refine (c4.out _).mono ?_) | (with_reducible refine (c5.out _).mono ?_) | (with_reducible refine (c6.out _).mono ?_)); rintro e w9 ⟨rfl, hb9⟩))
  go_wp2
  go_ret
  exact ⟨rfl, chain hb0 (by assumption)⟩
set_option maxHeartbeats 4000000 in
theorem marshal_own (f : Fr) (w : World) (hf : Fit f) :
    Calls Tryz.prog 12 #[f.val] w fun e w' => e = .returned (.tuple #[.string (mS f), .int .i64 (ckE f)]) ∧ Below w.heap.size w w' := by
  have cC := Lib.hid (fun W => check_own f W hf)
  have hb0 : Below w.heap.size w (w.alloc (.cells f.cells 26)) := (Below.refl _ _).alloc (Nat.le_refl _) _
  by_cases h0 : ckE f = 0
  · rw [mS_ok h0]
    rw [h0] at cC ⊢
    have hv := (valid_iff f).1 h0
    have cH := fun W => header_own f W hv
    obtain ⟨hd, hhd⟩ : ∃ hd, (⟨(hdL f).toArray⟩ : ByteArray) = hd := ⟨_, rfl⟩
    rw [hhd] at cH
    replace cH := Lib.hid cH
    have hds : hd.size = 12 := by rw [← hhd]; rfl
    have hbl : (hd ++ f.pay).data.toList = bodyL f := by rw [app_list, ← hhd]; rfl
    have hbs : (hd ++ f.pay).size = 40 := by rw [← bodyL_len hv, ← hbl]; simp
    have cS := fun W => checksum_own (hd ++ f.pay) W (by omega)
    rw [hbl] at cS
    have hms : (hd ++ f.pay) ++ (⟨(K3.byL (K3.sumL (bodyL f))).toArray⟩ : ByteArray) = ⟨(msgL f).toArray⟩ := str_eq (by rw [app_list, hbl]; rfl)
    have hcs : (⟨(K3.byL (K3.sumL (bodyL f))).toArray⟩ : ByteArray).size = 4 := rfl
    obtain ⟨Q, hQ⟩ : ∃ Q, (⟨(K3.byL (K3.sumL (bodyL f))).toArray⟩ : ByteArray) = Q := ⟨_, rfl⟩
    obtain ⟨M, hM⟩ : ∃ M, (⟨(msgL f).toArray⟩ : ByteArray) = M := ⟨_, rfl⟩
    rw [hQ] at cS hms hcs
    rw [hM] at hms ⊢
    replace cS := Lib.hid cS
    obtain ⟨B, hB⟩ : ∃ B, hd ++ f.pay = B := ⟨_, rfl⟩
    rw [hB] at cS hms hbs
    have hsp := hv.size
    have s1 : (hd.size : Int) ≤ 12 := by omega
    have s2 : (f.pay.size : Int) ≤ 28 := by omega
    have s3 : (B.size : Int) ≤ 40 := by omega
    have s5 : ¬ 9223372036854775807 < hd.size + f.pay.size := by omega
    have s6 : ¬ 9223372036854775807 < B.size + Q.size := by omega
    have s4 : (Q.size : Int) ≤ 4 := by omega
    clear hQ hM hbl hds hbs hcs h0 hhd hf hv hsp
    have hbox := fun (i : Nat) (v : Value) (h : f.cells[i]? = some v) => (show (w.alloc (.cells f.cells 26)).cell? ⟨w.heap.size, i, none⟩ = some v by rw [World.cell?_alloc_new]; exact h)
    have hsz0 : w.heap.size < (w.alloc (.cells f.cells 26)).heap.size := by simp
    obtain ⟨kind, reel, sess, idx, len, data, spare, arch, pay⟩ := f
    unfold Fr.val at *
    dsimp only at *
    unfold Fr.cells at *
    dsimp only at *
    go_enter Tryz.func12, Tryz.ntmps12
    go_wp2_with fail
    refine (cC.out _).mono ?_
    rintro e w1 ⟨rfl, hb1⟩
    have cell := fun (i : Nat) (v : Value) h (W : World) (k : Below w1.heap.size w1 W) => (k.cell (p := ⟨w.heap.size, i, none⟩) (Nat.lt_of_lt_of_le hsz0 hb1.size)).trans ((hb1.cell (p := ⟨w.heap.size, i, none⟩) hsz0).trans (hbox i v h))
    have l0 := cell 0 _ rfl
    have l1 := cell 1 _ rfl
    have l2 := cell 2 _ rfl
    have l3 := cell 3 _ rfl
    have l4 := cell 4 _ rfl
    have l5 := cell 5 _ rfl
    have l6 := cell 6 _ rfl
    have l7 := cell 7 _ rfl
    have l8 := cell 8 _ rfl
    have hbw := chain hb0 hb1
    have keep0 := Below.refl w1.heap.size w1
    have keep1 : ∀ W, Below w1.heap.size w1 W → Below w1.heap.size w1 (World.drew W) := fun W h => chainN h 1
    clear cell hbox hsz0 hb1 hb0
    go_wp2_with fail
    go_region_held3 (fun W => Below w1.heap.size w1 W) (first | exact keep0 | exact keep1 _ keep0 | exact chain ‹_› ‹_› | assumption) (first | (go_at_call 28; (with_reducible refine (cH.out _).mono ?_); rintro e w9 ⟨rfl, hb9⟩))
    go_wp2_with fail
    refine (cS.out _).mono ?_
    rintro e w2 ⟨rfl, hb2⟩
    go_wp2
    go_ret2
    exact ⟨rfl, chain hbw (chain (by assumption) hb2)⟩
  · rw [mS_no h0]
    obtain ⟨k, hk⟩ : ∃ k, ckE f = k := ⟨_, rfl⟩
    rw [hk] at cC h0 ⊢
    have d1 : (k != 0) = true := bne_iff_ne.2 h0
    obtain ⟨kind, reel, sess, idx, len, data, spare, arch, pay⟩ := f
    unfold Fr.val Fr.cells at *
    dsimp only at *
    clear hk h0 hf
    go_enter Tryz.func12, Tryz.ntmps12
    go_wp2_with fail
    refine (cC.out _).mono ?_
    rintro e w1 ⟨rfl, hB⟩
    go_wp2
    go_ret2
    exact ⟨rfl, chain hb0 hB⟩
end Go.Proofs.YtgpdfkallgjocaaGreatDoor.F13
