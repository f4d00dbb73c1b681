/- Facts and contracts that the walks of this layer use, merged: F13Math, F13Open, F13Num, F13Fit. -/
import Derived.Test.YtgpdfkallgjocaaGreatDoorM13AA
import Derived.Test.YtgpdfkallgjocaaGreatDoorM13AB
import Derived.Test.YtgpdfkallgjocaaGreatDoorRows
import Derived.OpenShut
import Derived.WalkKit
import Derived.ProofKit
import Derived.ChangeSame
import Derived.WalkSpells
import Derived.WalkLawsBesides
import Derived.BigQuiet
import Derived.Deep.QuietTactic
import Derived.DataShut
import Derived.Lib.TrimByte
namespace Go.Proofs.YtgpdfkallgjocaaGreatDoor.F13
open Go.RowKit Mem
set_option linter.unusedVariables false
set_option linter.unusedSimpArgs false

structure Fr where
  kind : Int
  reel : Int
  sess : Int
  idx : Int
  len : Int
  data : Int
  spare : Int
  arch : K3.R
  pay : ByteArray
def zeroF : Fr := ⟨0, 0, 0, 0, 0, 0, 0, 0#32, ⟨#[]⟩⟩
def Fr.cells (f : Fr) : Array Value := #[.int .i64 f.kind, .int .i64 f.reel, .int .i64 f.sess, .int .i64 f.idx, .int .i64 f.len, .int .i64 f.data, .int .i64 f.spare, .int .u32 (f.arch.toNat : Int), .string f.pay]
def Fr.val (f : Fr) : Value := .agg f.cells
def kdB (f : Fr) : Bool := (f.kind != 66) && (f.kind != 68)
def rgB (f : Fr) : Bool := decide (f.data < 1) || decide (8 < f.data) || decide (f.spare < 0) || decide (7 < f.spare) || decide (f.reel < 0) || decide (f.data + f.spare ≤ f.reel) || decide (f.sess < 1) || decide (255 < f.sess) || decide (f.idx < 0) || decide (65535 < f.idx) || decide (f.len < 0) || decide (28 < f.len)
def zerosB (l : List UInt8) : Bool := l.all (· == 0)
def pyB (f : Fr) : Bool := (f.pay.size != 28) || !(zerosB (f.pay.data.toList.drop f.len.toNat))
def ckE (f : Fr) : Int := if kdB f then 10 else if rgB f then 2 else if pyB f then 1 else 0
structure Valid (f : Fr) : Prop where
  kind : f.kind = 66 ∨ f.kind = 68
  data : 1 ≤ f.data ∧ f.data ≤ 8
  spare : 0 ≤ f.spare ∧ f.spare ≤ 7
  reel : 0 ≤ f.reel ∧ f.reel < f.data + f.spare
  sess : 1 ≤ f.sess ∧ f.sess ≤ 255
  idx : 0 ≤ f.idx ∧ f.idx ≤ 65535
  len : 0 ≤ f.len ∧ f.len ≤ 28
  size : f.pay.size = 28
  rest : zerosB (f.pay.data.toList.drop f.len.toNat) = true
theorem valid_iff (f : Fr) : ckE f = 0 ↔ Valid f := by
  unfold ckE
  constructor
  · intro h
    by_cases h1 : kdB f = true
    · rw [if_pos h1] at h
      cases h
    · rw [if_neg h1] at h
      by_cases h2 : rgB f = true
      · rw [if_pos h2] at h
        cases h
      · rw [if_neg h2] at h
        by_cases h3 : pyB f = true
        · rw [if_pos h3] at h
          cases h
        · unfold kdB at h1
          unfold rgB at h2
          unfold pyB at h3
          simp only [Bool.or_eq_true, Bool.and_eq_true, Bool.not_eq_true', decide_eq_true_eq, bne_iff_ne, not_or, Bool.not_eq_false] at h1 h2 h3
          exact ⟨by omega, by omega, by omega, by omega, by omega, by omega, by omega, Decidable.not_not.1 h3.1, h3.2⟩
  · intro h
    have h1 : ¬ kdB f = true := by
      unfold kdB
      simp only [Bool.and_eq_true, bne_iff_ne]
      have := h.kind
      omega
    have h2 : ¬ rgB f = true := by
      unfold rgB
      simp only [Bool.or_eq_true, decide_eq_true_eq]
      have := h.data
      have := h.spare
      have := h.reel
      have := h.sess
      have := h.idx
      have := h.len
      omega
    have h3 : ¬ pyB f = true := by
      unfold pyB
      rw [h.rest, h.size]
      decide
    rw [if_neg h1, if_neg h2, if_neg h3]
/-! ### messages -/
def u8 (n : Int) : UInt8 := UInt8.ofNat n.toNat
theorem u8_val {n : Int} (h1 : 0 ≤ n) (h2 : n < 256) : ((u8 n).toNat : Int) = n := by
  unfold u8
  rw [UInt8.toNat_ofNat']
  omega
def hdL (f : Fr) : List UInt8 := [u8 f.kind, u8 f.reel, u8 (f.sess / 256), u8 (f.sess % 256), u8 (f.idx / 256), u8 (f.idx % 256), u8 f.len, u8 (16 * f.data + f.spare)] ++ K3.byL f.arch
def bodyL (f : Fr) : List UInt8 := hdL f ++ f.pay.data.toList
def msgL (f : Fr) : List UInt8 := bodyL f ++ K3.byL (K3.sumL (bodyL f))
theorem hdL_len (f : Fr) : (hdL f).length = 12 := rfl
theorem bodyL_len {f : Fr} (h : Valid f) : (bodyL f).length = 40 := by
  unfold bodyL
  rw [List.length_append, hdL_len]
  have := h.size
  have : f.pay.data.toList.length = f.pay.size := by simp
  omega
theorem msgL_len {f : Fr} (h : Valid f) : (msgL f).length = 44 := by
  unfold msgL
  rw [List.length_append, bodyL_len h]
  rfl
def bt (b : List UInt8) (i : Nat) : Int := ((b.getD i 0).toNat : Int)
def frOf (b : List UInt8) : Fr :=
  ⟨bt b 0, bt b 1, 256 * bt b 2 + bt b 3, 256 * bt b 4 + bt b 5, bt b 6, bt b 7 / 16, bt b 7 % 16, BitVec.ofInt 32 (((bt b 8 * 256 + bt b 9) * 256 + bt b 10) * 256 + bt b 11), ⟨((b.drop 12).take 28).toArray⟩⟩
def unE (b : List UInt8) : Int := if b.length ≠ 44 then 4 else if K3.byL (K3.sumL (b.take 40)) ≠ b.drop 40 then 5 else ckE (frOf b)
def unF (b : List UInt8) : Fr := if unE b = 0 then frOf b else zeroF
theorem bt_app {l m : List UInt8} {i : Nat} (h : i < l.length) : bt (l ++ m) i = bt l i := by
  unfold bt
  rw [List.getD_eq_getElem?_getD, List.getD_eq_getElem?_getD, List.getElem?_append_left h]
theorem drop_bodyL (f : Fr) : (bodyL f).drop 12 = f.pay.data.toList := by
  unfold bodyL
  rw [List.drop_left' (hdL_len f)]
theorem arch_back (x : K3.R) : BitVec.ofInt 32 (((((K3.nb x 24).toNat : Int) * 256 + ((K3.nb x 16).toNat : Int)) * 256 + ((K3.nb x 8).toNat : Int)) * 256 + ((K3.nb x 0).toNat : Int)) = x := by
  have hx := x.isLt
  have e : ((((K3.nb x 24).toNat : Int) * 256 + ((K3.nb x 16).toNat : Int)) * 256 + ((K3.nb x 8).toNat : Int)) * 256 + ((K3.nb x 0).toNat : Int) = (x.toNat : Int) := by
    rw [K3.nb_toNat, K3.nb_toNat, K3.nb_toNat, K3.nb_toNat]
    omega
  rw [e]
  apply BitVec.eq_of_toNat_eq
  rw [BitVec.toNat_ofInt]
  omega
theorem frOf_msg {f : Fr} (h : Valid f) : frOf (msgL f) = f := by
  have hl := bodyL_len h
  have hg : ∀ i, i < 12 → bt (msgL f) i = bt (hdL f) i := fun i hi => by
    unfold msgL
    rw [bt_app (by omega)]
    unfold bodyL
    rw [bt_app (by rw [hdL_len]; exact hi)]
  have h1 := h.kind
  have h2 := h.data
  have h3 := h.spare
  have h4 := h.reel
  have h5 := h.sess
  have h6 := h.idx
  have h7 := h.len
  have g0 : bt (hdL f) 0 = f.kind := u8_val (by omega) (by omega)
  have g1 : bt (hdL f) 1 = f.reel := u8_val (by omega) (by omega)
  have g2 : bt (hdL f) 2 = f.sess / 256 := u8_val (by omega) (by omega)
  have g3 : bt (hdL f) 3 = f.sess % 256 := u8_val (by omega) (by omega)
  have g4 : bt (hdL f) 4 = f.idx / 256 := u8_val (by omega) (by omega)
  have g5 : bt (hdL f) 5 = f.idx % 256 := u8_val (by omega) (by omega)
  have g6 : bt (hdL f) 6 = f.len := u8_val (by omega) (by omega)
  have g7 : bt (hdL f) 7 = 16 * f.data + f.spare := u8_val (by omega) (by omega)
  have ga : BitVec.ofInt 32 (((bt (hdL f) 8 * 256 + bt (hdL f) 9) * 256 + bt (hdL f) 10) * 256 + bt (hdL f) 11) = f.arch := arch_back f.arch
  have gp : ((msgL f).drop 12).take 28 = f.pay.data.toList := by
    unfold msgL
    rw [List.drop_append_of_le_length (by omega), drop_bodyL]
    have hs : f.pay.data.toList.length = 28 := by have := h.size; simpa using this
    rw [List.take_append_of_le_length (by omega), List.take_of_length_le (by omega)]
  unfold frOf
  rw [hg 0 (by decide), hg 1 (by decide), hg 2 (by decide), hg 3 (by decide), hg 4 (by decide), hg 5 (by decide), hg 6 (by decide), hg 7 (by decide), hg 8 (by decide), hg 9 (by decide), hg 10 (by decide), hg 11 (by decide), g0, g1, g2, g3, g4, g5, g6, g7, ga, gp]
  have e1 : 256 * (f.sess / 256) + f.sess % 256 = f.sess := by omega
  have e2 : 256 * (f.idx / 256) + f.idx % 256 = f.idx := by omega
  have e3 : (16 * f.data + f.spare) / 16 = f.data := by omega
  have e4 : (16 * f.data + f.spare) % 16 = f.spare := by omega
  rw [e1, e2, e3, e4]
theorem unE_msg {f : Fr} (h : Valid f) : unE (msgL f) = 0 := by
  have hl := bodyL_len h
  unfold unE
  rw [if_neg (by rw [msgL_len h]; decide), if_neg, frOf_msg h]
  · exact (valid_iff f).2 h
  · unfold msgL
    rw [List.take_left' hl, List.drop_left' hl]
    exact fun h => h rfl
theorem unF_msg {f : Fr} (h : Valid f) : unF (msgL f) = f := by
  unfold unF
  rw [if_pos (unE_msg h), frOf_msg h]
end Go.Proofs.YtgpdfkallgjocaaGreatDoor.F13
namespace Go.Proofs.YtgpdfkallgjocaaGreatDoor.F13
set_option maxRecDepth 100000
open Go.RowKit Mem Go.ChangeShapes Go.WideShapes Go.ChangeAt
set_option linter.unusedVariables false
set_option linter.unusedSimpArgs false

def u32V (n : Int) : K3.R := BitVec.ofInt 32 n
theorem u32_back {n : Int} (h : (Lit.int .u32 n).wf = true) : ((u32V n).toNat : Int) = n := by
  obtain ⟨h1, h2⟩ : 0 ≤ n ∧ n ≤ 4294967295 := (Lit.wf_int_iff .u32 _).1 h
  unfold u32V
  rw [BitVec.toNat_ofInt]
  omega
structure FitB (f : Fr) : Prop where
  kind : (Lit.int .i64 f.kind).wf = true
  reel : (Lit.int .i64 f.reel).wf = true
  sess : (Lit.int .i64 f.sess).wf = true
  idx : (Lit.int .i64 f.idx).wf = true
  len : (Lit.int .i64 f.len).wf = true
  data : (Lit.int .i64 f.data).wf = true
  spare : (Lit.int .i64 f.spare).wf = true
  arch : (Lit.int .u32 (f.arch.toNat : Int)).wf = true
  size : f.pay.size ≤ maxLen
theorem cells_frame : Tryz.prog.cellsOf 26 = 9 := by kernel_rfl
theorem cells_int : Tryz.prog.cellsOf 3 = 1 := by kernel_rfl
theorem cells_layout : Tryz.prog.cellsOf 23 = 2 := by kernel_rfl
theorem cells_u32 : Tryz.prog.cellsOf 24 = 1 := by kernel_rfl
theorem cells_str : Tryz.prog.cellsOf 9 = 1 := by kernel_rfl

section
variable {H : Type} {enc : TypeId × Value → H} {w : World} {base : Nat} {spare : Nat → Bool} {held : Bool} {r : Reach} {b0 : Nat}
def frD (f : Fr) : DataW H := .agg [.lit (.int .i64 f.kind), .lit (.int .i64 f.reel), .lit (.int .i64 f.sess), .lit (.int .i64 f.idx), .lit (.int .i64 f.len), .agg [.lit (.int .i64 f.data), .lit (.int .i64 f.spare)], .lit (.int .u32 (f.arch.toNat : Int)), .lit (.string f.pay.data.toList)]
theorem nine_cells (cs : Array Value) (h : cs.size = 9) : ∃ c0 c1 c2 c3 c4 c5 c6 c7 c8, cs.toList = [c0, c1, c2, c3, c4, c5, c6, c7, c8] := by
  have hl : cs.toList.length = 9 := by simpa using h
  match hc : cs.toList, hl with
  | [c0, c1, c2, c3, c4, c5, c6, c7, c8], _ => exact ⟨_, _, _, _, _, _, _, _, _, rfl⟩
theorem open_frame {v : Value} {d : DataW H} {ps : List MemPlace} (hval : Value.okWide Tryz.prog w r b0 26 v) (hd : DataW.Trod enc Tryz.prog w base spare held 26 v d ps) :
    ∃ f : Fr, FitB f ∧ v = f.val ∧ d = frD f ∧ ps = [] := by
  unfold Value.okWide at hval
  rw [Tryz.underlying26] at hval
  obtain ⟨cs, rfl, hsz, _⟩ := hval
  rw [cells_frame] at hsz
  obtain ⟨c0, c1, c2, c3, c4, c5, c6, c7, c8, hcs⟩ := nine_cells cs hsz
  obtain ⟨fuel, hf⟩ := hd
  have hcl : (Value.agg cs).cells.toList = cs.toList := rfl
  rw [hcl, hcs] at hf
  obtain ⟨xs, n, _, hx, _, hlen, hel⟩ := DataW.trod_struct Tryz.underlying26 hf
  simp only [Prod.mk.injEq] at hx
  obtain ⟨rfl, rfl⟩ := hx
  match xs, hlen with
  | [y0, y1, y2, y3, y4, y5, y6, y7], _ =>
    have e0 : DataW.trod enc Tryz.prog w base spare held n 3 (([c0, c1, c2, c3, c4, c5, c6, c7, c8].drop 0).take (Tryz.prog.cellsOf 3)) = some y0 := hel 0 _ rfl
    have e1 : DataW.trod enc Tryz.prog w base spare held n 3 (([c0, c1, c2, c3, c4, c5, c6, c7, c8].drop 1).take (Tryz.prog.cellsOf 3)) = some y1 := hel 1 _ rfl
    have e2 : DataW.trod enc Tryz.prog w base spare held n 3 (([c0, c1, c2, c3, c4, c5, c6, c7, c8].drop 2).take (Tryz.prog.cellsOf 3)) = some y2 := hel 2 _ rfl
    have e3 : DataW.trod enc Tryz.prog w base spare held n 3 (([c0, c1, c2, c3, c4, c5, c6, c7, c8].drop 3).take (Tryz.prog.cellsOf 3)) = some y3 := hel 3 _ rfl
    have e4 : DataW.trod enc Tryz.prog w base spare held n 3 (([c0, c1, c2, c3, c4, c5, c6, c7, c8].drop 4).take (Tryz.prog.cellsOf 3)) = some y4 := hel 4 _ rfl
    have e5 : DataW.trod enc Tryz.prog w base spare held n 23 (([c0, c1, c2, c3, c4, c5, c6, c7, c8].drop 5).take (Tryz.prog.cellsOf 23)) = some y5 := hel 5 _ rfl
    have e6 : DataW.trod enc Tryz.prog w base spare held n 24 (([c0, c1, c2, c3, c4, c5, c6, c7, c8].drop 7).take (Tryz.prog.cellsOf 24)) = some y6 := hel 6 _ rfl
    have e7 : DataW.trod enc Tryz.prog w base spare held n 9 (([c0, c1, c2, c3, c4, c5, c6, c7, c8].drop 8).take (Tryz.prog.cellsOf 9)) = some y7 := hel 7 _ rfl
    simp only [cells_int, cells_layout, cells_u32, cells_str, List.drop_zero, List.drop_succ_cons, List.take_succ_cons, List.take_zero] at e0 e1 e2 e3 e4 e5 e6 e7
    obtain ⟨m0, h0, rfl, w0⟩ := DataW.trod_int Tryz.underlying3 e0
    obtain ⟨m1, h1, rfl, w1⟩ := DataW.trod_int Tryz.underlying3 e1
    obtain ⟨m2, h2, rfl, w2⟩ := DataW.trod_int Tryz.underlying3 e2
    obtain ⟨m3, h3, rfl, w3⟩ := DataW.trod_int Tryz.underlying3 e3
    obtain ⟨m4, h4, rfl, w4⟩ := DataW.trod_int Tryz.underlying3 e4
    obtain ⟨z0, z1, n5, rfl, _, e50', e51'⟩ := trod_struct2 Tryz.underlying23 e5
    have e50 : DataW.trod enc Tryz.prog w base spare held n5 3 (([c5, c6].drop 0).take (Tryz.prog.cellsOf 3)) = some z0 := e50'
    have e51 : DataW.trod enc Tryz.prog w base spare held n5 3 (([c5, c6].drop 1).take (Tryz.prog.cellsOf 3)) = some z1 := e51'
    simp only [cells_int, List.drop_zero, List.drop_succ_cons, List.take_succ_cons, List.take_zero] at e50 e51
    obtain ⟨m5, h5, rfl, w5⟩ := DataW.trod_int Tryz.underlying3 e50
    obtain ⟨m6, h6, rfl, w6⟩ := DataW.trod_int Tryz.underlying3 e51
    obtain ⟨m7, h7, rfl, w7⟩ := DataW.trod_int Tryz.underlying24 e6
    obtain ⟨s, h8, rfl, w8⟩ := DataW.trod_string Tryz.underlying9 e7
    injection h0 with h0 _
    injection h1 with h1 _
    injection h2 with h2 _
    injection h3 with h3 _
    injection h4 with h4 _
    injection h5 with h5 _
    injection h6 with h6 _
    injection h7 with h7 _
    injection h8 with h8 _
    subst h0 h1 h2 h3 h4 h5 h6 h7 h8
    have hb := u32_back w7
    refine ⟨⟨m0, m1, m2, m3, m4, m5, m6, u32V m7, s⟩, ⟨w0, w1, w2, w3, w4, w5, w6, by rw [hb]; exact w7, w8⟩, ?_, ?_, ?_⟩
    · unfold Fr.val Fr.cells
      rw [hb]
      congr 1
      apply Array.toList_inj.1
      rw [hcs]
    · unfold frD
      rw [hb]
      rfl
    · rfl
theorem shut_frame {f : Fr} (h : FitB f) : DataW.Trod enc Tryz.prog w base spare held 26 f.val (frD f) [] := by
  obtain ⟨h0, h1, h2, h3, h4, h5, h6, h7, h8⟩ := h
  refine ⟨3, ?_⟩
  have hcl : f.val.cells.toList = [.int .i64 f.kind, .int .i64 f.reel, .int .i64 f.sess, .int .i64 f.idx, .int .i64 f.len, .int .i64 f.data, .int .i64 f.spare, .int .u32 (f.arch.toNat : Int), .string f.pay] := rfl
  rw [hcl]
  have hi := fun (m : Nat) (k : Int) (hw : (Lit.int .i64 k).wf = true) => trod_int_mk (enc := enc) (P := Tryz.prog) (w := w) (base := base) (spare := spare) (held := held) m Tryz.underlying3 hw
  have hly : DataW.trod enc Tryz.prog w base spare held 2 23 [.int .i64 f.data, .int .i64 f.spare] = some (.agg [.lit (.int .i64 f.data), .lit (.int .i64 f.spare)], []) := by
    have := trod_struct2_mk (enc := enc) (w := w) (base := base) (spare := spare) (held := held) (n := 1) (cs := [.int .i64 f.data, .int .i64 f.spare]) (y0 := (.lit (.int .i64 f.data), [])) (y1 := (.lit (.int .i64 f.spare), [])) Tryz.underlying23 (by rw [cells_layout]; rfl)
      (by rw [cells_int]; exact hi 0 _ h5) (by rw [cells_int]; exact hi 0 _ h6)
    exact this
  have hst : DataW.trod enc Tryz.prog w base spare held 2 9 [.string f.pay] = some (.lit (.string f.pay.data.toList), []) := by
    simp [DataW.trod, Tryz.underlying9, h8]
  have := trod_struct_mk (enc := enc) (w := w) (base := base) (spare := spare) (held := held) (n := 2) (cs := [.int .i64 f.kind, .int .i64 f.reel, .int .i64 f.sess, .int .i64 f.idx, .int .i64 f.len, .int .i64 f.data, .int .i64 f.spare, .int .u32 (f.arch.toNat : Int), .string f.pay])
    (xs := [(.lit (.int .i64 f.kind), []), (.lit (.int .i64 f.reel), []), (.lit (.int .i64 f.sess), []), (.lit (.int .i64 f.idx), []), (.lit (.int .i64 f.len), []), (.agg [.lit (.int .i64 f.data), .lit (.int .i64 f.spare)], []), (.lit (.int .u32 (f.arch.toNat : Int)), []), (.lit (.string f.pay.data.toList), [])])
    Tryz.underlying26 (by rw [cells_frame]; rfl) (by
      have hu := trod_int_mk (enc := enc) (P := Tryz.prog) (w := w) (base := base) (spare := spare) (held := held) 1 Tryz.underlying24 h7
      simp [cells_int, cells_layout, cells_u32, cells_str, hi 1 _ h0, hi 1 _ h1, hi 1 _ h2, hi 1 _ h3, hi 1 _ h4, hly, hu, hst])
  exact this
end
end Go.Proofs.YtgpdfkallgjocaaGreatDoor.F13
namespace Go.Proofs.YtgpdfkallgjocaaGreatDoor.F13
open Go.RowKit Mem
set_option linter.unusedVariables false
set_option linter.unusedSimpArgs false

structure Fit (f : Fr) : Prop where
  kind : -9223372036854775808 ≤ f.kind ∧ f.kind ≤ 9223372036854775807
  reel : -9223372036854775808 ≤ f.reel ∧ f.reel ≤ 9223372036854775807
  sess : -9223372036854775808 ≤ f.sess ∧ f.sess ≤ 9223372036854775807
  idx : -9223372036854775808 ≤ f.idx ∧ f.idx ≤ 9223372036854775807
  len : -9223372036854775808 ≤ f.len ∧ f.len ≤ 9223372036854775807
  data : -9223372036854775808 ≤ f.data ∧ f.data ≤ 9223372036854775807
  spare : -9223372036854775808 ≤ f.spare ∧ f.spare ≤ 9223372036854775807
  size : f.pay.size ≤ 1000000
def nbl (n m k : Nat) : List UInt8 := (List.range m).map fun j => if m ≤ j + k then UInt8.ofNat (n / 256 ^ (m - 1 - j)) else 0
theorem nbl_len (n m k : Nat) : (nbl n m k).length = m := by simp [nbl]
theorem nbl_zero (n m : Nat) : nbl n m 0 = List.replicate m 0 := by
  apply List.ext_getElem
  · simp [nbl]
  · intro j h1 h2
    have hj : j < m := by simpa [nbl] using h1
    simp [nbl]
    omega
theorem nbl_step (n m k q : Nat) (h : k < m) (hq : m - 1 - k = q) : (nbl n m k).set q (UInt8.ofNat (n / 256 ^ k)) = nbl n m (k + 1) := by
  subst hq
  apply List.ext_getElem
  · simp [nbl]
  · intro j h1 h2
    have hj : j < m := by simpa [nbl] using h2
    rw [List.getElem_set]
    simp only [nbl, List.getElem_map, List.getElem_range]
    by_cases e : m - 1 - k = j
    · rw [if_pos e, if_pos (by omega), show m - 1 - j = k by omega]
    · rw [if_neg e]
      by_cases e2 : m ≤ j + k
      · rw [if_pos e2, if_pos (by omega)]
      · rw [if_neg e2, if_neg (by omega)]
def nbS (n m : Nat) : ByteArray := ⟨(nbl n m m).toArray⟩
theorem ofNat_eq {a b : Nat} (h : a % 256 = b % 256) : UInt8.ofNat a = UInt8.ofNat b := by
  rw [← UInt8.toNat_inj, UInt8.toNat_ofNat', UInt8.toNat_ofNat']
  exact h
theorem nb_one {n : Int} (h : 0 ≤ n) : nbl n.toNat 1 1 = [u8 n] := by
  show [UInt8.ofNat (n.toNat / 256 ^ 0)] = [UInt8.ofNat n.toNat]
  rw [Nat.pow_zero, Nat.div_one]
theorem nb_two {n : Int} (h : 0 ≤ n) : nbl n.toNat 2 2 = [u8 (n / 256), u8 (n % 256)] := by
  show [UInt8.ofNat (n.toNat / 256 ^ 1), UInt8.ofNat (n.toNat / 256 ^ 0)] = [UInt8.ofNat (n / 256).toNat, UInt8.ofNat (n % 256).toNat]
  rw [ofNat_eq (show n.toNat / 256 ^ 1 % 256 = (n / 256).toNat % 256 by omega), ofNat_eq (show n.toNat / 256 ^ 0 % 256 = (n % 256).toNat % 256 by omega)]
theorem nb_four (x : K3.R) : nbl x.toNat 4 4 = K3.byL x := by
  show [UInt8.ofNat (x.toNat / 256 ^ 3), UInt8.ofNat (x.toNat / 256 ^ 2), UInt8.ofNat (x.toNat / 256 ^ 1), UInt8.ofNat (x.toNat / 256 ^ 0)] = [K3.nb x 24, K3.nb x 16, K3.nb x 8, K3.nb x 0]
  have e : ∀ a k : Nat, a % 256 = x.toNat / 2 ^ k % 256 → UInt8.ofNat a = K3.nb x k := fun a k h => by
    rw [← UInt8.toNat_inj, UInt8.toNat_ofNat', K3.nb_toNat]
    exact h
  rw [e (x.toNat / 256 ^ 3) 24 (by omega), e (x.toNat / 256 ^ 2) 16 (by omega), e (x.toNat / 256 ^ 1) 8 (by omega), e (x.toNat / 256 ^ 0) 0 (by omega)]
theorem hd_parts {f : Fr} (h : Valid f) : nbl f.kind.toNat 1 1 ++ nbl f.reel.toNat 1 1 ++ nbl f.sess.toNat 2 2 ++ nbl f.idx.toNat 2 2 ++ nbl f.len.toNat 1 1 ++ nbl (16 * f.data + f.spare).toNat 1 1 ++ nbl f.arch.toNat 4 4 = hdL f := by
  have h1 := h.kind
  have h2 := h.data
  have h3 := h.spare
  have h4 := h.reel
  have h5 := h.sess
  have h6 := h.idx
  have h7 := h.len
  rw [nb_one (by omega), nb_one (by omega), nb_two (by omega), nb_two (by omega), nb_one (by omega), nb_one (by omega), nb_four]
  rfl
def vlN (l : List UInt8) : Nat := l.foldl (fun n b => n * 256 + b.toNat) 0
theorem vlN_snoc (l : List UInt8) (b : UInt8) : vlN (l ++ [b]) = vlN l * 256 + b.toNat := by simp [vlN]
theorem vl_lt_from : ∀ (l : List UInt8) (a m : Nat), a < 256 ^ m → l.foldl (fun n b => n * 256 + b.toNat) a < 256 ^ (m + l.length)
  | [], a, m, h => h
  | b :: l, a, m, h => by
    have hb := b.toNat_lt
    have := vl_lt_from l (a * 256 + b.toNat) (m + 1) (by rw [Nat.pow_succ]; omega)
    rw [List.foldl_cons, List.length_cons, show m + (l.length + 1) = m + 1 + l.length by omega]
    exact this
theorem vlN_lt (l : List UInt8) : vlN l < 256 ^ l.length := by
  have := vl_lt_from l 0 0 (by decide)
  rwa [Nat.zero_add] at this
theorem or_byte (v : Nat) (b : UInt8) : v * 256 ||| b.toNat = v * 256 + b.toNat := by
  have h := Nat.shiftLeft_add_eq_or_of_lt (show b.toNat < 2 ^ 8 from b.toNat_lt) v
  rw [Nat.shiftLeft_eq] at h
  exact h.symm
theorem vl_one {l : List UInt8} {i : Nat} (h : i < l.length) : (vlN ((l.take (i + 1)).drop i) : Int) = bt l i := by
  have e : (l.take (i + 1)).drop i = [l[i]] := by
    rw [← List.take_append_getElem (show i < l.length from h), List.drop_left' (by rw [List.length_take]; omega)]
  rw [e]
  show ((0 * 256 + l[i].toNat : Nat) : Int) = ((l.getD i 0).toNat : Int)
  rw [List.getD_eq_getElem?_getD, List.getElem?_eq_getElem h]
  show ((0 * 256 + l[i].toNat : Nat) : Int) = (l[i].toNat : Int)
  omega
theorem cut_succ {l : List UInt8} {i j : Nat} (hij : i ≤ j) (h : j < l.length) : (l.take (j + 1)).drop i = (l.take j).drop i ++ [l[j]] := by
  rw [← List.take_append_getElem (show j < l.length from h), List.drop_append_of_le_length (by rw [List.length_take]; omega)]
theorem vl_succ {l : List UInt8} {i j : Nat} (hij : i ≤ j) (h : j < l.length) : (vlN ((l.take (j + 1)).drop i) : Int) = (vlN ((l.take j).drop i) : Int) * 256 + bt l j := by
  rw [cut_succ hij h, vlN_snoc]
  unfold bt
  rw [List.getD_eq_getElem?_getD, List.getElem?_eq_getElem h]
  show ((vlN ((l.take j).drop i) * 256 + l[j].toNat : Nat) : Int) = (vlN ((l.take j).drop i) : Int) * 256 + (l[j].toNat : Int)
  omega
theorem dw_nil : ∀ (l : List UInt8), l.dropWhile (· == 0) = [] ↔ zerosB l = true
  | [] => ⟨fun _ => rfl, fun _ => rfl⟩
  | c :: l => by
    unfold zerosB
    rw [List.all_cons, List.dropWhile_cons]
    by_cases h : (c == 0) = true
    · rw [if_pos h, h, Bool.true_and]
      exact dw_nil l
    · rw [if_neg h]
      constructor
      · intro e; cases e
      · intro e
        rw [Bool.and_eq_true] at e
        exact absurd e.1 h
theorem trim_nil (l : List UInt8) : Lib.trimB l 0 = [] ↔ zerosB l = true := by
  unfold Lib.trimB Lib.trimLeftB Lib.trimRightB
  rw [dw_nil]
  have hr : ∀ l : List UInt8, zerosB l.reverse = zerosB l := fun l => by
    unfold zerosB
    rw [List.all_reverse]
  rw [hr]
  constructor
  · intro h
    rw [← hr, ← dw_nil]
    by_cases e : l.reverse.dropWhile (· == 0) = []
    · exact e
    · exfalso
      have hh := List.head_dropWhile_not (· == 0) (l := l.reverse) e
      have := List.all_eq_true.1 h _ (List.head_mem e)
      rw [this] at hh
      cases hh
  · intro h
    rw [← hr, ← dw_nil] at h
    rw [h]
    rfl
end Go.Proofs.YtgpdfkallgjocaaGreatDoor.F13
namespace Go.Proofs.YtgpdfkallgjocaaGreatDoor.F13
open Go.RowKit Mem

theorem fit_of {f : Fr} (h : FitB f) : Fit f ∨ 200 < f.pay.size := by
  by_cases h1 : 200 < f.pay.size
  · exact .inr h1
  · exact .inl ⟨(Lit.wf_int_iff .i64 _).1 h.kind, (Lit.wf_int_iff .i64 _).1 h.reel, (Lit.wf_int_iff .i64 _).1 h.sess, (Lit.wf_int_iff .i64 _).1 h.idx, (Lit.wf_int_iff .i64 _).1 h.len, (Lit.wf_int_iff .i64 _).1 h.data, (Lit.wf_int_iff .i64 _).1 h.spare, by omega⟩
theorem size_of {f : Fr} (h : FitB f) : f.pay.size ≤ 9223372036854775807 := by
  have := h.size
  unfold maxLen at this
  omega
end Go.Proofs.YtgpdfkallgjocaaGreatDoor.F13
