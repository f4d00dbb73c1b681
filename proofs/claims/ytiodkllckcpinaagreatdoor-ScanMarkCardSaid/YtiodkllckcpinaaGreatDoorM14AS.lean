/- Facts and contracts that the walks of this layer use, merged: F13Own7, F13Own8, F13Own9, F13OwnA, F13Body, F13More, F13Near, F13Open. -/
import Derived.Test.YtiodkllckcpinaaGreatDoorM14AN
import Derived.Test.YtiodkllckcpinaaGreatDoorM14AM
import Derived.Test.YtiodkllckcpinaaGreatDoorM14AC
import Derived.Test.YtiodkllckcpinaaGreatDoorM14AB
import Derived.Test.YtiodkllckcpinaaGreatDoorM14AO
import Derived.Test.YtiodkllckcpinaaGreatDoorM14AR
import Derived.Test.YtiodkllckcpinaaGreatDoorM14AE
import Derived.Test.YtiodkllckcpinaaGreatDoorRows
import Derived.OpenShut
import Derived.WalkKit
import Derived.ProofKit
import Derived.ChangeSame
import Derived.WalkSpells
import Derived.WalkLawsBesides
import Derived.BigQuiet
import Derived.Deep.QuietTactic
import Derived.DataShut
set_option linter.unusedVariables false
set_option linter.unusedSimpArgs false
set_option maxRecDepth 100000
namespace Go.Proofs.YtiodkllckcpinaaGreatDoor
namespace F13
open Go.RowKit Mem

/-! ### what stays while a quality's cells are written -/
structure Keeps (Q : Nat) (w w' : World) : Prop where
 row : ∀ A l, A ≠ Q → A < w.heap.size → VAt w A l → VAt w' A l
 size : w.heap.size ≤ w'.heap.size
 below : ∀ B w0, B ≤ Q → Below B w0 w → Below B w0 w'
theorem Keeps.refl (Q : Nat) (w : World) : Keeps Q w w := ⟨fun _ _ _ _ h => h, Nat.le_refl _, fun _ _ _ h => h⟩
theorem Keeps.trans {Q : Nat} {w w1 w2 : World} (h : Keeps Q w w1) (k : Keeps Q w1 w2) : Keeps Q w w2 :=
 ⟨fun A l ha hs hv => k.row A l ha (Nat.lt_of_lt_of_le hs h.size) (h.row A l ha hs hv), Nat.le_trans h.size k.size, fun B w0 hB hb => k.below B w0 hB (h.below B w0 hB hb)⟩
theorem Keeps.of_below {Q : Nat} {w w' : World} (hQ : Q < w.heap.size) (h : Below w.heap.size w w') : Keeps Q w w' :=
 ⟨fun A l _ hs hv => hv.below h hs, h.size, fun B w0 hB hb => hb.trans (h.mono (by omega))⟩
theorem Keeps.set {Q : Nat} (w : World) (k : Nat) (v : Value) : Keeps Q w (w.setCell ⟨Q, k, none⟩ v) :=
 ⟨fun A l ha _ hv => hv.far (Ne.symm ha) v, by simp, fun B w0 hB hb => hb.setCell (p := ⟨Q, k, none⟩) hB v⟩

/-! ### the states -/
theorem byB_sz {X : ByteArray} (hs : X.size = 836) (he : V10.eB X = 0) : (byB X).size = 52 ∧ (V10.dS X).size = 416 := by
 obtain ⟨g, hg⟩ := V10.good he (n := 416) hs
 have h1 : (V10.dS X).size = 416 := by rw [hg.str, C9.sb_size, hg.len]
 refine ⟨?_, h1⟩
 show (C1.tbS (V10.dS X).data.toList).length = 52
 have hl : (V10.dS X).data.toList.length = 416 := by simpa using h1
 have h : C1.tbE (V10.dS X).data.toList = 0 := C1.tbE_ok (by rw [chk_okC, hg.str]; exact C9.okC_sb _) (by rw [hl])
 rw [C1.tbS_ok h, C1.toB_len, hl]
theorem byE {X : ByteArray} (hs : X.size = 836) (he : V10.eB X = 0) : C1.tbE (V10.dS X).data.toList = 0 := by
 obtain ⟨g, hg⟩ := V10.good he (n := 416) hs
 have h1 : (V10.dS X).size = 416 := by rw [hg.str, C9.sb_size, hg.len]
 have hl : (V10.dS X).data.toList.length = 416 := by simpa using h1
 exact C1.tbE_ok (by rw [chk_okC, hg.str]; exact C9.okC_sb _) (by rw [hl])
theorem dec_sz {u : List G5.R} {S : ByteArray} {m : Int} (h : G8.DecQ u 8 [] S m 0) : S.size = u.length := by
 by_cases hb : G8.Bad u.length 8 []
 ·obtain ⟨_, _, e⟩ := h.1 hb
  cases e
 ·by_cases hc : ∃ c, G8.Within (8 : Int).toNat u (G8.Lof []) c
  ·obtain ⟨c, hc⟩ := hc
   obtain ⟨rfl, _, _⟩ := (h.2 hb).1 c hc
   rw [G7.size_str, hc.len]
  ·obtain ⟨_, _, e⟩ := (h.2 hb).2 (fun c h => hc ⟨c, h⟩)
   cases e
def padB (c : ByteArray) : ByteArray := ⟨(padL c.data.toList).toArray⟩
theorem unr_dl (l : List UInt8) : C1.unr (I11.dl 8 l) = C1.unr l := by
 have h := I11.perm_il (r := 8) (by decide) (I11.dl 8 l)
 rw [I11.il_dl (by decide)] at h
 exact (h.filter _).length_eq.symm
def StD (c : ByteArray) : Nat → ByteArray → Int → Int → Int → Prop
 | 0, s, d, u, n => s = c ∧ d = 0 ∧ u = 0 ∧ n = 0
 | 1, s, d, u, n => s = padB c ∧ d = 0 ∧ u = 0 ∧ n = 0
 | 2, s, d, u, n => s = xB c ∧ d = 0 ∧ u = (C1.unr (xB c).data.toList : Int) ∧ n = 0
 | 3, s, d, u, n => s = V10.dS (xB c) ∧ d = V10.dN (xB c) ∧ u = (C1.unr (xB c).data.toList : Int) ∧ n = 0
 | 4, s, d, u, n => s = byB (xB c) ∧ d = V10.dN (xB c) ∧ u = (C1.unr (xB c).data.toList : Int) ∧ n = 0
 | 5, s, d, u, n => G8.DecQ (G7.el (byB (xB c))) 8 [] s n 0 ∧ d = V10.dN (xB c) ∧ u = (C1.unr (xB c).data.toList : Int)
 | _, s, d, u, n => ∃ S, G8.DecQ (G7.el (byB (xB c))) 8 [] S n 0 ∧ s = S.extract 0 44 ∧ d = V10.dN (xB c) ∧ u = (C1.unr (xB c).data.toList : Int)
def QAt (w : World) (Q : Nat) (d u n : Int) : Prop := VAt w Q [.int .i64 d, .int .i64 u, .int .i64 n]
def StepD (c : ByteArray) (Q k : Nat) (w : World) (e : Ending) (w' : World) : Prop := ∃ s d u n, StD c (k + 1) s d u n ∧ e = .returned (.tuple #[.string s, .int .i64 0]) ∧ QAt w' Q d u n ∧ Keeps Q w w'
def NoD (c : ByteArray) (Q : Nat) (w : World) (e : Ending) (w' : World) : Prop := ∃ S T d u n j, j ≠ 0 ∧ G8.DecQ (G7.el (byB (xB c))) 8 [] S n j ∧ e = .returned (.tuple #[.string T, .int .i64 j]) ∧ QAt w' Q d u n ∧ Keeps Q w w'

/-! ### the steps -/
theorem rep63 : ∀ n : Nat, Lib.repeatL (ByteArray.mk #[63]).data.toList n = List.replicate n 63
 | 0 => rfl
 | n + 1 => by
  show [63] ++ Lib.repeatL (ByteArray.mk #[63]).data.toList n = _
  rw [rep63 n]
  rfl
set_option maxHeartbeats 4000000 in
theorem completed_own (c : ByteArray) (w : World) (hk : C1.chk c.data.toList = 0) (hs : c.size ≤ 836) : Calls Tryz.prog 76 #[.string c] w fun e w' => e = .returned (.tuple #[.string (padB c), .int .i64 0]) ∧ Below w.heap.size w w' := by
 have cK := fun W => C1.check_any c W (by omega)
 rw [hk] at cK
 obtain ⟨m, hm⟩ : ∃ m, 836 - c.size = m := ⟨_, rfl⟩
 have cR := fun W => Tryz.strings_Repeat ⟨#[63]⟩ m W (by omega) (by show 1 * m ≤ _; omega)
 have hpad : c ++ ⟨(Lib.repeatL (ByteArray.mk #[63]).data.toList m).toArray⟩ = padB c := str_eq (by
  rw [app_list, rep63]
  show c.data.toList ++ List.replicate m 63 = padL c.data.toList
  unfold padL
  rw [show c.data.toList.length = c.size by simp, hm])
 have hrs : (⟨(Lib.repeatL (ByteArray.mk #[63]).data.toList m).toArray⟩ : ByteArray).size = m := by
  rw [rep63]
  show (List.replicate m (63 : UInt8)).length = m
  simp
 obtain ⟨R, hR⟩ : ∃ R : ByteArray, ⟨(Lib.repeatL (ByteArray.mk #[63]).data.toList m).toArray⟩ = R := ⟨_, rfl⟩
 rw [hR] at cR hpad hrs
 obtain ⟨D, hD⟩ : ∃ D, padB c = D := ⟨_, rfl⟩
 rw [hD] at hpad ⊢
 replace cK := Lib.hid cK
 replace cR := Lib.hid cR
 have d1 : decide ((836 : Int) < (c.size : Int)) = false := decide_eq_false (by omega)
 have m1 : (836 : Int) - (c.size : Int) = (m : Int) := by omega
 have s1 : (c.size : Int) ≤ 836 := by omega
 have s2 : (R.size : Int) ≤ 836 := by omega
 have s3 : ¬ 9223372036854775807 < c.size + R.size := by omega
 clear hR hD hrs hm hk
 go_enter Tryz.func76, Tryz.ntmps76
 go_wp2_with fail
 refine (cK.out _).mono ?_
 rintro e w1 ⟨rfl, rfl⟩
 go_wp2_with fail
 refine (cR.out _).mono ?_
 rintro e w2 ⟨rfl, hb⟩
 go_wp2
 go_ret2
 exact ⟨rfl, hb⟩
set_option maxHeartbeats 4000000 in
theorem completed_no (c : ByteArray) (w : World) (hc : c.size ≤ 1000000) (k : Int) (h : (C1.chk c.data.toList = 3 ∧ k = 3) ∨ (C1.chk c.data.toList = 0 ∧ 836 < c.size ∧ k = 6)) : Calls Tryz.prog 76 #[.string c] w fun e w' => e = .returned (.tuple #[.string ⟨#[]⟩, .int .i64 k]) ∧ w = w' := by
 have cK := Lib.hid (fun W => C1.check_any c W (by omega))
 rcases h with ⟨h, rfl⟩ | ⟨h, hs, rfl⟩
 ·rw [h] at cK
  clear h
  go_enter Tryz.func76, Tryz.ntmps76
  go_wp2_with (go_at_call 124; refine (cK.out _).mono ?_; rintro e w1 ⟨rfl, rfl⟩)
  go_ret2
  exact ⟨rfl, rfl⟩
 ·rw [h] at cK
  have d1 : decide ((836 : Int) < (c.size : Int)) = true := decide_eq_true (by omega)
  clear h hs
  go_enter Tryz.func76, Tryz.ntmps76
  go_wp2_with (go_at_call 124; refine (cK.out _).mono ?_; rintro e w1 ⟨rfl, rfl⟩)
  go_ret2
  exact ⟨rfl, rfl⟩
set_option maxHeartbeats 4000000 in
theorem inner_own (X : ByteArray) (w : World) (hs : X.size = 836) (ho : X.data.toList.all C9.okC = true) : Calls Tryz.prog 81 #[.string X] w fun e w' => e = .returned (.tuple #[.string (V10.dS X), .int .i64 (V10.dN X), .int .i64 0]) ∧ Below w.heap.size w w' := by
 have cE := fun W => C9.extract_own X W (by omega)
 have cV := fun W => V10.decode_own X W (by omega)
 have hed := fun S k h hk => ext_dec hs ho (S := S) (k := k) h hk
 unfold V10.Deco at cV
 rw [V10.eB_ok ho (n := 416) hs] at cV
 replace cE := Lib.hid cE
 replace cV := Lib.hid cV
 replace hed := Lib.hid hed
 obtain ⟨D, hD⟩ : ∃ D, V10.dS X = D := ⟨_, rfl⟩
 obtain ⟨n, hn⟩ : ∃ n, V10.dN X = n := ⟨_, rfl⟩
 rw [hD, hn] at cV ⊢
 replace hed : Hid (∀ S k, C9.ExtQ X S k → k = 0 → D = S ∧ n = 0) := Lib.hid (fun S k h hk => by have := hed.out S k h hk; rw [hD, hn] at this; exact this)
 clear hD hn hs ho
 go_enter Tryz.func81, Tryz.ntmps81
 go_wp2_with fail
 refine (cE.out _).mono ?_
 rintro e w1 ⟨S, k, hE, rfl, hb⟩
 by_cases hk : k = 0
 ·obtain ⟨rfl, rfl⟩ := hed.out S k hE hk
  subst hk
  clear hE
  go_wp2
  go_ret3
  exact ⟨rfl, hb⟩
 ·have d1 : (k == 0) = false := beq_eq_false_iff_ne.2 hk
  clear hE hk
  go_wp2_with fail
  refine (cV.out _).mono ?_
  rintro e w2 ⟨rfl, hb2⟩
  go_wp2
  go_ret3
  exact ⟨rfl, chain hb hb2⟩
end F13
namespace F13
open Go.RowKit Mem

theorem QAt.set0 {w : World} {Q : Nat} {d u n : Int} (h : QAt w Q d u n) (v : Int) : QAt (w.setCell ⟨Q, 0, none⟩ (.int .i64 v)) Q v u n := VAt.set h (k := 0) (show 0 < 3 by decide) (.int .i64 v)
theorem QAt.set1 {w : World} {Q : Nat} {d u n : Int} (h : QAt w Q d u n) (v : Int) : QAt (w.setCell ⟨Q, 1, none⟩ (.int .i64 v)) Q d v n := VAt.set h (k := 1) (show 1 < 3 by decide) (.int .i64 v)
theorem QAt.set2 {w : World} {Q : Nat} {d u n : Int} (h : QAt w Q d u n) (v : Int) : QAt (w.setCell ⟨Q, 2, none⟩ (.int .i64 v)) Q d u v := VAt.set h (k := 2) (show 2 < 3 by decide) (.int .i64 v)
theorem QAt.below {w w' : World} {Q : Nat} {d u n : Int} (h : QAt w Q d u n) (hQ : Q < w.heap.size) (k : Below w.heap.size w w') : QAt w' Q d u n := VAt.below h k hQ
theorem stepD0 {c s : ByteArray} {Q : Nat} {d u n : Int} (w : World) (hk : C1.chk c.data.toList = 0) (hs : c.size ≤ 836) (hQ : Q < w.heap.size) (hq : QAt w Q d u n) (h : StD c 0 s d u n) : Calls Tryz.prog 76 #[.string s] w (StepD c Q 0 w) := by
 obtain ⟨rfl, rfl, rfl, rfl⟩ := h
 refine (completed_own s w hk hs).mono ?_
 rintro e w' ⟨rfl, hb⟩
 exact ⟨_, _, _, _, ⟨rfl, rfl, rfl, rfl⟩, rfl, hq.below hQ hb, Keeps.of_below hQ hb⟩
set_option maxHeartbeats 4000000 in
theorem stepD1 {c s : ByteArray} {Q : Nat} {d u n : Int} (w : World) (hs : c.size ≤ 836) (hQ : Q < w.heap.size) (hq : QAt w Q d u n) (h : StD c 1 s d u n) : Calls Tryz.prog 77 #[.string s, .pointer (some ⟨Q, 0, none⟩)] w (StepD c Q 1 w) := by
 obtain ⟨rfl, rfl, rfl, rfl⟩ := h
 have hl : (padL c.data.toList).length = 836 := padL_len (by simpa using hs)
 have hps : (padB c).size = 836 := hl
 have cU := fun W => C1.unreadable_any (padB c) W (by omega)
 have hu : C1.unr (padB c).data.toList = C1.unr (xB c).data.toList := (unr_dl (padL c.data.toList)).symm
 rw [hu] at cU
 have cI := fun W' => I11.dl_own (padB c) 8 W' (by omega) (by decide) (by decide)
 have hiS : I11.dS (padB c) 8 = xB c := rfl
 unfold I11.Dled at cI
 rw [hiS, show I11.pE 8 = 0 from rfl] at cI
 have hgo : ∀ w', QAt w' Q 0 (C1.unr (xB c).data.toList : Int) 0 → Keeps Q w w' → StepD c Q 1 w (.returned (.tuple #[.string (xB c), .int .i64 0])) w' := fun w' h1 h2 => ⟨_, _, _, _, ⟨rfl, rfl, rfl, rfl⟩, rfl, h1, h2⟩
 obtain ⟨U, hU⟩ : ∃ U, C1.unr (xB c).data.toList = U := ⟨_, rfl⟩
 obtain ⟨X, hX⟩ : ∃ U, xB c = U := ⟨_, rfl⟩
 obtain ⟨s, hss⟩ : ∃ U, padB c = U := ⟨_, rfl⟩
 rw [hU] at cU hgo
 rw [hX] at cI hgo
 rw [hss] at cU cI ⊢
 obtain ⟨q0, q1, q2, z0, z1, z2⟩ := cells3 hq
 have hq1 := hq.set1 (U : Int)
 have hk1 : Keeps Q w (w.setCell ⟨Q, 1, none⟩ (.int .i64 (U : Int))) := Keeps.set w 1 _
 have hs1 : Q < (w.setCell ⟨Q, 1, none⟩ (.int .i64 (U : Int))).heap.size := by simpa using hQ
 obtain ⟨W1, hW1⟩ : ∃ W, w.setCell ⟨Q, 1, none⟩ (.int .i64 (U : Int)) = W := ⟨_, rfl⟩
 rw [hW1] at hq1 hk1 hs1
 obtain ⟨P, hP⟩ : ∃ P, StepD c Q 1 w = P := ⟨_, rfl⟩
 rw [hP] at hgo ⊢
 show Calls _ _ _ _ (fun e w' => P e w')
 replace cU := Lib.hid cU
 replace cI := Lib.hid cI
 replace hgo := Lib.hid hgo
 replace hq1 := Lib.hid hq1
 replace hk1 := Lib.hid hk1
 replace hs1 := Lib.hid hs1
 clear hP hU hX hss hu hiS hps hl hQ hq
 go_enter Tryz.func77, Tryz.ntmps77
 go_wp2_with fail
 refine (cU.out _).mono ?_
 rintro e w1 ⟨rfl, rfl⟩
 go_wp2_with fail
 refine (cI.out _).mono ?_
 rintro e w2 ⟨rfl, hb⟩
 have hfin := Lib.hid (hgo.out w2 (hq1.out.below hs1.out hb) (hk1.out.trans (Keeps.of_below hs1.out hb)))
 go_wp2
 first | go_ret2 | skip
 exact hfin.out
set_option maxHeartbeats 4000000 in
theorem stepD2 {c s : ByteArray} {Q : Nat} {d u n : Int} (w : World) (hk : C1.chk c.data.toList = 0) (hs : c.size ≤ 836) (hQ : Q < w.heap.size) (hq : QAt w Q d u n) (h : StD c 2 s d u n) : Calls Tryz.prog 80 #[.string s, .pointer (some ⟨Q, 0, none⟩)] w (StepD c Q 2 w) := by
 obtain ⟨rfl, rfl, rfl, rfl⟩ := h
 have cI := fun W => inner_own (xB c) W (xB_size hs) (xB_ok hk)
 have hgo : ∀ w', QAt w' Q (V10.dN (xB c)) (C1.unr (xB c).data.toList : Int) 0 → Keeps Q w w' → StepD c Q 2 w (.returned (.tuple #[.string (V10.dS (xB c)), .int .i64 0])) w' := fun w' h1 h2 => ⟨_, _, _, _, ⟨rfl, rfl, rfl, rfl⟩, rfl, h1, h2⟩
 obtain ⟨U, hU⟩ : ∃ U, C1.unr (xB c).data.toList = U := ⟨_, rfl⟩
 obtain ⟨D, hD⟩ : ∃ U, V10.dN (xB c) = U := ⟨_, rfl⟩
 obtain ⟨S, hS⟩ : ∃ U, V10.dS (xB c) = U := ⟨_, rfl⟩
 obtain ⟨X, hX⟩ : ∃ U, xB c = U := ⟨_, rfl⟩
 rw [hU] at hq
 rw [hU, hD, hS] at hgo
 rw [hD, hS, hX] at cI
 rw [hX]
 have hQh := Lib.hid hQ
 have hqh := Lib.hid hq
 obtain ⟨P, hP⟩ : ∃ P, StepD c Q 2 w = P := ⟨_, rfl⟩
 rw [hP] at hgo ⊢
 show Calls _ _ _ _ (fun e w' => P e w')
 replace cI := Lib.hid cI
 replace hgo := Lib.hid hgo
 clear hP hU hD hS hX hQ hq hs hk
 go_enter Tryz.func80, Tryz.ntmps80
 go_wp2_with fail
 refine (cI.out _).mono ?_
 rintro e w1 ⟨rfl, hb⟩
 have hq1 := hqh.out.below hQh.out hb
 obtain ⟨q0, q1, q2, z0, z1, z2⟩ := cells3 hq1
 have hq2 := hq1.set0 D
 have hk2 : Keeps Q w (w1.setCell ⟨Q, 0, none⟩ (.int .i64 D)) := (Keeps.of_below hQh.out hb).trans (Keeps.set w1 0 _)
 have hfin := Lib.hid (hgo.out _ hq2 hk2)
 clear hq1 hq2 hk2 hgo hb
 go_wp2
 first | go_ret2 | skip
 exact hfin.out
set_option maxHeartbeats 4000000 in
theorem stepD3 {c s : ByteArray} {Q : Nat} {d u n : Int} (w : World) (hk : C1.chk c.data.toList = 0) (hs : c.size ≤ 836) (hQ : Q < w.heap.size) (hq : QAt w Q d u n) (h : StD c 3 s d u n) : Calls Tryz.prog 82 #[.string s] w (StepD c Q 3 w) := by
 obtain ⟨rfl, rfl, rfl, rfl⟩ := h
 have hX := xB_size hs
 have hXe := xB_eB hk hs
 have cT := fun W => C1.toBytes_any (V10.dS (xB c)) W (by rw [(byB_sz hX hXe).2]; decide)
 unfold C1.TbPost at cT
 rw [byE hX hXe] at cT
 have hBY : (⟨(C1.tbS (V10.dS (xB c)).data.toList).toArray⟩ : ByteArray) = byB (xB c) := rfl
 rw [hBY] at cT
 have hgo : ∀ w', Below w.heap.size w w' → StepD c Q 3 w (.returned (.tuple #[.string (byB (xB c)), .int .i64 0])) w' := fun w' hb => ⟨_, _, _, _, ⟨rfl, rfl, rfl, rfl⟩, rfl, hq.below hQ hb, Keeps.of_below hQ hb⟩
 obtain ⟨B, hB⟩ : ∃ U, byB (xB c) = U := ⟨_, rfl⟩
 obtain ⟨S, hS⟩ : ∃ U, V10.dS (xB c) = U := ⟨_, rfl⟩
 rw [hB] at cT hgo
 rw [hS] at cT ⊢
 obtain ⟨P, hP⟩ : ∃ P, StepD c Q 3 w = P := ⟨_, rfl⟩
 rw [hP] at hgo ⊢
 show Calls _ _ _ _ (fun e w' => P e w')
 replace cT := Lib.hid cT
 replace hgo := Lib.hid hgo
 clear hP hB hS hX hXe hBY hQ hq hs hk
 go_enter Tryz.func82, Tryz.ntmps82
 go_wp2_with fail
 refine (cT.out _).mono ?_
 rintro e w1 ⟨v, rfl, hown, hb⟩
 have hfin := Lib.hid (hgo.out w1 hb)
 clear hown hgo hb
 go_wp2
 first | go_ret2 | skip
 exact hfin.out
set_option maxHeartbeats 4000000 in
theorem stepD4 {c s : ByteArray} {Q : Nat} {d u n : Int} (w : World) (hk : C1.chk c.data.toList = 0) (hs : c.size ≤ 836) (hQ : Q < w.heap.size) (hq : QAt w Q d u n) (h : StD c 4 s d u n) : Calls Tryz.prog 84 #[.string s, .pointer (some ⟨Q, 0, none⟩)] w fun e w' => StepD c Q 4 w e w' ∨ NoD c Q w e w' := by
 obtain ⟨rfl, rfl, rfl, rfl⟩ := h
 have hX := xB_size hs
 have hXe := xB_eB hk hs
 have cR := fun W => G8.dec_own (s := byB (xB c)) (p := 8) (zs := []) (A := none) (n := 0) (c := 0) (w := W) (G8.IsInts.no W) rfl (by rw [(byB_sz hX hXe).1]; decide) (by decide) (by decide)
 have hgo : ∀ S m w', G8.DecQ (G7.el (byB (xB c))) 8 [] S m 0 → QAt w' Q (V10.dN (xB c)) (C1.unr (xB c).data.toList : Int) m → Keeps Q w w' → StepD c Q 4 w (.returned (.tuple #[.string S, .int .i64 0])) w' := fun S m w' h0 h1 h2 => ⟨_, _, _, _, ⟨h0, rfl, rfl⟩, rfl, h1, h2⟩
 have hgo2 : ∀ S m j w', G8.DecQ (G7.el (byB (xB c))) 8 [] S m j → j ≠ 0 → QAt w' Q (V10.dN (xB c)) (C1.unr (xB c).data.toList : Int) m → Keeps Q w w' → NoD c Q w (.returned (.tuple #[.string S, .int .i64 j])) w' := fun S m j w' h0 hj h1 h2 => ⟨S, S, _, _, _, j, hj, h0, rfl, h1, h2⟩
 unfold G8.Deco at cR
 obtain ⟨DQ, hDQ⟩ : ∃ U, G8.DecQ (G7.el (byB (xB c))) 8 [] = U := ⟨_, rfl⟩
 obtain ⟨U, hU⟩ : ∃ U, C1.unr (xB c).data.toList = U := ⟨_, rfl⟩
 obtain ⟨D, hD⟩ : ∃ U, V10.dN (xB c) = U := ⟨_, rfl⟩
 obtain ⟨B, hB⟩ : ∃ U, byB (xB c) = U := ⟨_, rfl⟩
 rw [hDQ] at cR hgo hgo2
 rw [hU] at hq hgo hgo2
 rw [hD] at hq hgo hgo2
 rw [hB] at cR ⊢
 have hQh := Lib.hid hQ
 have hqh := Lib.hid hq
 obtain ⟨P, hP⟩ : ∃ P, StepD c Q 4 w = P := ⟨_, rfl⟩
 obtain ⟨P2, hP2⟩ : ∃ P, NoD c Q w = P := ⟨_, rfl⟩
 rw [hP] at hgo ⊢
 rw [hP2] at hgo2 ⊢
 obtain ⟨P3, hP3⟩ : ∃ P3 : Ending → World → Prop, (fun e w' => P e w' ∨ P2 e w') = P3 := ⟨_, rfl⟩
 have g1 : Hid (∀ e w', P e w' → P3 e w') := Lib.hid (fun e w' h => by rw [← hP3]; exact .inl h)
 have g2 : Hid (∀ e w', P2 e w' → P3 e w') := Lib.hid (fun e w' h => by rw [← hP3]; exact .inr h)
 rw [hP3]
 show Calls _ _ _ _ (fun e w' => P3 e w')
 replace cR := Lib.hid cR
 replace hgo := Lib.hid hgo
 replace hgo2 := Lib.hid hgo2
 clear hP hP2 hP3 hDQ hU hD hB hX hXe hQ hq hs hk
 go_enter Tryz.func84, Tryz.ntmps84
 go_wp2_with fail
 refine (cR.out _).mono ?_
 rintro e w1 ⟨S, m, j, hD, rfl, hb⟩
 have hq1 := hqh.out.below hQh.out hb
 obtain ⟨q0, q1, q2, z0, z1, z2⟩ := cells3 hq1
 have hq2 := hq1.set2 m
 have hk2 : Keeps Q w (w1.setCell ⟨Q, 2, none⟩ (.int .i64 m)) := (Keeps.of_below hQh.out hb).trans (Keeps.set w1 2 _)
 have hfin : Hid (P3 (.returned (.tuple #[.string S, .int .i64 j])) (w1.setCell ⟨Q, 2, none⟩ (.int .i64 m))) := by
  by_cases hj : j = 0
  ·subst hj
   exact Lib.hid (g1.out _ _ (hgo.out S m _ hD hq2 hk2))
  ·exact Lib.hid (g2.out _ _ (hgo2.out S m j _ hD hj hq2 hk2))
 clear hq1 hq2 hk2 hgo hgo2 hb hD g1 g2
 go_wp2
 first | go_ret2 | skip
 exact hfin.out
theorem stepD5 {c s : ByteArray} {Q : Nat} {d u n : Int} (w : World) (hk : C1.chk c.data.toList = 0) (hs : c.size ≤ 836) (hQ : Q < w.heap.size) (hq : QAt w Q d u n) (h : StD c 5 s d u n) : Calls Tryz.prog 86 #[.string s] w (StepD c Q 5 w) := by
 obtain ⟨hD, rfl, rfl⟩ := h
 have h52 : s.size = 52 := by rw [dec_sz hD, G7.el_len, (byB_sz (xB_size hs) (xB_eB hk hs)).1]
 have hgo : StepD c Q 5 w (.returned (.tuple #[.string (s.extract 0 44), .int .i64 0])) w := ⟨_, _, _, _, ⟨s, hD, rfl, rfl, rfl⟩, rfl, hq, Keeps.refl _ _⟩
 have i1 : (44 : Int) ≤ (s.size : Int) := by omega
 have i2 : (s.size : Int) = 52 := by omega
 obtain ⟨P, hP⟩ : ∃ P, StepD c Q 5 w = P := ⟨_, rfl⟩
 rw [hP] at hgo ⊢
 show Calls _ _ _ _ (fun e w' => P e w')
 replace hgo := Lib.hid hgo
 clear hP hD hQ hq hs hk h52
 go_enter Tryz.func86, Tryz.ntmps86
 go_wp2
 first | go_ret2 | skip
 exact hgo.out
end F13
namespace F13
open Go.RowKit Mem

def ApD (c : ByteArray) (Q : Nat) (w : World) (e : Ending) (w' : World) : Prop :=
 (∃ S n, G8.DecQ (G7.el (byB (xB c))) 8 [] S n 0 ∧ e = .returned (.tuple #[.string (S.extract 0 44), .int .i64 0]) ∧ QAt w' Q (V10.dN (xB c)) (C1.unr (xB c).data.toList : Int) n ∧ Keeps Q w w') ∨
 (∃ S d u n j, j ≠ 0 ∧ ∃ m, G8.DecQ (G7.el (byB (xB c))) 8 [] S m j ∧ e = .returned (.tuple #[.string ⟨#[]⟩, .int .i64 j]) ∧ QAt w' Q d u n ∧ Keeps Q w w')
def stepsD (Q : Nat) : List Value := [.func (.func 76) #[] #[], .func (.func 77) #[] #[.pointer (some ⟨Q, 0, none⟩)], .func (.func 80) #[] #[.pointer (some ⟨Q, 0, none⟩)], .func (.func 82) #[] #[], .func (.func 84) #[] #[.pointer (some ⟨Q, 0, none⟩)], .func (.func 86) #[] #[]]
set_option maxHeartbeats 8000000 in
theorem applyD {c : ByteArray} {A Q : Nat} (w : World) (hk0 : C1.chk c.data.toList = 0) (hc : c.size ≤ 836) (hA : VAt w A (stepsD Q)) (hs : A < w.heap.size) (hAQ : A ≠ Q) (hQ : Q < w.heap.size) (hq : QAt w Q 0 0 0) : Calls Tryz.prog 34 #[.string c, .slice (some ⟨A, 0, none⟩) 6 6] w (ApD c Q w) := by
 have rr := fun W (h : Keeps Q w W) => h.row A _ hAQ hs hA
 have r0 : ∀ W, Keeps Q w W → W.cell? ⟨A, 0, none⟩ = some (.func (.func 76) #[] #[]) := fun W h => ((rr W h) 0 (show 0 < 6 by decide)).1
 have r1 : ∀ W, Keeps Q w W → W.cell? ⟨A, 1, none⟩ = some (.func (.func 77) #[] #[.pointer (some ⟨Q, 0, none⟩)]) := fun W h => ((rr W h) 1 (show 1 < 6 by decide)).1
 have r2 : ∀ W, Keeps Q w W → W.cell? ⟨A, 2, none⟩ = some (.func (.func 80) #[] #[.pointer (some ⟨Q, 0, none⟩)]) := fun W h => ((rr W h) 2 (show 2 < 6 by decide)).1
 have r3 : ∀ W, Keeps Q w W → W.cell? ⟨A, 3, none⟩ = some (.func (.func 82) #[] #[]) := fun W h => ((rr W h) 3 (show 3 < 6 by decide)).1
 have r4 : ∀ W, Keeps Q w W → W.cell? ⟨A, 4, none⟩ = some (.func (.func 84) #[] #[.pointer (some ⟨Q, 0, none⟩)]) := fun W h => ((rr W h) 4 (show 4 < 6 by decide)).1
 have r5 : ∀ W, Keeps Q w W → W.cell? ⟨A, 5, none⟩ = some (.func (.func 86) #[] #[]) := fun W h => ((rr W h) 5 (show 5 < 6 by decide)).1
 have hszW : ∀ W, Keeps Q w W → Q < W.heap.size := fun W h => Nat.lt_of_lt_of_le hQ h.size
 replace r0 := Lib.hid r0
 replace r1 := Lib.hid r1
 replace r2 := Lib.hid r2
 replace r3 := Lib.hid r3
 replace r4 := Lib.hid r4
 replace r5 := Lib.hid r5
 replace hszW := Lib.hid hszW
 have c0 := Lib.hid (fun s d u n W hQ hq h => stepD0 (c := c) (s := s) (Q := Q) (d := d) (u := u) (n := n) W hk0 hc hQ hq h)
 have c1 := Lib.hid (fun s d u n W hQ hq h => stepD1 (c := c) (s := s) (Q := Q) (d := d) (u := u) (n := n) W hc hQ hq h)
 have c2 := Lib.hid (fun s d u n W hQ hq h => stepD2 (c := c) (s := s) (Q := Q) (d := d) (u := u) (n := n) W hk0 hc hQ hq h)
 have c3 := Lib.hid (fun s d u n W hQ hq h => stepD3 (c := c) (s := s) (Q := Q) (d := d) (u := u) (n := n) W hk0 hc hQ hq h)
 have c4 := Lib.hid (fun s d u n W hQ hq h => stepD4 (c := c) (s := s) (Q := Q) (d := d) (u := u) (n := n) W hk0 hc hQ hq h)
 have c5 := Lib.hid (fun s d u n W hQ hq h => stepD5 (c := c) (s := s) (Q := Q) (d := d) (u := u) (n := n) W hk0 hc hQ hq h)
 have hgo : ∀ s d u n w', StD c 6 s d u n → QAt w' Q d u n → Keeps Q w w' → ApD c Q w (.returned (.tuple #[.string s, .int .i64 0])) w' := fun s d u n w' h1 h2 h3 => by
  obtain ⟨S, h, rfl, rfl, rfl⟩ := h1
  exact .inl ⟨S, n, h, rfl, h2, h3⟩
 have hno : ∀ W e' w' T j, Keeps Q w W → NoD c Q W e' w' → e' = .returned (.tuple #[.string T, .int .i64 j]) → ApD c Q w (.returned (.tuple #[.string ⟨#[]⟩, .int .i64 j])) w' ∧ j ≠ 0 := fun W e' w' T j h0 h1 h2 => by
  obtain ⟨S, T', d, u, n, j', hj, hD, rfl, hq, hk⟩ := h1
  injection h2 with h2
  injection h2 with h2
  have e1 : j' = j := by
   have := congrArg (fun a => a[1]?) h2
   simpa using this
  subst e1
  exact ⟨.inr ⟨S, d, u, n, j', hj, n, hD, rfl, hq, h0.trans hk⟩, hj⟩
 replace hgo := Lib.hid hgo
 replace hno := Lib.hid hno
 have hst0 : Hid (StD c 0 c 0 0 0) := Lib.hid ⟨rfl, rfl, rfl, rfl⟩
 obtain ⟨P, hP⟩ : ∃ P, ApD c Q w = P := ⟨_, rfl⟩
 rw [hP] at hgo hno ⊢
 show Calls _ _ _ _ (fun e w' => P e w')
 replace hq := Lib.hid hq
 clear hP hA hs hAQ hQ rr hc hk0
 go_enter Tryz.func34, Tryz.ntmps34
 go_wp2
 go_loopw [0, 11] (fun sv iv wr => ∃ (k : Nat) (s : ByteArray) (d u n : Int), k ≤ 6 ∧ iv = .int .i64 (k : Int) ∧ sv = .string s ∧ Hid (StD c k s d u n) ∧ Hid (QAt wr Q d u n) ∧ Hid (Keeps Q w wr)) (fun _ iv _ => 6 - (intOf iv).toNat)
 case atStart => exact ⟨0, c, 0, 0, 0, by decide, rfl, rfl, hst0, hq, Lib.hid (Keeps.refl _ _)⟩
 case round =>
  obtain ⟨k, s, d, u, n, hk, rfl, rfl, hst, hqq, hb⟩ := hrel
  clear hq hst0
  rcases k with _ | _ | _ | _ | _ | _ | k
  ·have l0 := r0.out wr hb.out
   have cS := Lib.hid (c0.out s d u n wr (hszW.out wr hb.out) hqq.out hst.out)
   go_wp2_with fail
   refine cS.out.mono ?_
   rintro e w1 ⟨s', d', u', n', hs', rfl, hq', hk'⟩
   replace hs' := Lib.hid hs'
   replace hq' := Lib.hid hq'
   have hb2 := Lib.hid (hb.out.trans hk')
   clear hst hb l0 hk' cS hqq
   go_wp2
   go_roundw
   case rel => exact ⟨1, s', d', u', n', by decide, by go_num, rfl, hs', hq', hb2⟩
   case measure => simp [intOf]
  ·have l0 := r1.out wr hb.out
   have cS := Lib.hid (c1.out s d u n wr (hszW.out wr hb.out) hqq.out hst.out)
   go_wp2_with fail
   refine cS.out.mono ?_
   rintro e w1 ⟨s', d', u', n', hs', rfl, hq', hk'⟩
   replace hs' := Lib.hid hs'
   replace hq' := Lib.hid hq'
   have hb2 := Lib.hid (hb.out.trans hk')
   clear hst hb l0 hk' cS hqq
   go_wp2
   go_roundw
   case rel => exact ⟨2, s', d', u', n', by decide, by go_num, rfl, hs', hq', hb2⟩
   case measure => simp [intOf]
  ·have l0 := r2.out wr hb.out
   have cS := Lib.hid (c2.out s d u n wr (hszW.out wr hb.out) hqq.out hst.out)
   go_wp2_with fail
   refine cS.out.mono ?_
   rintro e w1 ⟨s', d', u', n', hs', rfl, hq', hk'⟩
   replace hs' := Lib.hid hs'
   replace hq' := Lib.hid hq'
   have hb2 := Lib.hid (hb.out.trans hk')
   clear hst hb l0 hk' cS hqq
   go_wp2
   go_roundw
   case rel => exact ⟨3, s', d', u', n', by decide, by go_num, rfl, hs', hq', hb2⟩
   case measure => simp [intOf]
  ·have l0 := r3.out wr hb.out
   have cS := Lib.hid (c3.out s d u n wr (hszW.out wr hb.out) hqq.out hst.out)
   go_wp2_with fail
   refine cS.out.mono ?_
   rintro e w1 ⟨s', d', u', n', hs', rfl, hq', hk'⟩
   replace hs' := Lib.hid hs'
   replace hq' := Lib.hid hq'
   have hb2 := Lib.hid (hb.out.trans hk')
   clear hst hb l0 hk' cS hqq
   go_wp2
   go_roundw
   case rel => exact ⟨4, s', d', u', n', by decide, by go_num, rfl, hs', hq', hb2⟩
   case measure => simp [intOf]
  ·have l0 := r4.out wr hb.out
   have cS := Lib.hid (c4.out s d u n wr (hszW.out wr hb.out) hqq.out hst.out)
   go_wp2_with fail
   refine cS.out.mono ?_
   rintro e w1 (⟨s', d', u', n', hs', rfl, hq', hk'⟩ | h)
   ·replace hs' := Lib.hid hs'
    replace hq' := Lib.hid hq'
    have hb2 := Lib.hid (hb.out.trans hk')
    clear hst hb l0 hk' cS hqq
    go_wp2
    go_roundw
    case rel => exact ⟨5, s', d', u', n', by decide, by go_num, rfl, hs', hq', hb2⟩
    case measure => simp [intOf]
   ·obtain ⟨T, j, he⟩ : ∃ T j, e = .returned (.tuple #[.string T, .int .i64 j]) := by
     obtain ⟨S, T, d, u, n, j, hj, hD, rfl, hq, hk⟩ := h
     exact ⟨T, j, rfl⟩
    obtain ⟨hf, hj⟩ := hno.out wr e w1 T j hb.out h he
    subst he
    have d1 : (j != 0) = true := bne_iff_ne.2 hj
    replace hf := Lib.hid hf
    clear hst hb l0 cS hqq h hj hgo hno
    go_wp2
    first | go_ret2 | skip
    exact hf.out
  ·have l0 := r5.out wr hb.out
   have cS := Lib.hid (c5.out s d u n wr (hszW.out wr hb.out) hqq.out hst.out)
   go_wp2_with fail
   refine cS.out.mono ?_
   rintro e w1 ⟨s', d', u', n', hs', rfl, hq', hk'⟩
   replace hs' := Lib.hid hs'
   replace hq' := Lib.hid hq'
   have hb2 := Lib.hid (hb.out.trans hk')
   clear hst hb l0 hk' cS hqq
   go_wp2
   go_roundw
   case rel => exact ⟨6, s', d', u', n', by decide, by go_num, rfl, hs', hq', hb2⟩
   case measure => simp [intOf]
  ·obtain rfl : k = 0 := by omega
   have hf := Lib.hid (hgo.out s d u n wr hst.out hqq.out hb.out)
   clear hst hb hgo hqq
   go_wp2
   first | go_ret2 | skip
   exact hf.out
end F13
namespace F13
open Go.RowKit Mem

def DmR (c T : ByteArray) (d u n j : Int) : Prop :=
 (j = 0 → ∃ S : ByteArray, S.size = 52 ∧ T = S.extract 0 44 ∧ (unE (S.data.toList.take 44) ≠ 0 → DcQ c zeroF 0 0 0 (unE (S.data.toList.take 44))) ∧ (unE (S.data.toList.take 44) = 0 → DcQ c (unF (S.data.toList.take 44)) d u n 0)) ∧
 (j ≠ 0 → DcQ c zeroF 0 0 0 j)
def ApR (c : ByteArray) (Q : Nat) (w : World) (e : Ending) (w' : World) : Prop := ∃ T d u n j, DmR c T d u n j ∧ e = .returned (.tuple #[.string T, .int .i64 j]) ∧ QAt w' Q d u n ∧ Keeps Q w w'
theorem apR_good {c : ByteArray} {Q : Nat} {w w' : World} {e : Ending} (hk0 : C1.chk c.data.toList = 0) (hc : c.size ≤ 836) (h : ApD c Q w e w') : ApR c Q w e w' := by
 have hdc : ∀ F d u n k, InQ (xB c) F d u n k → DcQ c F d u n k := fun F d u n k h => ⟨fun h' => absurd hk0 h', fun _ => ⟨fun h' => absurd hc (by omega), fun _ => h⟩⟩
 rcases h with ⟨S, n, hD, rfl, hq, hk⟩ | ⟨S, d, u, n, j, hj, m, hD, rfl, hq, hk⟩
 ·refine ⟨_, _, _, n, 0, ⟨fun _ => ⟨S, ?_, rfl, fun h => ?_, fun h => ?_⟩, fun h => absurd rfl h⟩, rfl, hq, hk⟩
  ·rw [dec_sz hD, G7.el_len, (byB_sz (xB_size hc) (xB_eB hk0 hc)).1]
  ·exact hdc _ _ _ _ _ ⟨S, n, 0, hD, fun h' => absurd rfl h', fun _ => ⟨fun _ => ⟨⟨rfl, rfl, rfl, rfl⟩, rfl⟩, fun h' => absurd h' h⟩⟩
  ·exact hdc _ _ _ _ _ ⟨S, n, 0, hD, fun h' => absurd rfl h', fun _ => ⟨fun h' => absurd h h', fun _ => ⟨rfl, rfl, rfl, rfl, rfl⟩⟩⟩
 ·refine ⟨_, d, u, n, j, ⟨fun h => absurd h hj, fun _ => ?_⟩, rfl, hq, hk⟩
  exact hdc _ _ _ _ _ ⟨S, m, j, hD, fun _ => ⟨⟨rfl, rfl, rfl, rfl⟩, rfl⟩, fun h => absurd h hj⟩
set_option maxHeartbeats 4000000 in
theorem apply_bad {c : ByteArray} {A Q : Nat} (w : World) (hc : c.size ≤ 1000000) (hA : VAt w A (stepsD Q)) (k : Int) (hk : k ≠ 0) (h : (C1.chk c.data.toList = 3 ∧ k = 3) ∨ (C1.chk c.data.toList = 0 ∧ 836 < c.size ∧ k = 6)) : Calls Tryz.prog 34 #[.string c, .slice (some ⟨A, 0, none⟩) 6 6] w fun e w' => e = .returned (.tuple #[.string ⟨#[]⟩, .int .i64 k]) ∧ w = w' := by
 have l0 : w.cell? ⟨A, 0, none⟩ = some (.func (.func 76) #[] #[]) := (hA 0 (show 0 < 6 by decide)).1
 have cC := Lib.hid (fun W => completed_no c W hc k h)
 have d1 : (k != 0) = true := bne_iff_ne.2 hk
 clear hA h hk hc
 go_enter Tryz.func34, Tryz.ntmps34
 go_wp2
 go_loopw [0, 11] (fun sv iv wr => iv = .int .i64 0 ∧ sv = .string c ∧ wr = w) (fun _ _ _ => 0)
 case atStart => exact ⟨rfl, rfl, rfl⟩
 case round =>
  obtain ⟨rfl, rfl, rfl⟩ := hrel
  go_wp2_with fail
  refine (cC.out _).mono ?_
  rintro e w1 ⟨rfl, rfl⟩
  go_wp2
  go_ret2
  exact ⟨rfl, rfl⟩
theorem apply_any {c : ByteArray} {A Q : Nat} (w : World) (hc : c.size ≤ 1000000) (hA : VAt w A (stepsD Q)) (hs : A < w.heap.size) (hAQ : A ≠ Q) (hQ : Q < w.heap.size) (hq : QAt w Q 0 0 0) : Calls Tryz.prog 34 #[.string c, .slice (some ⟨A, 0, none⟩) 6 6] w (ApR c Q w) := by
 have hbad : ∀ k : Int, k ≠ 0 → ((C1.chk c.data.toList = 3 ∧ k = 3) ∨ (C1.chk c.data.toList = 0 ∧ 836 < c.size ∧ k = 6)) → DcQ c zeroF 0 0 0 k → Calls Tryz.prog 34 #[.string c, .slice (some ⟨A, 0, none⟩) 6 6] w (ApR c Q w) := fun k hk h hD => by
  refine (apply_bad w hc hA k hk h).mono ?_
  rintro e w' ⟨rfl, rfl⟩
  exact ⟨_, 0, 0, 0, k, ⟨fun h => absurd h hk, fun _ => hD⟩, rfl, hq, Keeps.refl _ _⟩
 rcases C1.chk_cases c.data.toList with h | h
 ·by_cases h8 : c.size ≤ 836
  ·exact (applyD w h h8 hA hs hAQ hQ hq).mono fun e w' h' => apR_good h h8 h'
  ·exact hbad 6 (by decide) (.inr ⟨h, by omega, rfl⟩) ⟨fun h' => absurd h h', fun _ => ⟨fun _ => ⟨⟨rfl, rfl, rfl, rfl⟩, rfl⟩, fun h' => absurd h' h8⟩⟩
 ·exact hbad 3 (by decide) (.inl ⟨h, rfl⟩) ⟨fun _ => ⟨⟨rfl, rfl, rfl, rfl⟩, rfl⟩, fun h' => by omega⟩
def DmP (c : ByteArray) (w : World) (e : Ending) (w' : World) : Prop := ∃ T d u n j, DmR c T d u n j ∧ e = .returned (.tuple #[.string T, qV d u n, .int .i64 j]) ∧ Below w.heap.size w w'
set_option maxHeartbeats 8000000 in
theorem message_own (c : ByteArray) (w : World) (hc : c.size ≤ 1000000) : Calls Tryz.prog 46 #[.string c] w (DmP c w) := by
 have hgoal : ∀ T d u n j w', DmR c T d u n j → Below w.heap.size w w' → DmP c w (.returned (.tuple #[.string T, .agg #[.int .i64 d, .int .i64 u, .int .i64 n], .int .i64 j])) w' := fun T d u n j w' h hb => ⟨T, d, u, n, j, h, rfl, hb⟩
 replace hgoal := Lib.hid hgoal
 obtain ⟨P, hP⟩ : ∃ P, DmP c w = P := ⟨_, rfl⟩
 rw [hP] at hgoal ⊢
 show Calls _ _ _ _ (fun e w' => P e w')
 have hq0 : QAt (w.alloc (.cells #[.int .i64 0, .int .i64 0, .int .i64 0] 46)) w.heap.size 0 0 0 := vat_alloc w 46 [.int .i64 0, .int .i64 0, .int .i64 0]
 have hb0 : Below w.heap.size w (w.alloc (.cells #[.int .i64 0, .int .i64 0, .int .i64 0] 46)) := (Below.refl _ _).alloc (Nat.le_refl _) _
 obtain ⟨Q, hQ⟩ : ∃ Q, w.heap.size = Q := ⟨_, rfl⟩
 obtain ⟨W1, hW1⟩ : ∃ W, w.alloc (.cells #[.int .i64 0, .int .i64 0, .int .i64 0] 46) = W := ⟨_, rfl⟩
 have hs1 : W1.heap.size = Q + 1 := by rw [← hW1, ← hQ]; simp
 rw [hW1, hQ] at hq0 hb0
 have hA := vat_alloc W1 106 (stepsD Q)
 have hal := (Below.refl W1.heap.size W1).alloc (Nat.le_refl _) (.cells (stepsD Q).toArray 106)
 obtain ⟨W2, hW2⟩ : ∃ W, W1.alloc (.cells (stepsD Q).toArray 106) = W := ⟨_, rfl⟩
 have hs2 : W2.heap.size = Q + 2 := by rw [← hW2, World.size_alloc, hs1]
 rw [hW2] at hA hal
 rw [hs1] at hA
 have hq2 := hq0.below (by omega) hal
 have hb2 := chain (w := w) (w1 := W1) (by rw [hQ]; exact hb0) hal
 have cA := apply_any (c := c) W2 hc hA (by omega) (by omega) (by omega) hq2
 have hbK := fun w' (h : Keeps Q W2 w') => h.below Q w (Nat.le_refl _) (by rw [hQ] at hb2; exact hb2)
 unfold stepsD at hW2
 replace cA := Lib.hid cA
 replace hbK := Lib.hid hbK
 have hQh := Lib.hid hQ
 have hs1h := Lib.hid hs1
 clear hP hc hq0 hb0 hA hal hs2 hq2 hb2
 go_enter Tryz.func46, Tryz.ntmps46
 go_wp2_with fail
 refine cA.out.mono ?_
 rintro e w3 ⟨T, d, u, n, j, hR, rfl, hq, hk⟩
 have hb3 := hbK.out w3 hk
 have hput : QAt (putN Q w3 0 [.int .i64 d, .int .i64 u, .int .i64 n]) Q d u n := putN_all (l := [.int .i64 d, .int .i64 u, .int .i64 n]) hq rfl
 have hbel : Below Q w (putN Q w3 0 [.int .i64 d, .int .i64 u, .int .i64 n]) := putN_below (Nat.le_refl _) [.int .i64 d, .int .i64 u, .int .i64 n] 0 _ hb3
 obtain ⟨W4, hW4⟩ : ∃ W, putN Q w3 0 [.int .i64 d, .int .i64 u, .int .i64 n] = W := ⟨_, rfl⟩
 rw [hW4] at hput hbel
 have hfin := fun w' hb => hgoal.out T d u n j w' hR hb
 rw [hQ] at hfin
 have hf0 := Lib.hid (hfin W4 hbel)
 have hf1 := Lib.hid (hfin W4.drew hbel.drew)
 simp only [putN, Nat.zero_add, Nat.reduceAdd] at hW4
 obtain ⟨q0, q1, q2, z0, z1, z2⟩ := cells3 hq
 obtain ⟨p0, p1, p2, _, _, _⟩ := cells3 hput
 clear hR hq hk hb3 hput hbel hfin hgoal cA hbK hW1 hW2
 go_wp2_with fail
 go_region
 all_goals
  go_wp2
  first
   |(refine bodyPost_ret (v := .tuple #[.string T, .agg #[.int .i64 d, .int .i64 u, .int .i64 n], .int .i64 j]) ?_ rfl hf1.out
     simp [results, Tryz.results46, go_sem, p0, p1, p2])
   |(refine bodyPost_ret (v := .tuple #[.string T, .agg #[.int .i64 d, .int .i64 u, .int .i64 n], .int .i64 j]) ?_ rfl hf0.out
     simp [results, Tryz.results46, go_sem, p0, p1, p2])
end F13
namespace F13
open Go.RowKit Mem

theorem chk_il {X : List UInt8} (h : X.all C9.okC = true) : C1.chk (I11.il 8 X) = 0 := by
 rw [chk_okC, List.all_eq_true] at *
 exact fun x hx => h x ((I11.perm_il (by decide) X).mem_iff.1 hx)
theorem xB_il {c : ByteArray} {X : List UInt8} (h : c.data.toList = I11.il 8 X) (hX : X.length = 836) : (xB c).data.toList = X := by
 rw [xB_list, h, padL_full (by rw [I11.il_len, hX]), I11.dl_il (by decide)]
theorem dec_il {f : Fr} {W c : ByteArray} {X : List UInt8} (hv : Valid f) (hW : Word f W) (h : c.data.toList = I11.il 8 X) (hX : X.length = 836) (ho : X.all C9.okC = true) (ha : Apart X (C9.enc (bitsOf W))) {F : Fr} {d u n k : Int} (hD : DcQ c F d u n k) :
  F = f ∧ d = (V10.misL X (C9.enc (bitsOf W)) : Int) ∧ u = (C1.unr X : Int) ∧ n = 0 ∧ k = 0 := by
 have hc : C1.chk c.data.toList = 0 := by rw [h]; exact chk_il ho
 have hs : c.size = 836 := by
  have : c.data.toList.length = 836 := by rw [h, I11.il_len, hX]
  simpa using this
 have hI := (hD.2 hc).2 (by omega)
 have hx := xB_il h hX
 have := inner hv hW (xB_size (by omega)) (by rw [hx]; exact ho) (by rw [hx]; exact ha) hI
 rwa [hx] at this
theorem dec_body {f : Fr} {W : ByteArray} (hv : Valid f) (hW : Word f W) {F : Fr} {d u n k : Int} (hD : DcQ (bodyC W) F d u n k) : F = f ∧ d = 0 ∧ u = 0 ∧ n = 0 ∧ k = 0 := by
 have := dec_il (X := C9.cs (C9.enc (bitsOf W))) hv hW rfl (by rw [C9.cs_len, encL W (hW.size hv)]) (C9.okC_sb _) (Apart.same _) hD
 rw [V10.misL_self, show C1.unr (C9.cs (C9.enc (bitsOf W))) = 0 from V10.unrL_cs _] at this
 exact this
end F13
namespace F13
open C9 V10 I11

end F13
namespace F13
open Go.RowKit Mem

theorem body_ok (W : ByteArray) : (bodyC W).data.toList.all C9.okC = true := by
  rw [bodyC_list, List.all_eq_true]
  exact fun x hx => List.all_eq_true.1 (C9.okC_sb (C9.enc (bitsOf W))) x ((I11.perm_il (by decide) _).mem_iff.1 hx)
theorem body_bits (W : ByteArray) : ∀ x ∈ (bodyC W).data.toList, x = 48 ∨ x = 49 := by
  rw [bodyC_list]
  intro x hx
  have h := (I11.perm_il (r := 8) (by decide) _).mem_iff.1 hx
  unfold C9.cs at h
  obtain ⟨b, _, rfl⟩ := List.mem_map.1 h
  cases b
  · exact .inl rfl
  · exact .inr rfl
theorem body_len {W : ByteArray} (h : W.size = 52) : (bodyC W).data.toList.length = 836 := by have := bodyC_size h; simpa using this
theorem dec_near {f : Fr} {W c : ByteArray} (hv : Valid f) (hW : Word f W) (hs : c.size ≤ 836) (hc : c.data.toList.all C9.okC = true) (a : Nat)
    (h : ∀ p, p < 836 → (padL c.data.toList).getD p 0 ≠ (bodyC W).data.toList.getD p 0 → a ≤ p ∧ p < a + 90) {F : Fr} {d u n k : Int} (hD : DcQ c F d u n k) : F = f ∧ k = 0 := by
  have hck : C1.chk c.data.toList = 0 := chk_okC.2 hc
  have hI := (hD.2 hck).2 hs
  have ha : Apart (xB c).data.toList (C9.enc (bitsOf W)) := by
    rw [xB_list]
    exact burst (encL W (hW.size hv)) (padL_len (by simpa using hs)) a h
  obtain ⟨e1, _, _, _, e5⟩ := inner hv hW (xB_size hs) (xB_ok hck) ha hI
  exact ⟨e1, e5⟩
end F13
namespace F13
open Go.RowKit Mem Go.ChangeShapes Go.WideShapes Go.ChangeAt

def u32V (n : Int) : K3.R := BitVec.ofInt 32 n
theorem u32_back {n : Int} (h : (Lit.int .u32 n).wf = true) : ((u32V n).toNat : Int) = n := by
 obtain ⟨h1, h2⟩ : 0 ≤ n ∧ n ≤ 4294967295 := (Lit.wf_int_iff .u32 _).1 h
 unfold u32V
 rw [BitVec.toNat_ofInt]
 omega
structure FitB (f : Fr) : Prop where
 kind : (Lit.int .i64 f.kind).wf = true
 reel : (Lit.int .i64 f.reel).wf = true
 sess : (Lit.int .i64 f.sess).wf = true
 idx : (Lit.int .i64 f.idx).wf = true
 len : (Lit.int .i64 f.len).wf = true
 data : (Lit.int .i64 f.data).wf = true
 spare : (Lit.int .i64 f.spare).wf = true
 arch : (Lit.int .u32 (f.arch.toNat : Int)).wf = true
 size : f.pay.size ≤ maxLen
theorem cells_frame : Tryz.prog.cellsOf 44 = 9 := by kernel_rfl
theorem cells_int : Tryz.prog.cellsOf 3 = 1 := by kernel_rfl
theorem cells_layout : Tryz.prog.cellsOf 41 = 2 := by kernel_rfl
theorem cells_u32 : Tryz.prog.cellsOf 42 = 1 := by kernel_rfl
theorem cells_str : Tryz.prog.cellsOf 9 = 1 := by kernel_rfl

section
variable {H : Type} {enc : TypeId × Value → H} {w : World} {base : Nat} {spare : Nat → Bool} {held : Bool} {r : Reach} {b0 : Nat}
def frD (f : Fr) : DataW H := .agg [.lit (.int .i64 f.kind), .lit (.int .i64 f.reel), .lit (.int .i64 f.sess), .lit (.int .i64 f.idx), .lit (.int .i64 f.len), .agg [.lit (.int .i64 f.data), .lit (.int .i64 f.spare)], .lit (.int .u32 (f.arch.toNat : Int)), .lit (.string f.pay.data.toList)]
theorem frame_of_cells {cs : List Value} {fuel : Nat} {x : DataW H × List MemPlace} (hl : cs.length = 9) (hf : DataW.trod enc Tryz.prog w base spare held fuel 44 cs = some x) :
  ∃ f : Fr, FitB f ∧ cs = f.cells.toList ∧ x = (frD f, []) := by
 match cs, hl with
 | [c0, c1, c2, c3, c4, c5, c6, c7, c8], _ =>
  obtain ⟨xs, n, _, hx, _, hlen, hel⟩ := DataW.trod_struct Tryz.underlying44 hf
  subst hx
  match xs, hlen with
  | [y0, y1, y2, y3, y4, y5, y6, y7], _ =>
   have e0 : DataW.trod enc Tryz.prog w base spare held n 3 (([c0, c1, c2, c3, c4, c5, c6, c7, c8].drop 0).take (Tryz.prog.cellsOf 3)) = some y0 := hel 0 _ rfl
   have e1 : DataW.trod enc Tryz.prog w base spare held n 3 (([c0, c1, c2, c3, c4, c5, c6, c7, c8].drop 1).take (Tryz.prog.cellsOf 3)) = some y1 := hel 1 _ rfl
   have e2 : DataW.trod enc Tryz.prog w base spare held n 3 (([c0, c1, c2, c3, c4, c5, c6, c7, c8].drop 2).take (Tryz.prog.cellsOf 3)) = some y2 := hel 2 _ rfl
   have e3 : DataW.trod enc Tryz.prog w base spare held n 3 (([c0, c1, c2, c3, c4, c5, c6, c7, c8].drop 3).take (Tryz.prog.cellsOf 3)) = some y3 := hel 3 _ rfl
   have e4 : DataW.trod enc Tryz.prog w base spare held n 3 (([c0, c1, c2, c3, c4, c5, c6, c7, c8].drop 4).take (Tryz.prog.cellsOf 3)) = some y4 := hel 4 _ rfl
   have e5 : DataW.trod enc Tryz.prog w base spare held n 41 (([c0, c1, c2, c3, c4, c5, c6, c7, c8].drop 5).take (Tryz.prog.cellsOf 41)) = some y5 := hel 5 _ rfl
   have e6 : DataW.trod enc Tryz.prog w base spare held n 42 (([c0, c1, c2, c3, c4, c5, c6, c7, c8].drop 7).take (Tryz.prog.cellsOf 42)) = some y6 := hel 6 _ rfl
   have e7 : DataW.trod enc Tryz.prog w base spare held n 9 (([c0, c1, c2, c3, c4, c5, c6, c7, c8].drop 8).take (Tryz.prog.cellsOf 9)) = some y7 := hel 7 _ rfl
   simp only [cells_int, cells_layout, cells_u32, cells_str, List.drop_zero, List.drop_succ_cons, List.take_succ_cons, List.take_zero] at e0 e1 e2 e3 e4 e5 e6 e7
   obtain ⟨m0, h0, rfl, w0⟩ := DataW.trod_int Tryz.underlying3 e0
   obtain ⟨m1, h1, rfl, w1⟩ := DataW.trod_int Tryz.underlying3 e1
   obtain ⟨m2, h2, rfl, w2⟩ := DataW.trod_int Tryz.underlying3 e2
   obtain ⟨m3, h3, rfl, w3⟩ := DataW.trod_int Tryz.underlying3 e3
   obtain ⟨m4, h4, rfl, w4⟩ := DataW.trod_int Tryz.underlying3 e4
   obtain ⟨z0, z1, n5, rfl, _, e50', e51'⟩ := trod_struct2 Tryz.underlying41 e5
   have e50 : DataW.trod enc Tryz.prog w base spare held n5 3 (([c5, c6].drop 0).take (Tryz.prog.cellsOf 3)) = some z0 := e50'
   have e51 : DataW.trod enc Tryz.prog w base spare held n5 3 (([c5, c6].drop 1).take (Tryz.prog.cellsOf 3)) = some z1 := e51'
   simp only [cells_int, List.drop_zero, List.drop_succ_cons, List.take_succ_cons, List.take_zero] at e50 e51
   obtain ⟨m5, h5, rfl, w5⟩ := DataW.trod_int Tryz.underlying3 e50
   obtain ⟨m6, h6, rfl, w6⟩ := DataW.trod_int Tryz.underlying3 e51
   obtain ⟨m7, h7, rfl, w7⟩ := DataW.trod_int Tryz.underlying42 e6
   obtain ⟨s, h8, rfl, w8⟩ := DataW.trod_string Tryz.underlying9 e7
   injection h0 with h0 _
   injection h1 with h1 _
   injection h2 with h2 _
   injection h3 with h3 _
   injection h4 with h4 _
   injection h5 with h5 _
   injection h6 with h6 _
   injection h7 with h7 _
   injection h8 with h8 _
   subst h0 h1 h2 h3 h4 h5 h6 h7 h8
   have hb := u32_back w7
   refine ⟨⟨m0, m1, m2, m3, m4, m5, m6, u32V m7, s⟩, ⟨w0, w1, w2, w3, w4, w5, w6, by rw [hb]; exact w7, w8⟩, ?_, ?_⟩
   ·unfold Fr.cells
    rw [hb]
   ·unfold frD
    rw [hb]
    rfl
theorem open_frame {v : Value} {d : DataW H} {ps : List MemPlace} (hval : Value.okWide Tryz.prog w r b0 44 v) (hd : DataW.Trod enc Tryz.prog w base spare held 44 v d ps) :
  ∃ f : Fr, FitB f ∧ v = f.val ∧ d = frD f ∧ ps = [] := by
 unfold Value.okWide at hval
 rw [Tryz.underlying44] at hval
 obtain ⟨cs, rfl, hsz, _⟩ := hval
 rw [cells_frame] at hsz
 obtain ⟨fuel, hf⟩ := hd
 have hcl : (Value.agg cs).cells.toList = cs.toList := rfl
 rw [hcl] at hf
 obtain ⟨f, h1, h2, h3⟩ := frame_of_cells (by simpa using hsz) hf
 injection h3 with h3 h4
 refine ⟨f, h1, ?_, h3, h4⟩
 unfold Fr.val
 congr 1
 exact Array.toList_inj.1 h2
theorem shut_frame {f : Fr} (h : FitB f) : DataW.Trod enc Tryz.prog w base spare held 44 f.val (frD f) [] := by
 obtain ⟨h0, h1, h2, h3, h4, h5, h6, h7, h8⟩ := h
 refine ⟨3, ?_⟩
 have hcl : f.val.cells.toList = [.int .i64 f.kind, .int .i64 f.reel, .int .i64 f.sess, .int .i64 f.idx, .int .i64 f.len, .int .i64 f.data, .int .i64 f.spare, .int .u32 (f.arch.toNat : Int), .string f.pay] := rfl
 rw [hcl]
 have hi := fun (m : Nat) (k : Int) (hw : (Lit.int .i64 k).wf = true) => trod_int_mk (enc := enc) (P := Tryz.prog) (w := w) (base := base) (spare := spare) (held := held) m Tryz.underlying3 hw
 have hly : DataW.trod enc Tryz.prog w base spare held 2 41 [.int .i64 f.data, .int .i64 f.spare] = some (.agg [.lit (.int .i64 f.data), .lit (.int .i64 f.spare)], []) := by
  have := trod_struct2_mk (enc := enc) (w := w) (base := base) (spare := spare) (held := held) (n := 1) (cs := [.int .i64 f.data, .int .i64 f.spare]) (y0 := (.lit (.int .i64 f.data), [])) (y1 := (.lit (.int .i64 f.spare), [])) Tryz.underlying41 (by rw [cells_layout]; rfl)
   (by rw [cells_int]; exact hi 0 _ h5) (by rw [cells_int]; exact hi 0 _ h6)
  exact this
 have hst : DataW.trod enc Tryz.prog w base spare held 2 9 [.string f.pay] = some (.lit (.string f.pay.data.toList), []) := by
  simp [DataW.trod, Tryz.underlying9, h8]
 have := trod_struct_mk (enc := enc) (w := w) (base := base) (spare := spare) (held := held) (n := 2) (cs := [.int .i64 f.kind, .int .i64 f.reel, .int .i64 f.sess, .int .i64 f.idx, .int .i64 f.len, .int .i64 f.data, .int .i64 f.spare, .int .u32 (f.arch.toNat : Int), .string f.pay])
  (xs := [(.lit (.int .i64 f.kind), []), (.lit (.int .i64 f.reel), []), (.lit (.int .i64 f.sess), []), (.lit (.int .i64 f.idx), []), (.lit (.int .i64 f.len), []), (.agg [.lit (.int .i64 f.data), .lit (.int .i64 f.spare)], []), (.lit (.int .u32 (f.arch.toNat : Int)), []), (.lit (.string f.pay.data.toList), [])])
  Tryz.underlying44 (by rw [cells_frame]; rfl) (by
   have hu := trod_int_mk (enc := enc) (P := Tryz.prog) (w := w) (base := base) (spare := spare) (held := held) 1 Tryz.underlying42 h7
   simp [cells_int, cells_layout, cells_u32, cells_str, hi 1 _ h0, hi 1 _ h1, hi 1 _ h2, hi 1 _ h3, hi 1 _ h4, hly, hu, hst])
 exact this
end
end F13
end Go.Proofs.YtiodkllckcpinaaGreatDoor
