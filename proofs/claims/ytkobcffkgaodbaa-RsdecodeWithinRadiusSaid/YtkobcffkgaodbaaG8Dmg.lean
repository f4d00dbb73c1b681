/- The contract of the laws' helper damage. -/
import Derived.Test.YtkobcffkgaodbaaG8Law1
import Derived.Test.YtkobcffkgaodbaaG8Map
import Derived.Test.YtkobcffkgaodbaaG8Law3
namespace Go.Proofs.Ytkobcffkgaodbaa.G8
open Go.Proofs.Ytkobcffkgaodbaa.G5
open Go.Proofs.Ytkobcffkgaodbaa.G7
open Go.Proofs.Ytkobcffkgaodbaa.G6 (IsSl)
open Go.RowKit Mem
open Go.Maps
set_option linter.unusedVariables false
set_option linter.unusedSimpArgs false

/-- Booleans as cells. -/
def bs (l : List Bool) : List Value := l.map fun b => .bool b
structure IsBools (w : World) (A : Option Addr) (cap : Nat) (l : List Bool) : Prop where
  hle : l.length ≤ cap
  hcap : cap ≤ 9223372036854775807
  hnil : A = none → cap = 0
  rd : Rd w A (bs l)
theorem IsBools.below {w w' : World} {A : Option Addr} {cap : Nat} {l : List Bool} (h : IsBools w A cap l) (k : Below w.heap.size w w') : IsBools w' A cap l := ⟨h.hle, h.hcap, h.hnil, h.rd.below k⟩
theorem IsBools.read {w : World} {A : Option Addr} {cap : Nat} {l : List Bool} (h : IsBools w A cap l) (j : Nat) (hj : j < l.length) :
    ∃ b o : Nat, A = some ⟨b, o, none⟩ ∧ b < w.heap.size ∧ w.cell? ⟨b, o + j, none⟩ = some (.bool (l.getD j false)) := by
  obtain ⟨b, o, e, hb, hc⟩ := h.rd j (by simpa [bs] using hj)
  refine ⟨b, o, e, hb, hc.trans ?_⟩
  simp [bs, List.getD_eq_getElem?_getD, List.getElem?_eq_getElem hj]
/-- A word damaged within the radius p, with bg of it unused. -/
structure Dmg (c : List R) (p : Nat) (u : List R) (zs : List Int) (bg : Nat) : Prop where
  len : u.length = c.length
  range : ∀ z ∈ zs, 0 ≤ z ∧ z < (c.length : Int)
  rad : 2 * errs u c (Lof zs) + losts c.length (Lof zs) + bg ≤ p
theorem Dmg.start (c : List R) (p : Nat) : Dmg c p c [] p := ⟨rfl, fun z h => by simp at h, by
  rw [errs_self]
  have := losts_le c.length []
  simp at this
  omega⟩
theorem Dmg.err {c u : List R} {p bg bg' : Nat} {zs : List Int} (h : Dmg c p u zs bg) (k : Nat) (v : R) (hb : bg = bg' + 2) : Dmg c p (u.set k v) zs bg' :=
  ⟨by rw [List.length_set, h.len], h.range, by have := errs_set u c (Lof zs) k v; have := h.rad; omega⟩
theorem Dmg.lose {c u : List R} {p bg bg' : Nat} {zs : List Int} (h : Dmg c p u zs bg) {k : Nat} (hk : k < c.length) (v : R) (hb : bg = bg' + 1) : Dmg c p (u.set k v) (zs ++ [(k : Int)]) bg' := by
  have hy : ∀ z, z ∈ zs ++ [(k : Int)] ↔ z ∈ zs ∨ z = (k : Int) := fun z => by simp
  refine ⟨by rw [List.length_set, h.len], fun z hz => ?_, ?_⟩
  · rcases (hy z).1 hz with h1 | h1
    · exact h.range z h1
    · omega
  · have h1 := errs_lose u c zs _ k v hy
    have h2 := losts_snoc c.length zs _ k hy
    have := h.rad
    omega

theorem map_mono {w : World} {B n m : Nat} {us : List Int} (h : w.ownsMap Try.prog 3 (plainElem Try.prog 4) B n (setI us)) (hm : n ≤ m) : w.ownsMap Try.prog 3 (plainElem Try.prog 4) B m (setI us) := by
  obtain ⟨es, clock, h1, h2, h3, h4⟩ := h
  exact ⟨es, clock, h1, h2, Nat.le_trans h3 hm, h4⟩
theorem map_below {w w1 : World} {B n : Nat} {us : List Int} (h : w.ownsMap Try.prog 3 (plainElem Try.prog 4) B n (setI us)) (hb : Below w.heap.size w w1) : w1.ownsMap Try.prog 3 (plainElem Try.prog 4) B n (setI us) := by
  obtain ⟨es, clock, hh, hrest⟩ := h
  exact ⟨es, clock, (hb.block B (Array.getElem?_eq_some_iff.1 hh).1).trans hh, hrest⟩
theorem row_ne {w : World} {B n : Nat} {e : TypeId} {v : Value} {xs : List Value} (h : w.ownsRow (B + 1) e 1 v n xs) : v.ownBlock ≠ some B := fun e => by
  have := (h.lt B e).1
  omega
/-- What damage hands back. -/
def Damd (c : List R) (p : Nat) (w : World) (e : Ending) (w' : World) : Prop := ∃ (U : ByteArray) (zs : List Int) (A : Option Addr) (m cap : Nat), Dmg c p (el U) zs 0 ∧ zs.length = m ∧ m ≤ 40 ∧ e = .returned (.tuple #[.string U, .slice A m cap, .int .i64 (dif c (el U) : Int)]) ∧ IsInts w' A cap zs ∧ Below w.heap.size w w'
set_option maxRecDepth 100000 in
set_option maxHeartbeats 16000000 in
theorem damage_any (C : ByteArray) (p n2 n3 n4 c2 c3 c4 : Nat) (A2 A3 A4 : Option Addr) (at_ by_ : List R) (er : List Bool) (w : World) (hC1 : 1 ≤ C.size) (hC2 : C.size ≤ 60) (hp : p ≤ 16) (hn2 : n2 ≤ 40) (h2 : IsSl w A2 c2 at_) (h3 : IsSl w A3 c3 by_) (h4 : IsBools w A4 c4 er) (l2 : at_.length = n2) (l3 : by_.length = n3) (l4 : er.length = n4) :
    Calls Try.prog 14 #[.string C, .int .i64 (p : Int), .slice A2 n2 c2, .slice A3 n3 c3, .slice A4 n4 c4] w (Damd (el C) p w) := by
  obtain ⟨j0, hj, hy0, hy1, hy2⟩ := info_parts info_int
  obtain ⟨N, hN⟩ : ∃ N, C.size = N := ⟨_, rfl⟩
  have h2 := Lib.hid h2
  have h3 := Lib.hid h3
  have h4 := Lib.hid h4
  have l2 := Lib.hid l2
  have l3 := Lib.hid l3
  have l4 := Lib.hid l4
  have hmm := @run_makeMap Try.prog
  have hst := Lib.hid (Dmg.start (el C) p)
  have hst2 := Lib.hid (show str (el C) = C from str_el C)
  have hNh := Lib.hid hN
  have hel := Lib.hid (show (el C).length = N by rw [el_len, hN])
  have hN1 : 1 ≤ N := by omega
  have hN2 : N ≤ 60 := by omega
  have hm0 : (w.alloc (.map #[] 0)).ownsMap Try.prog 3 (plainElem Try.prog 4) w.heap.size 0 (setI []) := World.ownsMap_made _ _ _ _
  have hb0 : Below w.heap.size w (w.alloc (.map #[] 0)) := (Below.refl _ _).alloc (Nat.le_refl _) _
  obtain ⟨B, hBB⟩ : ∃ B, w.heap.size = B := ⟨_, rfl⟩
  have hBh := Lib.hid hBB
  rw [hBB] at hm0
  clear hN
  go_enter Try.func14, Try.ntmps14
  go_wp2
  clear hBB hmm
  go_loopw [13, 14, 16, 17] (fun sv lv gv iv wr => ∃ (i m bg : Nat) (U : ByteArray) (zs us : List Int), i ≤ n2 ∧ m ≤ i ∧ bg ≤ 16 ∧ sv = .string U ∧ gv = .int .i64 (bg : Int) ∧ iv = .int .i64 (i : Int) ∧ wr.ownsRow (B + 1) 3 1 lv m (is zs) ∧ wr.ownsMap Try.prog 3 (plainElem Try.prog 4) B i (setI us) ∧ Hid (zs.length = m ∧ Dmg (el C) p (el U) zs bg) ∧ Below w.heap.size w wr) (fun _ _ _ iv _ => n2 - (intOf iv).toNat)
  case atStart => exact ⟨0, 0, p, C, [], [], Nat.zero_le _, Nat.le_refl _, hp, rfl, rfl, rfl, World.ownsRow_nil _ _ _ _, hm0, Lib.hid ⟨rfl, hst.out⟩, hb0⟩
  case round =>
    clear hm0 hb0 hst
    obtain ⟨i, m, bg, U, zs, us, hi, hm, hbg, rfl, rfl, rfl, hrow, hmap, hd, hb⟩ := hrel
    by_cases hlt : i < n2
    · skip
      obtain ⟨b2, o2, rfl, hbl2, hc2⟩ := (h2.out.below hb).read i (by rw [l2.out]; exact hlt)
      obtain ⟨X, hX⟩ : ∃ X, at_.getD i 0 = X := ⟨_, rfl⟩
      rw [hX] at hc2
      have hXl := X.isLt
      obtain ⟨k, hk⟩ : ∃ k, X.toNat % N = k := ⟨_, rfl⟩
      have hkN : k < N := by rw [← hk]; exact Nat.mod_lt _ (by omega)
      have ek : (X.toNat : Int) % (N : Int) = (k : Int) := by omega
      have ek2 : Int.tmod (X.toNat : Int) (N : Int) = (k : Int) := by rw [Int.tmod_eq_emod_of_nonneg (by omega)]; exact ek
      have ek3 : (X.toNat : Int) % (C.size : Int) = (k : Int) := by rw [hNh.out]; exact ek
      have ek4 : Int.tmod (X.toNat : Int) (C.size : Int) = (k : Int) := by rw [hNh.out]; exact ek2
      have i0 : (0 : Int) ≤ (i : Int) := by omega
      have i1 : (i : Int) < (n2 : Int) := by omega
      have d1 : decide (i < n2) = true := decide_eq_true hlt
      have nz2 : ¬ (N : Int) = 0 := by omega
      have nz3 : ¬ N = 0 := by omega
      have hCs := hNh.out
      have hwf : (Lit.int .i64 (k : Int)).wf = true := (Lit.wf_int_iff .i64 _).2 ⟨by show (-9223372036854775808 : Int) ≤ _; omega, by show _ ≤ (9223372036854775807 : Int); omega⟩
      have hlk := look_set hmap (k : Int) hwf
      have hkey := Lib.hid (keyOf_int_mk (P := Try.prog) (k := 3) Try.underlying3 hwf)
      have hUs : U.size = N := by rw [← el_len, hd.out.2.len, hel.out]
      have hUb : U.size ≤ 60 := by omega
      have hUk : k < U.size := by omega
      clear hX hk hwf hUs
      by_cases hy : i < n3
      · obtain ⟨b3, o3, rfl, hbl3, hc3⟩ := (h3.out.below hb).read i (by rw [l3.out]; exact hy)
        obtain ⟨v, hv⟩ : ∃ v, by_.getD i 0 = v := ⟨_, rfl⟩
        rw [hv] at hc3
        clear hv
        have d3 : (i : Int) < (n3 : Int) := by omega
        have d3' : decide (i < n3) = true := decide_eq_true hy
        by_cases he : i < n4
        · obtain ⟨b4, o4, rfl, hbl4, hc4⟩ := (h4.out.below hb).read i (by rw [l4.out]; exact he)
          have d4 : (i : Int) < (n4 : Int) := by omega
          have d4' : decide (i < n4) = true := decide_eq_true he
          rcases hE : er.getD i false with _ | _
          · rw [hE] at hc4
            clear hE
            rcases hv0 : v == 0#8 with _ | _
            · have dv : ((v.toNat : Int) == 0) = false := by rw [G6.z_el, hv0]
              clear hv0
              by_cases hu : (k : Int) ∈ us
              · rw [decide_eq_true hu] at hlk
                clear hu
                go_wp2
                go_roundw
                case rel => exact ⟨i + 1, m, bg, U, zs, us, by omega, by omega, by omega, rfl, rfl, by go_num, hrow, map_mono hmap (by omega), hd, hb⟩
                case measure => simp [intOf]; omega
              · rw [decide_eq_false hu] at hlk
                clear hu
                by_cases hc : bg < 2
                · have dc : decide ((bg : Int) < 2) = true := decide_eq_true (by omega)
                  go_wp2
                  go_roundw
                  case rel => exact ⟨i + 1, m, bg, U, zs, us, by omega, by omega, by omega, rfl, rfl, by go_num, hrow, map_mono hmap (by omega), hd, hb⟩
                  case measure => simp [intOf]; omega
                · have dc : decide ((bg : Int) < 2) = false := decide_eq_false (by omega)
                  obtain ⟨bg', hbg'⟩ : ∃ bg', bg = bg' + 2 := ⟨bg - 2, by omega⟩
                  have eb : (bg : Int) - 2 = (bg' : Int) := by omega
                  have hbgh := Lib.hid hbg'
                  clear hbg'
                  go_wp2_with (at_mapUpdate; refine wpList_mapUpdate_own _ rfl _ _ _ 35 rfl 3 4 (int_keyed Try.underlying3) Try.underlying35 _ B i _ rfl hmap (by unfold maxLen; omega) _ _ _ rfl rfl hkey.out _ [] (plainElem_bool Try.underlying4 true) ?_)
                  intro w4 hmap4 hgr
                  rw [show (Lit.int .i64 (k : Int)) = keyI (k : Int) from rfl, ← setI_snoc] at hmap4
                  have hb4 := hb.grown hgr hb.size (fun j hj => by cases hj; rw [hBh.out]; exact Nat.le_refl _)
                  have hrow4 := hrow.kept hgr (.inr (row_ne hrow))
                  clear hgr hmap hrow hb hlk
                  have cC := Lib.hid (change_any U k v w4 (by omega) (by omega))
                  obtain ⟨U', hU'⟩ : ∃ U', str ((el U).set k ((el U).getD k 0 ^^^ v)) = U' := ⟨_, rfl⟩
                  have hd' := Lib.hid (show (zs).length = m ∧ Dmg (el C) p (el U') (zs) bg' from ⟨hd.out.1, by rw [← hU', el_str]; exact hd.out.2.err k _ hbgh.out⟩)
                  rw [hU'] at cC
                  clear hU' hd
                  go_wp2_with fail
                  refine cC.out.mono ?_
                  rintro e w6 ⟨rfl, hb6⟩
                  have hrow6 := own_below hrow4 hb6
                  have hmap6 := map_below hmap4 hb6
                  have hB6 := chain hb4 hb6
                  clear cC hb6 hrow4 hmap4 hb4
                  go_wp2
                  go_roundw
                  case rel => exact ⟨i + 1, m, bg', U', zs, us ++ [(k : Int)], by omega, by omega, by have := hbgh.out; omega, rfl, rfl, by go_num, hrow6, hmap6, hd', hB6⟩
                  case measure => simp [intOf]; omega
            · have dv : ((v.toNat : Int) == 0) = true := by rw [G6.z_el, hv0]
              clear hv0 hlk
              go_wp2
              go_roundw
              case rel => exact ⟨i + 1, m, bg, U, zs, us, by omega, by omega, by omega, rfl, rfl, by go_num, hrow, map_mono hmap (by omega), hd, hb⟩
              case measure => simp [intOf]; omega
          · rw [hE] at hc4
            clear hE
            by_cases hu : (k : Int) ∈ us
            · rw [decide_eq_true hu] at hlk
              clear hu
              go_wp2
              go_roundw
              case rel => exact ⟨i + 1, m, bg, U, zs, us, by omega, by omega, by omega, rfl, rfl, by go_num, hrow, map_mono hmap (by omega), hd, hb⟩
              case measure => simp [intOf]; omega
            · rw [decide_eq_false hu] at hlk
              clear hu
              by_cases hc : bg < 1
              · have dc : decide ((bg : Int) < 1) = true := decide_eq_true (by omega)
                go_wp2
                go_roundw
                case rel => exact ⟨i + 1, m, bg, U, zs, us, by omega, by omega, by omega, rfl, rfl, by go_num, hrow, map_mono hmap (by omega), hd, hb⟩
                case measure => simp [intOf]; omega
              · have dc : decide ((bg : Int) < 1) = false := decide_eq_false (by omega)
                obtain ⟨bg', hbg'⟩ : ∃ bg', bg = bg' + 1 := ⟨bg - 1, by omega⟩
                have eb : (bg : Int) - 1 = (bg' : Int) := by omega
                have hbgh := Lib.hid hbg'
                clear hbg'
                go_wp2_with (at_mapUpdate; refine wpList_mapUpdate_own _ rfl _ _ _ 35 rfl 3 4 (int_keyed Try.underlying3) Try.underlying35 _ B i _ rfl hmap (by unfold maxLen; omega) _ _ _ rfl rfl hkey.out _ [] (plainElem_bool Try.underlying4 true) ?_)
                intro w4 hmap4 hgr
                rw [show (Lit.int .i64 (k : Int)) = keyI (k : Int) from rfl, ← setI_snoc] at hmap4
                have hb4 := hb.grown hgr hb.size (fun j hj => by cases hj; rw [hBh.out]; exact Nat.le_refl _)
                have hrow4 := hrow.kept hgr (.inr (row_ne hrow))
                clear hgr hmap hrow hb hlk
                go_wp2_with (at_builtin; refine wpList_append_own _ rfl _ _ 22 rfl (B + 1) 3 j0 (.int .i64 0) 1 8 Try.underlying22 hj hy0 hy1 hy2 rfl (by decide) _ _ _ rfl (hrow4.alloc _) ⟨w4.heap.size, 0, none⟩ 1 1 [.int .i64 (k : Int)] rfl rfl (one_new _ _ _) (one_cell _ _) ?_ ?_ ?_ ?_)
                · unfold maxLen; omega
                · omega
                · have := hmap4.lt; simp; omega
                intro v' w5 hrow5 hgr5 _
                rw [show [Value.int .i64 (k : Int)] = is [(k : Int)] from rfl, ← is_append] at hrow5
                have hb5 := (hb4.alloc hb4.size _).grown hgr5 (by have := hb4.size; simp; omega) (fun j hj => by have := (hrow4.lt j hj).1; rw [hBh.out]; omega)
                have hmap5 := (hmap4.alloc (.cells #[.int .i64 (k : Int)] 3)).kept hgr5 (fun e => row_ne hrow4 e.symm)
                clear hgr5 hrow4 hb4 hmap4
                have cC := Lib.hid (change_any U k v w5 (by omega) (by omega))
                obtain ⟨U', hU'⟩ : ∃ U', str ((el U).set k ((el U).getD k 0 ^^^ v)) = U' := ⟨_, rfl⟩
                have hd' := Lib.hid (show (zs ++ [(k : Int)]).length = m + 1 ∧ Dmg (el C) p (el U') (zs ++ [(k : Int)]) bg' from ⟨by rw [List.length_append, hd.out.1]; rfl, by rw [← hU', el_str]; exact hd.out.2.lose (k := k) (by rw [hel.out]; exact hkN) _ hbgh.out⟩)
                rw [hU'] at cC
                clear hU' hd
                go_wp2_with fail
                refine cC.out.mono ?_
                rintro e w6 ⟨rfl, hb6⟩
                have hrow6 := own_below hrow5 hb6
                have hmap6 := map_below hmap5 hb6
                have hB6 := chain hb5 hb6
                clear cC hb6 hrow5 hmap5 hb5
                go_wp2
                go_roundw
                case rel => exact ⟨i + 1, m + 1, bg', U', zs ++ [(k : Int)], us ++ [(k : Int)], by omega, by omega, by have := hbgh.out; omega, rfl, rfl, by go_num, hrow6, hmap6, hd', hB6⟩
                case measure => simp [intOf]; omega
        · have d4 : ¬ (i : Int) < (n4 : Int) := by omega
          have d4' : decide (i < n4) = false := decide_eq_false he
          rcases hv0 : v == 0#8 with _ | _
          · have dv : ((v.toNat : Int) == 0) = false := by rw [G6.z_el, hv0]
            clear hv0
            by_cases hu : (k : Int) ∈ us
            · rw [decide_eq_true hu] at hlk
              clear hu
              go_wp2
              go_roundw
              case rel => exact ⟨i + 1, m, bg, U, zs, us, by omega, by omega, by omega, rfl, rfl, by go_num, hrow, map_mono hmap (by omega), hd, hb⟩
              case measure => simp [intOf]; omega
            · rw [decide_eq_false hu] at hlk
              clear hu
              by_cases hc : bg < 2
              · have dc : decide ((bg : Int) < 2) = true := decide_eq_true (by omega)
                go_wp2
                go_roundw
                case rel => exact ⟨i + 1, m, bg, U, zs, us, by omega, by omega, by omega, rfl, rfl, by go_num, hrow, map_mono hmap (by omega), hd, hb⟩
                case measure => simp [intOf]; omega
              · have dc : decide ((bg : Int) < 2) = false := decide_eq_false (by omega)
                obtain ⟨bg', hbg'⟩ : ∃ bg', bg = bg' + 2 := ⟨bg - 2, by omega⟩
                have eb : (bg : Int) - 2 = (bg' : Int) := by omega
                have hbgh := Lib.hid hbg'
                clear hbg'
                go_wp2_with (at_mapUpdate; refine wpList_mapUpdate_own _ rfl _ _ _ 35 rfl 3 4 (int_keyed Try.underlying3) Try.underlying35 _ B i _ rfl hmap (by unfold maxLen; omega) _ _ _ rfl rfl hkey.out _ [] (plainElem_bool Try.underlying4 true) ?_)
                intro w4 hmap4 hgr
                rw [show (Lit.int .i64 (k : Int)) = keyI (k : Int) from rfl, ← setI_snoc] at hmap4
                have hb4 := hb.grown hgr hb.size (fun j hj => by cases hj; rw [hBh.out]; exact Nat.le_refl _)
                have hrow4 := hrow.kept hgr (.inr (row_ne hrow))
                clear hgr hmap hrow hb hlk
                have cC := Lib.hid (change_any U k v w4 (by omega) (by omega))
                obtain ⟨U', hU'⟩ : ∃ U', str ((el U).set k ((el U).getD k 0 ^^^ v)) = U' := ⟨_, rfl⟩
                have hd' := Lib.hid (show (zs).length = m ∧ Dmg (el C) p (el U') (zs) bg' from ⟨hd.out.1, by rw [← hU', el_str]; exact hd.out.2.err k _ hbgh.out⟩)
                rw [hU'] at cC
                clear hU' hd
                go_wp2_with fail
                refine cC.out.mono ?_
                rintro e w6 ⟨rfl, hb6⟩
                have hrow6 := own_below hrow4 hb6
                have hmap6 := map_below hmap4 hb6
                have hB6 := chain hb4 hb6
                clear cC hb6 hrow4 hmap4 hb4
                go_wp2
                go_roundw
                case rel => exact ⟨i + 1, m, bg', U', zs, us ++ [(k : Int)], by omega, by omega, by have := hbgh.out; omega, rfl, rfl, by go_num, hrow6, hmap6, hd', hB6⟩
                case measure => simp [intOf]; omega
          · have dv : ((v.toNat : Int) == 0) = true := by rw [G6.z_el, hv0]
            clear hv0 hlk
            go_wp2
            go_roundw
            case rel => exact ⟨i + 1, m, bg, U, zs, us, by omega, by omega, by omega, rfl, rfl, by go_num, hrow, map_mono hmap (by omega), hd, hb⟩
            case measure => simp [intOf]; omega
      · have d3 : ¬ (i : Int) < (n3 : Int) := by omega
        have d3' : decide (i < n3) = false := decide_eq_false hy
        by_cases he : i < n4
        · obtain ⟨b4, o4, rfl, hbl4, hc4⟩ := (h4.out.below hb).read i (by rw [l4.out]; exact he)
          have d4 : (i : Int) < (n4 : Int) := by omega
          have d4' : decide (i < n4) = true := decide_eq_true he
          rcases hE : er.getD i false with _ | _
          · rw [hE] at hc4
            clear hE
            by_cases hu : (k : Int) ∈ us
            · rw [decide_eq_true hu] at hlk
              clear hu
              go_wp2
              go_roundw
              case rel => exact ⟨i + 1, m, bg, U, zs, us, by omega, by omega, by omega, rfl, rfl, by go_num, hrow, map_mono hmap (by omega), hd, hb⟩
              case measure => simp [intOf]; omega
            · rw [decide_eq_false hu] at hlk
              clear hu
              by_cases hc : bg < 2
              · have dc : decide ((bg : Int) < 2) = true := decide_eq_true (by omega)
                go_wp2
                go_roundw
                case rel => exact ⟨i + 1, m, bg, U, zs, us, by omega, by omega, by omega, rfl, rfl, by go_num, hrow, map_mono hmap (by omega), hd, hb⟩
                case measure => simp [intOf]; omega
              · have dc : decide ((bg : Int) < 2) = false := decide_eq_false (by omega)
                obtain ⟨bg', hbg'⟩ : ∃ bg', bg = bg' + 2 := ⟨bg - 2, by omega⟩
                have eb : (bg : Int) - 2 = (bg' : Int) := by omega
                have hbgh := Lib.hid hbg'
                clear hbg'
                go_wp2_with (at_mapUpdate; refine wpList_mapUpdate_own _ rfl _ _ _ 35 rfl 3 4 (int_keyed Try.underlying3) Try.underlying35 _ B i _ rfl hmap (by unfold maxLen; omega) _ _ _ rfl rfl hkey.out _ [] (plainElem_bool Try.underlying4 true) ?_)
                intro w4 hmap4 hgr
                rw [show (Lit.int .i64 (k : Int)) = keyI (k : Int) from rfl, ← setI_snoc] at hmap4
                have hb4 := hb.grown hgr hb.size (fun j hj => by cases hj; rw [hBh.out]; exact Nat.le_refl _)
                have hrow4 := hrow.kept hgr (.inr (row_ne hrow))
                clear hgr hmap hrow hb hlk
                have cC := Lib.hid (change_any U k 1#8 w4 (by omega) (by omega))
                obtain ⟨U', hU'⟩ : ∃ U', str ((el U).set k ((el U).getD k 0 ^^^ 1#8)) = U' := ⟨_, rfl⟩
                have hd' := Lib.hid (show (zs).length = m ∧ Dmg (el C) p (el U') (zs) bg' from ⟨hd.out.1, by rw [← hU', el_str]; exact hd.out.2.err k _ hbgh.out⟩)
                rw [hU'] at cC
                clear hU' hd
                go_wp2_with fail
                refine cC.out.mono ?_
                rintro e w6 ⟨rfl, hb6⟩
                have hrow6 := own_below hrow4 hb6
                have hmap6 := map_below hmap4 hb6
                have hB6 := chain hb4 hb6
                clear cC hb6 hrow4 hmap4 hb4
                go_wp2
                go_roundw
                case rel => exact ⟨i + 1, m, bg', U', zs, us ++ [(k : Int)], by omega, by omega, by have := hbgh.out; omega, rfl, rfl, by go_num, hrow6, hmap6, hd', hB6⟩
                case measure => simp [intOf]; omega
          · rw [hE] at hc4
            clear hE
            by_cases hu : (k : Int) ∈ us
            · rw [decide_eq_true hu] at hlk
              clear hu
              go_wp2
              go_roundw
              case rel => exact ⟨i + 1, m, bg, U, zs, us, by omega, by omega, by omega, rfl, rfl, by go_num, hrow, map_mono hmap (by omega), hd, hb⟩
              case measure => simp [intOf]; omega
            · rw [decide_eq_false hu] at hlk
              clear hu
              by_cases hc : bg < 1
              · have dc : decide ((bg : Int) < 1) = true := decide_eq_true (by omega)
                go_wp2
                go_roundw
                case rel => exact ⟨i + 1, m, bg, U, zs, us, by omega, by omega, by omega, rfl, rfl, by go_num, hrow, map_mono hmap (by omega), hd, hb⟩
                case measure => simp [intOf]; omega
              · have dc : decide ((bg : Int) < 1) = false := decide_eq_false (by omega)
                obtain ⟨bg', hbg'⟩ : ∃ bg', bg = bg' + 1 := ⟨bg - 1, by omega⟩
                have eb : (bg : Int) - 1 = (bg' : Int) := by omega
                have hbgh := Lib.hid hbg'
                clear hbg'
                go_wp2_with (at_mapUpdate; refine wpList_mapUpdate_own _ rfl _ _ _ 35 rfl 3 4 (int_keyed Try.underlying3) Try.underlying35 _ B i _ rfl hmap (by unfold maxLen; omega) _ _ _ rfl rfl hkey.out _ [] (plainElem_bool Try.underlying4 true) ?_)
                intro w4 hmap4 hgr
                rw [show (Lit.int .i64 (k : Int)) = keyI (k : Int) from rfl, ← setI_snoc] at hmap4
                have hb4 := hb.grown hgr hb.size (fun j hj => by cases hj; rw [hBh.out]; exact Nat.le_refl _)
                have hrow4 := hrow.kept hgr (.inr (row_ne hrow))
                clear hgr hmap hrow hb hlk
                go_wp2_with (at_builtin; refine wpList_append_own _ rfl _ _ 22 rfl (B + 1) 3 j0 (.int .i64 0) 1 8 Try.underlying22 hj hy0 hy1 hy2 rfl (by decide) _ _ _ rfl (hrow4.alloc _) ⟨w4.heap.size, 0, none⟩ 1 1 [.int .i64 (k : Int)] rfl rfl (one_new _ _ _) (one_cell _ _) ?_ ?_ ?_ ?_)
                · unfold maxLen; omega
                · omega
                · have := hmap4.lt; simp; omega
                intro v' w5 hrow5 hgr5 _
                rw [show [Value.int .i64 (k : Int)] = is [(k : Int)] from rfl, ← is_append] at hrow5
                have hb5 := (hb4.alloc hb4.size _).grown hgr5 (by have := hb4.size; simp; omega) (fun j hj => by have := (hrow4.lt j hj).1; rw [hBh.out]; omega)
                have hmap5 := (hmap4.alloc (.cells #[.int .i64 (k : Int)] 3)).kept hgr5 (fun e => row_ne hrow4 e.symm)
                clear hgr5 hrow4 hb4 hmap4
                have cC := Lib.hid (change_any U k 1#8 w5 (by omega) (by omega))
                obtain ⟨U', hU'⟩ : ∃ U', str ((el U).set k ((el U).getD k 0 ^^^ 1#8)) = U' := ⟨_, rfl⟩
                have hd' := Lib.hid (show (zs ++ [(k : Int)]).length = m + 1 ∧ Dmg (el C) p (el U') (zs ++ [(k : Int)]) bg' from ⟨by rw [List.length_append, hd.out.1]; rfl, by rw [← hU', el_str]; exact hd.out.2.lose (k := k) (by rw [hel.out]; exact hkN) _ hbgh.out⟩)
                rw [hU'] at cC
                clear hU' hd
                go_wp2_with fail
                refine cC.out.mono ?_
                rintro e w6 ⟨rfl, hb6⟩
                have hrow6 := own_below hrow5 hb6
                have hmap6 := map_below hmap5 hb6
                have hB6 := chain hb5 hb6
                clear cC hb6 hrow5 hmap5 hb5
                go_wp2
                go_roundw
                case rel => exact ⟨i + 1, m + 1, bg', U', zs ++ [(k : Int)], us ++ [(k : Int)], by omega, by omega, by have := hbgh.out; omega, rfl, rfl, by go_num, hrow6, hmap6, hd', hB6⟩
                case measure => simp [intOf]; omega
        · have d4 : ¬ (i : Int) < (n4 : Int) := by omega
          have d4' : decide (i < n4) = false := decide_eq_false he
          by_cases hu : (k : Int) ∈ us
          · rw [decide_eq_true hu] at hlk
            clear hu
            go_wp2
            go_roundw
            case rel => exact ⟨i + 1, m, bg, U, zs, us, by omega, by omega, by omega, rfl, rfl, by go_num, hrow, map_mono hmap (by omega), hd, hb⟩
            case measure => simp [intOf]; omega
          · rw [decide_eq_false hu] at hlk
            clear hu
            by_cases hc : bg < 2
            · have dc : decide ((bg : Int) < 2) = true := decide_eq_true (by omega)
              go_wp2
              go_roundw
              case rel => exact ⟨i + 1, m, bg, U, zs, us, by omega, by omega, by omega, rfl, rfl, by go_num, hrow, map_mono hmap (by omega), hd, hb⟩
              case measure => simp [intOf]; omega
            · have dc : decide ((bg : Int) < 2) = false := decide_eq_false (by omega)
              obtain ⟨bg', hbg'⟩ : ∃ bg', bg = bg' + 2 := ⟨bg - 2, by omega⟩
              have eb : (bg : Int) - 2 = (bg' : Int) := by omega
              have hbgh := Lib.hid hbg'
              clear hbg'
              go_wp2_with (at_mapUpdate; refine wpList_mapUpdate_own _ rfl _ _ _ 35 rfl 3 4 (int_keyed Try.underlying3) Try.underlying35 _ B i _ rfl hmap (by unfold maxLen; omega) _ _ _ rfl rfl hkey.out _ [] (plainElem_bool Try.underlying4 true) ?_)
              intro w4 hmap4 hgr
              rw [show (Lit.int .i64 (k : Int)) = keyI (k : Int) from rfl, ← setI_snoc] at hmap4
              have hb4 := hb.grown hgr hb.size (fun j hj => by cases hj; rw [hBh.out]; exact Nat.le_refl _)
              have hrow4 := hrow.kept hgr (.inr (row_ne hrow))
              clear hgr hmap hrow hb hlk
              have cC := Lib.hid (change_any U k 1#8 w4 (by omega) (by omega))
              obtain ⟨U', hU'⟩ : ∃ U', str ((el U).set k ((el U).getD k 0 ^^^ 1#8)) = U' := ⟨_, rfl⟩
              have hd' := Lib.hid (show (zs).length = m ∧ Dmg (el C) p (el U') (zs) bg' from ⟨hd.out.1, by rw [← hU', el_str]; exact hd.out.2.err k _ hbgh.out⟩)
              rw [hU'] at cC
              clear hU' hd
              go_wp2_with fail
              refine cC.out.mono ?_
              rintro e w6 ⟨rfl, hb6⟩
              have hrow6 := own_below hrow4 hb6
              have hmap6 := map_below hmap4 hb6
              have hB6 := chain hb4 hb6
              clear cC hb6 hrow4 hmap4 hb4
              go_wp2
              go_roundw
              case rel => exact ⟨i + 1, m, bg', U', zs, us ++ [(k : Int)], by omega, by omega, by have := hbgh.out; omega, rfl, rfl, by go_num, hrow6, hmap6, hd', hB6⟩
              case measure => simp [intOf]; omega
    · have hUs : U.size = N := by rw [← el_len, hd.out.2.len, hel.out]
      obtain ⟨lA, lc, rfl, _, _⟩ := own_slice hrow
      obtain ⟨hsl, hlen⟩ := IsInts.of_own hrow (fun z hz => by have := hd.out.2.range z hz; rw [hel.out] at this; omega)
      have hsl := Lib.hid hsl
      have hUsh := Lib.hid hUs
      have d1 : decide (i < n2) = false := decide_eq_false hlt
      have i1 : ¬ (i : Int) < (n2 : Int) := by omega
      obtain ⟨W3, rfl⟩ : ∃ W3, W3 = wr := ⟨_, rfl⟩
      clear hrow hmap hUs
      go_wp2
      go_loopw [21, 22] (fun x y wq => ∃ j a' q : Nat, j ≤ N ∧ a' ≤ j ∧ x = .int .i64 a' ∧ y = .int .i64 j ∧ Hid (a' = cnt j (differ (el C) (el U))) ∧ Hid (wq = W3.drewN q)) (fun _ y _ => N - (intOf y).toNat)
      case atStart => exact ⟨0, 0, 0, Nat.zero_le _, Nat.le_refl _, rfl, rfl, Lib.hid rfl, Lib.hid rfl⟩
      case round =>
        obtain ⟨j, a', q, hj', haj, rfl, rfl, ha, hw⟩ := hrel
        by_cases hlj : j < N
        · have hjc : j < C.size := by have := hNh.out; omega
          have hju : j < U.size := by have := hUsh.out; omega
          obtain ⟨X, hX⟩ : ∃ X, (el C).getD j 0 = X := ⟨_, rfl⟩
          obtain ⟨Y, hY⟩ : ∃ Y, (el U).getD j 0 = Y := ⟨_, rfl⟩
          have hbx := byte_val C j hjc X hX
          have hby := byte_val U j hju Y hY
          have hdf : differ (el C) (el U) j = !(X == Y) := by unfold differ; rw [hX, hY]
          have j0' : (0 : Int) ≤ (j : Int) := by omega
          have j1 : (j : Int) < (C.size : Int) := by omega
          have j2 : (j : Int) < (U.size : Int) := by omega
          have d2 : decide (j < C.size) = true := decide_eq_true hjc
          rcases hxy : X == Y with _ | _
          · have ht : ((X.toNat : Int) != (Y.toNat : Int)) = true := by rw [bne, bv_eq1, hxy]; rfl
            have ha2 := Lib.hid (show a' + 1 = cnt (j + 1) (differ (el C) (el U)) by rw [cnt_succ, ← ha.out, hdf, hxy]; rfl)
            clear hX hY hdf hxy ha
            go_wp2
            go_quiet (fail)
            rename_i nq _
            go_wp2
            go_roundw
            case rel => exact ⟨j + 1, a' + 1, q + nq, by omega, by omega, by go_num, by go_num, ha2, Lib.hid (by rw [hw.out]; exact World.drewN_drewN _ _ _)⟩
            case measure => simp [intOf]; omega
          · have ht : ((X.toNat : Int) != (Y.toNat : Int)) = false := by rw [bne, bv_eq1, hxy]; rfl
            have ha2 := Lib.hid (show a' = cnt (j + 1) (differ (el C) (el U)) by rw [cnt_succ, ← ha.out, hdf, hxy]; rfl)
            clear hX hY hdf hxy ha
            go_wp2
            go_quiet (fail)
            rename_i nq _
            go_wp2
            go_roundw
            case rel => exact ⟨j + 1, a', q + nq, by omega, by omega, rfl, by go_num, ha2, Lib.hid (by rw [hw.out]; exact World.drewN_drewN _ _ _)⟩
            case measure => simp [intOf]; omega
        · have d2 : decide (j < C.size) = false := decide_eq_false (by have := hNh.out; omega)
          have j1 : ¬ (j : Int) < (C.size : Int) := by have := hNh.out; omega
          have ha3 := Lib.hid (show a' = dif (el C) (el U) by rw [ha.out, show j = (el C).length by rw [hel.out]; omega]; rfl)
          obtain rfl := hw.out
          clear ha hw
          go_wp2
          go_ret3
          have hbq := chainN (Below.refl W3.heap.size W3) q
          exact ⟨U, zs, lA, m, lc, ⟨hd.out.2.len, hd.out.2.range, by have := hd.out.2.rad; omega⟩, hd.out.1, by omega, by rw [← ha3.out]; rfl, hsl.out.below hbq, chain hb hbq⟩
end Go.Proofs.Ytkobcffkgaodbaa.G8
