/- The contract of the reference's Decode, for small arguments. -/
import Derived.Test.YtiodkllckcpinaaGreatDoorG8RSys
import Derived.Test.YtiodkllckcpinaaGreatDoorM14AZ
import Derived.Test.YtiodkllckcpinaaGreatDoorM14AR
set_option linter.unusedVariables false
set_option linter.unusedSimpArgs false
set_option maxRecDepth 100000
namespace Go.Proofs.YtiodkllckcpinaaGreatDoor
namespace G8
open G5
open G7
open G6 (mb xz IsSl)
open Go.RowKit Mem

theorem cnt_list : ∀ (n : Nat) (ls : List Nat), ls.Nodup → (∀ i ∈ ls, i < n) → cnt n (fun i => decide (i ∈ ls)) = ls.length := by
  intro n ls
  induction ls with
  | nil => intro _ _; unfold cnt; simp
  | cons a ls ih =>
    intro h hl
    obtain ⟨h1, h2⟩ := List.nodup_cons.1 h
    have i1 := ih h2 fun i hi => hl i (by simp [hi])
    have p1 := cnt_parts n (fun i => decide (i ∈ a :: ls)) (fun i => i == a)
    have e1 : cnt n (fun i => decide (i ∈ a :: ls) && i == a) = cnt n (fun i => i == a) := cnt_congr fun i _ => by
      by_cases e : i = a
      · subst e; simp
      · simp [e]
    have e2 : cnt n (fun i => decide (i ∈ a :: ls) && !(i == a)) = cnt n (fun i => decide (i ∈ ls)) := cnt_congr fun i _ => by
      by_cases e : i = a
      · subst e; simp [h1]
      · simp [e]
    have e3 : cnt n (fun i => i == a) = 1 := by
      have hle := cnt_one n a
      have : 0 < cnt n (fun i => i == a) := by
        unfold cnt
        exact List.length_pos_iff.2 (List.ne_nil_of_mem (List.mem_filter.2 ⟨List.mem_range.2 (hl a (by simp)), by simp⟩))
      omega
    rw [p1, e1, e2, e3, i1, List.length_cons]
    omega
def uOf (w c : List R) (i : Nat) : R := w.getD i 0 ^^^ c.getD i 0
theorem mo_syn {p n : Nat} {w c : List R} (hn : w.length = n) (hc : Cw p c) (hl : c.length = n) : Mo p n 0 (syn p w) (uOf w c) := by
  refine ⟨syn_len p w, fun k _ hk => ?_⟩
  have e : xr w c = tab n (uOf w c) := by
    have hx : (xr w c).length = n := by rw [xr_len _ _ (hn.trans hl.symm), hn]
    exact tab_eq hx fun j hj => row_vl.xr_get _ _ _ (by rw [hn]; exact hj) (by rw [hl]; exact hj)
  rw [syn_get _ _ _ hk, Nat.sub_zero, ← mom_vl, ← e, vl_xr _ _ _ (hn.trans hl.symm), hc k hk, xz]
theorem u_differ {w c : List R} {i : Nat} : uOf w c i = 0 ↔ differ w c i = false := by
  unfold uOf differ
  rw [xor_zero_iff]
  simp
theorem errs_plc {n : Nat} {w c : List R} {zs : List Int} {ls : List Nat} (hn : w.length = n) (hn2 : n ≤ 255) (hls : ∀ i ∈ ls, i < n) (hm : ∀ i, i ∈ ls ↔ (i : Int) ∈ zs) : (plc n (vE n (uOf w c) ls)).length = errs w c (Lof zs) := by
  unfold errs
  rw [hn]
  show cnt n (fun i => !(vE n (uOf w c) ls i == 0)) = _
  refine cnt_congr fun i hi => ?_
  have h := vE_zero hn2 hi ls (uOf w c) hls
  rw [u_differ] at h
  rw [Bool.eq_iff_iff, Bool.not_eq_true', beq_eq_false_iff_ne, Bool.and_eq_true, Bool.not_eq_true']
  unfold Lof
  rw [decide_eq_false_iff_not, ← hm, ne_eq, h]
  cases differ w c i <;> simp
theorem tried_within {p n e m : Nat} {w d : List R} {zs : List Int} {ls ms : List Nat} (hn : w.length = n) (hl : d.length = n) (hc : Cw p d) (hlo : losts n (Lof zs) = m) (hm : ∀ i, i ∈ ls ↔ (i : Int) ∈ zs) (hms : ms.length = e) (hr : 2 * e + m ≤ p)
    (hd : ∀ i, i < n → i ∉ ls ++ ms → d.getD i 0 = w.getD i 0) : Within p w (Lof zs) d := by
  refine ⟨hc, hl.trans hn.symm, ?_⟩
  have h1 : errs w d (Lof zs) ≤ e := by
    unfold errs
    rw [hn]
    have h2 : cnt n (fun i => differ w d i && !Lof zs i) ≤ cnt n (fun i => decide ((i : Int) ∈ ms.map fun (j : Nat) => (j : Int))) := cnt_mono fun i hi h => by
      rw [Bool.and_eq_true, Bool.not_eq_true'] at h
      by_cases hin : i ∈ ls ++ ms
      · rcases List.mem_append.1 hin with h3 | h3
        · have := (hm i).1 h3
          have h4 := h.2
          unfold Lof at h4
          rw [decide_eq_false_iff_not] at h4
          exact absurd this h4
        · rw [decide_eq_true_eq, List.mem_map]
          exact ⟨i, h3, rfl⟩
      · have := hd i hi hin
        have h4 := h.1
        unfold differ at h4
        rw [this] at h4
        simp at h4
    have h3 := cnt_mem n (ms.map fun (j : Nat) => (j : Int))
    rw [List.length_map] at h3
    omega
  rw [hn, hlo]
  omega
theorem cast_take (zs : List Int) (k : Nat) (h : k < zs.length) : zs.take (k + 1) = zs.take k ++ [zs.getD k 0] := int_snoc zs k h

theorem attempt {p n e : Nat} {w c : List R} {zs : List Int} {ls : List Nat} (hn : w.length = n) (hn2 : n ≤ 255) (hls : ∀ i ∈ ls, i < n) (hm : ∀ i, i ∈ ls ↔ (i : Int) ∈ zs) (hw : Within p w (Lof zs) c) (he : errs w c (Lof zs) = e) :
    ∃ v u : Nat → R, Mo p n ls.length (mdL n (syn p w) ls) v ∧ (plc n v).length = e ∧ (∀ i, i < n → v i ≠ 0 → i ∉ ls) ∧ (∀ r, r < p → (syn p w).getD r 0 = mom n u r) ∧ (∀ i, i < n → i ∉ ls ++ plc n v → u i = 0) ∧ (tab n fun i => w.getD i 0 ^^^ u i) = c := by
  have hcl := hw.len.trans hn
  have hmo := mo_syn (p := p) hn hw.cw hcl
  refine ⟨vE n (uOf w c) ls, uOf w c, hmo.all ls, by rw [errs_plc hn hn2 hls hm]; exact he, fun i hi hv hin => ?_, fun r hr => by have := hmo.val r (Nat.zero_le _) hr; rwa [Nat.sub_zero] at this, fun i hi hni => ?_, ?_⟩
  · exact hv ((vE_zero hn2 hi ls _ hls).2 (.inr hin))
  · by_cases h0 : uOf w c i = 0
    · exact h0
    · exfalso
      refine hni (List.mem_append.2 ?_)
      by_cases hin : i ∈ ls
      · exact .inl hin
      · refine .inr (plc_mem.2 ⟨hi, fun hv => ?_⟩)
        rcases (vE_zero hn2 hi ls _ hls).1 hv with h | h
        · exact h0 h
        · exact hin h
  · refine (tab_eq hcl fun i hi => ?_).symm
    unfold uOf
    rw [← BitVec.xor_assoc, xs, G6.zx]

set_option maxHeartbeats 16000000 in
theorem rdec_good {A : Option Addr} {k0 c p n : Nat} {s : ByteArray} {zs : List Int} {w : World} (h : IsInts w A c zs) (hk : zs.length = k0) (hn : s.size = n) (hn2 : n ≤ 60) (hk40 : k0 ≤ 40) (hp1 : 1 ≤ p) (hp : p ≤ 16) (hpn : p ≤ n) :
    Calls Tryz.prog 62 #[.string s, .int .i64 (p : Int), .slice A k0 c] w (Deco (el s) (p : Int) zs w) := by
  obtain ⟨t0, ht, hx0, hx1, hx2⟩ := info_parts info_int
  have hel : (el s).length = n := by rw [el_len, hn]
  have hzh := Lib.hid h
  have hkh := Lib.hid hk
  have helh := Lib.hid hel
  have hnh := Lib.hid hn
  have hsz : (s.size : Int) = (n : Int) := by rw [hn]
  have t1 : decide ((p : Int) < 1) = false := decide_eq_false (by omega)
  have t2 : decide ((64 : Int) < (p : Int)) = false := decide_eq_false (by omega)
  have t3 : decide (p < 1) = false := decide_eq_false (by omega)
  have t4 : decide (64 < p) = false := decide_eq_false (by omega)
  have t5 : decide (n < p) = false := decide_eq_false (by omega)
  have t5' : decide ((n : Int) < (p : Int)) = false := decide_eq_false (by omega)
  have t6 : decide ((255 : Int) < (n : Int)) = false := decide_eq_false (by omega)
  have t7 : decide (255 < n) = false := decide_eq_false (by omega)
  have t8 : decide (s.size < p) = false := decide_eq_false (by omega)
  have t9 : decide (255 < s.size) = false := decide_eq_false (by omega)
  clear h hk hel
  go_enter Tryz.func62, Tryz.ntmps62
  go_wp2
  clear t1 t2 t3 t4 t5 t5' t6 t7 t8 t9
  go_loopw [9, 10] (fun v a wr => ∃ (k m : Nat) (ls : List Nat), k ≤ k0 ∧ m ≤ k ∧ a = .int .i64 k ∧ Hid (ls.length = m) ∧ wr.ownsRow w.heap.size 3 1 v m (is (ls.map fun (i : Nat) => (i : Int))) ∧ Hid (ls.Nodup) ∧ Hid (∀ i ∈ ls, i < n) ∧ Hid (∀ z ∈ zs.take k, 0 ≤ z ∧ z < (n : Int)) ∧ Hid (∀ i : Nat, i ∈ ls ↔ (i : Int) ∈ zs.take k) ∧ Below w.heap.size w wr) (fun _ a _ => k0 - (intOf a).toNat)
  case atStart => exact ⟨0, 0, [], Nat.zero_le _, Nat.le_refl _, rfl, Lib.hid rfl, World.ownsRow_nil _ _ _ _, Lib.hid List.nodup_nil, Lib.hid (fun i h => by cases h), Lib.hid (fun z h => by simp at h), Lib.hid (fun i => by simp), Below.refl _ _⟩
  case round =>
    obtain ⟨k, m, ls, hk, hmk, rfl, hlm, hown, hnd, hln, hzr, hmem, hb⟩ := hrel
    by_cases hlt : k < k0
    · have hkl : k < zs.length := by rw [hkh.out]; exact hlt
      obtain ⟨b, o, rfl, hbl, hc⟩ := (hzh.out.below hb).read k hkl
      have hts := cast_take zs k hkl
      have hzm := int_mem zs k hkl
      obtain ⟨z, hz⟩ : ∃ z, zs.getD k 0 = z := ⟨_, rfl⟩
      rw [hz] at hc hts hzm
      have hzm := Lib.hid hzm
      have d1 : (k : Int) < (k0 : Int) := by omega
      have d2 : decide (k < k0) = true := decide_eq_true hlt
      have q0 : (0 : Int) ≤ (k : Int) := by omega
      by_cases hz0 : z < 0
      · have e1 : decide (z < 0) = true := decide_eq_true hz0
        have hbad := Lib.hid (show Bad n (p : Int) zs from .inr (.inr (.inr (.inr ⟨z, hzm.out, .inl hz0⟩))))
        clear hts hz hz0
        go_wp2
        go_ret3
        exact ⟨⟨#[]⟩, 0, 1, ⟨fun _ => ⟨rfl, rfl, rfl⟩, fun h => absurd (by rw [helh.out]; exact hbad.out) h⟩, rfl, hb⟩
      · have e1 : decide (z < 0) = false := decide_eq_false hz0
        by_cases hzn : (n : Int) ≤ z
        · have e2 : decide ((n : Int) ≤ z) = true := decide_eq_true hzn
          have hbad := Lib.hid (show Bad n (p : Int) zs from .inr (.inr (.inr (.inr ⟨z, hzm.out, .inr hzn⟩))))
          clear hts hz hz0
          go_wp2
          go_ret3
          exact ⟨⟨#[]⟩, 0, 1, ⟨fun _ => ⟨rfl, rfl, rfl⟩, fun h => absurd (by rw [helh.out]; exact hbad.out) h⟩, rfl, hb⟩
        · have e2 : decide ((n : Int) ≤ z) = false := decide_eq_false hzn
          obtain ⟨Z, hZ⟩ : ∃ Z : Nat, z = (Z : Int) := ⟨z.toNat, by omega⟩
          have hZn : Z < n := by omega
          have hzr2 := Lib.hid (show ∀ y ∈ zs.take (k + 1), 0 ≤ y ∧ y < (n : Int) from fun y hy => by
            rw [hts] at hy
            rcases List.mem_append.1 hy with h | h
            · exact hzr.out y h
            · rw [List.mem_singleton.1 h]
              omega)
          subst hZ
          obtain ⟨A', c', rfl, _, _⟩ := own_slice hown
          have hfit : ∀ y ∈ ls.map (fun (i : Nat) => (i : Int)), -9223372036854775808 ≤ y ∧ y ≤ 9223372036854775807 := fun y hy => by
            obtain ⟨i, hi, rfl⟩ := List.mem_map.1 hy
            have := hln.out i hi
            omega
          obtain ⟨hsl, hlen⟩ := IsInts.of_own hown hfit
          have cH := rhas_any (n := m) (Z : Int) hsl hlen
          rw [mem_cast] at cH
          rcases hI : decide (Z ∈ ls) with _ | _
          · rw [hI] at cH
            have hni : Z ∉ ls := by simpa using hI
            have cH := Lib.hid cH
            have hmem2 := Lib.hid (show ∀ i : Nat, i ∈ ls ++ [Z] ↔ (i : Int) ∈ zs.take (k + 1) from fun i => by
              rw [hts, List.mem_append, List.mem_append, hmem.out i, List.mem_singleton, List.mem_singleton]
              exact or_congr Iff.rfl ⟨fun e => by rw [e], fun e => by omega⟩)
            have hnd2 := Lib.hid (show (ls ++ [Z]).Nodup from List.nodup_append.2 ⟨hnd.out, List.nodup_cons.2 ⟨by simp, List.nodup_nil⟩, fun a ha b hb e => by rw [List.mem_singleton.1 hb] at e; rw [e] at ha; exact hni ha⟩)
            have hln2 := Lib.hid (show ∀ i ∈ ls ++ [Z], i < n from fun i hi => by
              rcases List.mem_append.1 hi with h | h
              · exact hln.out i h
              · rw [List.mem_singleton.1 h]; exact hZn)
            have hlm2 := Lib.hid (show (ls ++ [Z]).length = m + 1 by rw [List.length_append, hlm.out]; rfl)
            clear hts hz hz0 hzn hfit hsl hlen hI hni hmem hnd hln hlm hzr
            go_wp2_with fail
            refine cH.out.mono ?_
            rintro o' w6 ⟨rfl, rfl⟩
            clear cH
            go_wp2_with (at_builtin; refine wpList_append_own _ rfl _ _ 95 rfl w.heap.size 3 t0 (.int .i64 0) 1 8 Tryz.underlying95 ht hx0 hx1 hx2 rfl (by decide) _ _ _ rfl (hown.alloc _) ⟨wr.heap.size, 0, none⟩ 1 1 [.int .i64 (Z : Int)] rfl rfl (one_new _ _ _) (one_cell _ _) ?d3 ?d4 ?d5 ?_)
            case d3 => unfold maxLen; omega
            case d4 => omega
            case d5 => have := hb.size; simp; omega
            intro v' w7 hown3 hgr _
            rw [show [Value.int .i64 (Z : Int)] = is ([Z].map fun (i : Nat) => (i : Int)) from rfl, ← is_append, ← List.map_append] at hown3
            have hb4 := (hb.alloc hb.size _).grown hgr (by have := hb.size; simp; omega) (fun j hj => (hown.lt j hj).1)
            clear hown hgr hb
            go_wp2
            go_roundw
            case rel => exact ⟨k + 1, m + 1, ls ++ [Z], by omega, by omega, by go_num, hlm2, hown3, hnd2, hln2, hzr2, hmem2, hb4⟩
            case measure => simp [intOf]; omega
          · rw [hI] at cH
            have hyes : Z ∈ ls := by simpa using hI
            have cH := Lib.hid cH
            have hmem2 := Lib.hid (show ∀ i : Nat, i ∈ ls ↔ (i : Int) ∈ zs.take (k + 1) from fun i => by
              rw [hts, List.mem_append, ← hmem.out i, List.mem_singleton]
              exact ⟨.inl, fun h => h.elim id fun e => by have : i = Z := by omega
                                                          rw [this]; exact hyes⟩)
            clear hts hz hz0 hzn hfit hsl hlen hI hyes hmem hzr
            go_wp2_with fail
            refine cH.out.mono ?_
            rintro o' w6 ⟨rfl, rfl⟩
            clear cH
            go_wp2
            go_roundw
            case rel => exact ⟨k + 1, m, ls, by omega, by omega, by go_num, hlm, hown, hnd, hln, hzr2, hmem2, hb⟩
            case measure => simp [intOf]; omega
    · have hke : k = k0 := by omega
      rw [hke, List.take_of_length_le (by rw [hkh.out]; exact Nat.le_refl _)] at hzr hmem
      have d1 : ¬ (k : Int) < (k0 : Int) := by omega
      have d2 : decide (k < k0) = false := decide_eq_false hlt
      have hnb := Lib.hid (show ¬ Bad n (p : Int) zs from fun hb => by
        unfold Bad at hb
        rcases hb with h1 | h1 | h1 | h1 | ⟨z, hz, h1⟩
        · omega
        · omega
        · omega
        · omega
        · have := hzr.out z hz
          omega)
      have hlo : losts n (Lof zs) = m := by
        rw [← hlm.out, ← cnt_list n ls hnd.out hln.out]
        exact cnt_congr fun i _ => by unfold Lof; rw [decide_eq_decide]; exact (hmem.out i).symm
      have hfit : ∀ y ∈ ls.map (fun (i : Nat) => (i : Int)), -9223372036854775808 ≤ y ∧ y ≤ 9223372036854775807 := fun y hy => by
        obtain ⟨i, hi, rfl⟩ := List.mem_map.1 hy
        have := hln.out i hi
        omega
      obtain ⟨A', c', rfl, _, _⟩ := own_slice hown
      obtain ⟨hsl, hlen⟩ := IsInts.of_own hown hfit
      have hsl := Lib.hid hsl
      have hloh := Lib.hid hlo
      have hkeh := Lib.hid hke
      clear hown hfit hlen hlo hke
      by_cases hmp : p < m
      · have e1 : (p : Int) < (m : Int) := by omega
        have e2 : decide (p < m) = true := decide_eq_true hmp
        have hq := Lib.hid (show DecQ (el s) (p : Int) zs ⟨#[]⟩ 0 11 from ⟨fun hb => absurd (by rw [← helh.out]; exact hb) hnb.out, fun _ => ⟨fun cw hw => by
          have := hw.rad
          rw [Int.toNat_natCast, helh.out, hloh.out] at this
          omega, fun _ => ⟨rfl, rfl, rfl⟩⟩⟩)
        go_wp2
        go_ret3
        exact ⟨_, _, _, hq.out, rfl, hb⟩
      · have e1 : ¬ (p : Int) < (m : Int) := by omega
        have e2 : decide (p < m) = false := decide_eq_false hmp
        have cS := Lib.hid (rsyn_any s p wr hp1 (by omega) (by rw [hnh.out]; exact hpn) (by rw [hnh.out]; omega))
        go_wp2_with fail
        refine cS.out.mono ?_
        rintro o w2 ⟨A2, c2, rfl, hs2, hb2⟩
        have hsl := Lib.hid (hsl.out.below hb2)
        have hb := chain hb hb2
        have cM := Lib.hid (rmod_any hs2 (syn_len p (el s)) hp1 (by omega) hsl.out hlm.out (show n ≤ 1000 by omega) hln.out)
        have hs2 := Lib.hid hs2
        clear cS hb2 d1 d2 e1 e2
        go_wp2_with fail
        refine cM.out.mono ?_
        rintro o w3 ⟨A3, c3, rfl, hs3, hb3⟩
        have hsl := Lib.hid (hsl.out.below hb3)
        have hs2 := Lib.hid (hs2.out.below hb3)
        have hs3 := Lib.hid hs3
        have hb := Lib.hid (chain hb hb3)
        clear hb3 cM
        obtain ⟨W3, rfl⟩ : ∃ W3, W3 = w3 := ⟨_, rfl⟩
        have hmm : m ≤ p := by omega
        go_wp2
        go_loopw [14] (fun a wq => ∃ e : Nat, e ≤ p + 1 ∧ a = .int .i64 e ∧ Hid (∀ cw, Within p (el s) (Lof zs) cw → e ≤ errs (el s) cw (Lof zs)) ∧ Below W3.heap.size W3 wq) (fun a _ => p + 1 - (intOf a).toNat)
        case atStart => exact ⟨0, Nat.zero_le _, rfl, Lib.hid (fun _ _ => Nat.zero_le _), Below.refl _ _⟩
        case round =>
          obtain ⟨e, hep, rfl, hnu, hbq⟩ := hrel
          by_cases hle : 2 * e + m ≤ p
          · have d1 : 2 * (e : Int) + (m : Int) ≤ (p : Int) := by omega
            have he16 : e ≤ 16 := by omega
            have hatt := Lib.hid (fun cw hw he => attempt (p := p) (e := e) (c := cw) helh.out (by omega) hln.out hmem.out hw he)
            have cE := Lib.hid (rerr_any (n := n) (e := e) (hs3.out.below hbq) (by rw [mdL_len, syn_len]) (by omega) (by omega) (hsl.out.below hbq) hlm.out hle)
            have hsq := Lib.hid (hsl.out.below hbq)
            have h2q := Lib.hid (hs2.out.below hbq)
            go_wp2_with fail
            refine cE.out.mono ?_
            rintro o w4 ⟨A5, q5, c5, ms, ok, rfl, hms, hml, hb4, hA, hC⟩
            have hb5 := chain hbq hb4
            have hsq := Lib.hid (hsq.out.below hb4)
            have h2q := Lib.hid (h2q.out.below hb4)
            clear cE hb4 hbq
            rcases ok with _ | _
            · have hnu2 := Lib.hid (show ∀ cw, Within p (el s) (Lof zs) cw → e + 1 ≤ errs (el s) cw (Lof zs) from fun cw hw => by
                have h1 := hnu.out cw hw
                rcases Nat.lt_or_ge e (errs (el s) cw (Lof zs)) with h2 | h2
                · exact h2
                · obtain ⟨v, u, a1, a2, a3, _⟩ := hatt.out cw hw (by omega)
                  cases (hC v a1 a2 a3).1)
              clear hA hC hms hatt
              go_wp2
              go_roundw
              case rel => exact ⟨e + 1, by omega, by go_num, hnu2, hb5⟩
              case measure => simp [intOf]; omega
            · obtain ⟨hme, hmn, hmd⟩ := hA rfl
              have hqe : q5 = e := hml.symm.trans hme
              have hmeh := Lib.hid hme
              have hmnh := Lib.hid hmn
              have hmdh := Lib.hid hmd
              have hC := Lib.hid hC
              have hmsh := Lib.hid hms
              subst hqe
              clear hA hme hmn hmd hms hml
              have ha := mb w4 (.cells #[] 3)
              go_wp2_with (at_builtin; refine wpList_append_rd rfl _ _ 95 rfl w4.heap.size 3 t0 (.int .i64 0) 8 Tryz.underlying95 ht hx0 hx1 hx2 rfl _ 0 [] rfl (empty_at rfl (Nat.le_refl _)) A' m c' (is (ls.map fun (i : Nat) => (i : Int))) rfl ((hsq.out.below ha).rd) (by rw [is_len, List.length_map]; exact hlm.out) hsq.out.hnil (is_one _) ?g3 ?g4 ?g5 ?_)
              case g3 => unfold maxLen; omega
              case g4 => omega
              case g5 => simp
              intro v1 w5 hown5 hgr5
              have hown5 : w5.ownsRow w4.heap.size 3 1 v1 m (is (ls.map fun (i : Nat) => (i : Int))) := by simpa using hown5
              have hb6 := ha.grown hgr5 (by simp) (fun j hj => by
                have : j = w4.heap.size := by simpa [Value.ownBlock] using hj.symm
                omega)
              clear ha hgr5
              go_wp2_with (at_builtin; refine wpList_append_rd rfl _ _ 95 rfl w4.heap.size 3 t0 (.int .i64 0) 8 Tryz.underlying95 ht hx0 hx1 hx2 rfl _ m (is (ls.map fun (i : Nat) => (i : Int))) rfl hown5 A5 q5 c5 (is (ms.map fun (i : Nat) => (i : Int))) rfl ((hmsh.out.below hb6).rd) (by rw [is_len, List.length_map]; exact hmeh.out) hmsh.out.hnil (is_one _) ?h3 ?h4 ?h5 ?_)
              case h3 => unfold maxLen; omega
              case h4 => omega
              case h5 => exact hb6.size
              intro v2 w6 hown6 hgr6
              rw [← is_append, ← List.map_append] at hown6
              have hb7 := hb6.grown hgr6 hb6.size (fun j hj => (hown5.lt j hj).1)
              have hpl : ∀ i ∈ ls ++ ms, i < n := fun i hi => by
                rcases List.mem_append.1 hi with h | h
                · exact hln.out i h
                · exact (hmdh.out i h).1
              have hpd : (ls ++ ms).Nodup := List.nodup_append.2 ⟨hnd.out, hmnh.out, fun a ha b hb e => (hmdh.out b hb).2 (by rw [← e]; exact ha)⟩
              have hpN : (ls ++ ms).length = m + q5 := by rw [List.length_append, hlm.out, hmeh.out]
              have hfit2 : ∀ y ∈ (ls ++ ms).map (fun (i : Nat) => (i : Int)), -9223372036854775808 ≤ y ∧ y ≤ 9223372036854775807 := fun y hy => by
                obtain ⟨i, hi, rfl⟩ := List.mem_map.1 hy
                have := hpl i hi
                omega
              obtain ⟨A8, c8, rfl, _, _⟩ := own_slice hown6
              obtain ⟨hs8, _⟩ := IsInts.of_own hown6 hfit2
              have cV := Lib.hid (rval_any (N := m + q5) hnh.out (by omega) (h2q.out.below hb7) (syn_len p (el s)) hp1 (by omega) hs8 hpN (by omega) hpd hpl)
              have hb8 := chain hb5 hb7
              clear hown5 hown6 hgr6 hb6 hb7 hb5 hfit2 hs8 hpl hpd hpN
              go_wp2_with fail
              refine cV.out.mono ?_
              rintro o w9 ⟨S, good, rfl, hb9, hVA, hVC⟩
              have hb10 := chain hb8 hb9
              have hfind := Lib.hid (show ∀ cw, Within p (el s) (Lof zs) cw → errs (el s) cw (Lof zs) = q5 → good = true ∧ S = str cw from fun cw hw he => by
                obtain ⟨v, u, a1, a2, a3, a4, a5, a6⟩ := hatt.out cw hw he
                obtain ⟨_, hmv⟩ := hC.out v a1 a2 a3
                rw [← hmv] at a5
                obtain ⟨b1, b2⟩ := hVC u a4 a5
                exact ⟨b1, by rw [b2, a6]⟩)
              have hnext : (∀ cw, Within p (el s) (Lof zs) cw → errs (el s) cw (Lof zs) = q5 → False) → ∀ cw, Within p (el s) (Lof zs) cw → q5 + 1 ≤ errs (el s) cw (Lof zs) := fun hno cw hw => by
                have h1 := hnu.out cw hw
                rcases Nat.lt_or_ge q5 (errs (el s) cw (Lof zs)) with h2 | h2
                · exact h2
                · exact (hno cw hw (by omega)).elim
              have hnext := Lib.hid hnext
              clear cV hVC hb8 hb9 hC hatt
              rcases good with _ | _
              · have hnu2 := Lib.hid (hnext.out fun cw hw he => by cases (hfind.out cw hw he).1)
                clear hVA hfind hnext
                go_wp2
                go_roundw
                case rel => exact ⟨q5 + 1, by omega, by go_num, hnu2, hb10⟩
                case measure => simp [intOf]; omega
              · obtain ⟨hSs, hSo⟩ := hVA rfl
                have hSe : (el S).length = n := by rw [el_len, hSs]
                have cI := risc_any S p w9 hp1 (by omega) (by rw [hSs]; exact hpn) (by rw [hSs]; omega)
                have hWi := fun hc => tried_within (p := p) (n := n) (e := q5) (m := m) (w := el s) (d := el S) (zs := zs) (ls := ls) (ms := ms) helh.out hSe hc hloh.out hmem.out hmeh.out hle hSo
                have hSsh := Lib.hid hSs
                have hSeh := Lib.hid hSe
                clear hVA hSo hSs hSe
                rcases hI : cwB p (el S) with _ | _
                · rw [hI] at cI
                  have hnu2 := Lib.hid (hnext.out fun cw hw he => by
                    have := (hfind.out cw hw he).2
                    rw [this, el_str, cwB_yes hw.cw] at hI
                    cases hI)
                  have cI := Lib.hid cI
                  clear hI hWi hfind hnext
                  go_wp2_with fail
                  refine cI.out.mono ?_
                  rintro o w11 ⟨rfl, hb11⟩
                  have hb12 := chain hb10 hb11
                  clear cI hb10 hb11
                  go_wp2
                  go_roundw
                  case rel => exact ⟨q5 + 1, by omega, by go_num, hnu2, hb12⟩
                  case measure => simp [intOf]; omega
                · rw [hI] at cI
                  have hWi := Lib.hid (hWi (cwB_iff.1 hI))
                  have cI := Lib.hid cI
                  clear hI hfind hnext
                  go_wp2_with fail
                  refine cI.out.mono ?_
                  rintro o w11 ⟨rfl, hb11⟩
                  have hb12 := chain hb10 hb11
                  have cL := Lib.hid (rloc_any s S w11 (by rw [hnh.out]; omega) (by rw [hSsh.out]; omega))
                  clear cI hb10 hb11
                  go_wp2_with fail
                  refine cL.out.mono ?_
                  rintro o w13 ⟨A9, q9, c9, l9, k9, hq, hl9, rfl, _, hb13⟩
                  obtain ⟨rfl, rfl⟩ := hq.2 (by rw [helh.out, hSeh.out])
                  have hdq : dif (el s) (el S) = q9 := by rw [← dif_locL]; exact hl9
                  have hans := Lib.hid (show DecQ (el s) (p : Int) zs S (q9 : Int) 0 from ⟨fun hb => absurd (by rw [← helh.out]; exact hb) hnb.out, fun _ => ⟨fun cw hw => by
                    rw [Int.toNat_natCast] at hw
                    have e := hw.only hWi.out (by rw [helh.out]; omega)
                    rw [e]
                    exact ⟨(str_el S).symm, by rw [hdq], rfl⟩, fun hno => by
                    have := hno (el S)
                    rw [Int.toNat_natCast] at this
                    exact absurd hWi.out this⟩⟩)
                  have hb14 := hb.out.trans ((chain hb12 hb13).mono hb.out.size)
                  clear cL hq hl9 hdq hb12 hb13
                  go_wp2
                  go_ret3
                  exact ⟨_, _, _, hans.out, rfl, hb14⟩
          · have d1 : ¬ 2 * (e : Int) + (m : Int) ≤ (p : Int) := by omega
            have hans := Lib.hid (show DecQ (el s) (p : Int) zs ⟨#[]⟩ 0 11 from ⟨fun hb => absurd (by rw [← helh.out]; exact hb) hnb.out, fun _ => ⟨fun cw hw => by
              rw [Int.toNat_natCast] at hw
              have h1 := hnu.out cw hw
              have h2 := hw.rad
              rw [helh.out, hloh.out] at h2
              omega, fun _ => ⟨rfl, rfl, rfl⟩⟩⟩)
            have hb14 := hb.out.trans (hbq.mono hb.out.size)
            have hp17 : e ≤ 17 := by omega
            clear hbq
            go_wp2
            go_ret3
            exact ⟨_, _, _, hans.out, rfl, hb14⟩
set_option maxHeartbeats 2000000 in
theorem rdec_low {A : Option Addr} {k0 c : Nat} {p : Int} {s : ByteArray} {zs : List Int} (w : World) (hp : p < 1) : Calls Tryz.prog 62 #[.string s, .int .i64 p, .slice A k0 c] w (Deco (el s) p zs w) := by
  have t1 : decide (p < 1) = true := decide_eq_true hp
  have hb := Lib.hid (show Bad (el s).length p zs from .inl hp)
  clear hp
  go_enter Tryz.func62, Tryz.ntmps62
  go_wp2
  go_ret3
  exact ⟨⟨#[]⟩, 0, 1, ⟨fun _ => ⟨rfl, rfl, rfl⟩, fun h => absurd hb.out h⟩, rfl, Below.refl _ _⟩
set_option maxHeartbeats 2000000 in
theorem rdec_short {A : Option Addr} {k0 c P : Nat} {s : ByteArray} {zs : List Int} (w : World) (h1 : 1 ≤ P) (h2 : P ≤ 16) (hn : s.size < P) : Calls Tryz.prog 62 #[.string s, .int .i64 (P : Int), .slice A k0 c] w (Deco (el s) (P : Int) zs w) := by
  have hb := Lib.hid (show Bad (el s).length (P : Int) zs from .inr (.inr (.inl (by rw [el_len]; omega))))
  have t1 : decide ((P : Int) < 1) = false := decide_eq_false (by omega)
  have t2 : decide ((64 : Int) < (P : Int)) = false := decide_eq_false (by omega)
  have t3 : decide (P < 1) = false := decide_eq_false (by omega)
  have t4 : decide (64 < P) = false := decide_eq_false (by omega)
  have t5 : decide ((s.size : Int) < (P : Int)) = true := decide_eq_true (by omega)
  have t6 : decide (s.size < P) = true := decide_eq_true hn
  go_enter Tryz.func62, Tryz.ntmps62
  go_wp2
  go_ret3
  exact ⟨⟨#[]⟩, 0, 1, ⟨fun _ => ⟨rfl, rfl, rfl⟩, fun h => absurd hb.out h⟩, rfl, Below.refl _ _⟩
theorem rdec : RDec := by
  intro s p zs A n c w h hl hs hn hp h1
  by_cases hp1 : p < 1
  · exact rdec_low w hp1
  · obtain ⟨P, rfl⟩ : ∃ P : Nat, p = (P : Int) := ⟨p.toNat, by omega⟩
    by_cases hsz : s.size < P
    · exact rdec_short w (by omega) (by omega) hsz
    · exact rdec_good h hl rfl hs hn (by omega) (by omega) (by omega)
end G8
end Go.Proofs.YtiodkllckcpinaaGreatDoor
