/- The laws' helper some of layer 15. -/
import Derived.Test.YtcakdhnlgeiodaaE15Own1
import Derived.Test.YtcakdhnlgeiodaaE15Mk
namespace Go.Proofs.Ytcakdhnlgeiodaa.E15
set_option maxRecDepth 100000
open Go.RowKit Mem S14
open Go.Proofs.Ytcakdhnlgeiodaa.G5 Go.Proofs.Ytcakdhnlgeiodaa.G7
open Go.Proofs.Ytcakdhnlgeiodaa.G6 (IsSl rs rs_len rs_get rs_set rs_one rs_snoc make_zeros zeros_at own_zeros info_byte u8s conv_sl)
set_option linter.unusedVariables false
set_option linter.unusedSimpArgs false

/-- Some of the shares, in their order. -/
def SomP (hs : List Sh) (w : World) (e : Ending) (w' : World) : Prop := ∃ (ms : List Sh) (v : Value), ms.Sublist hs ∧ e = .returned v ∧ w'.ownsRow w.heap.size 32 2 v ms.length (rw_ (raws ms)) ∧ Below w.heap.size w w'
theorem two_cells (z : Int) (S : ByteArray) : ∀ u ∈ ([.int .i64 z, .string S] : List Value), u.oneCell' = true := fun u hu => by
  rcases List.mem_cons.1 hu with rfl | hu
  · rfl
  · rw [List.mem_singleton.1 hu]; rfl
set_option maxHeartbeats 8000000 in
theorem some_any {A : Option Addr} {c n : Nat} {hs : List Sh} {w : World} (K : Nat) (hK : K ≤ 65535) (h : IsRaw w A n c (raws hs)) (hn : n ≤ 100) :
    Calls Try.prog 21 #[.slice A n c, .int .u16 (K : Int)] w (SomP hs w) := by
  have hlen : hs.length = n := by rw [← raws_len]; exact h.len
  have hget := fun (k : Nat) (hk : k < hs.length) => h.sh hk
  have hgoal : ∀ (ms : List Sh) (v : Value) (w' : World), ms.Sublist (hs.take n) → w'.ownsRow w.heap.size 32 2 v ms.length (rw_ (raws ms)) → Below w.heap.size w w' → SomP hs w (.returned v) w' := fun ms v w' h1 h2 h3 => ⟨ms, v, by rwa [List.take_of_length_le (by omega)] at h1, rfl, h2, h3⟩
  have hno := fun (ms : List Sh) (k : Nat) (hk : k < hs.length) (hm : ms.Sublist (hs.take k)) => show ms.Sublist (hs.take (k + 1)) by
    rw [List.take_add_one, List.getElem?_eq_getElem hk]
    exact hm.trans (List.sublist_append_left _ _)
  have hyes := fun (ms : List Sh) (k : Nat) (hk : k < hs.length) (hm : ms.Sublist (hs.take k)) => show (ms ++ [hs[k]]).Sublist (hs.take (k + 1)) by
    rw [List.take_add_one, List.getElem?_eq_getElem hk]
    exact hm.append (List.Sublist.refl _)
  obtain ⟨P, hP⟩ : ∃ P, SomP hs w = P := ⟨_, rfl⟩
  rw [hP] at hgoal ⊢
  obtain ⟨i0, hi, hz0, hz1, hz2⟩ := info_parts info_share
  have o1 : (w.alloc (.cells #[] 32)).ownsRow w.heap.size 32 2 (.slice (some ⟨w.heap.size, 0, none⟩) 0 0) ([] : List Sh).length (rw_ (raws [])) := empty_at rfl (Nat.le_refl _)
  have o3 : Below w.heap.size w (w.alloc (.cells #[] 32)) := (Below.refl _ _).alloc (Nat.le_refl _) _
  replace hgoal := Lib.hid hgoal
  replace hlen := Lib.hid hlen
  replace hget := Lib.hid hget
  replace hno := Lib.hid hno
  replace hyes := Lib.hid hyes
  replace o1 := Lib.hid o1
  replace o3 := Lib.hid o3
  clear hP h
  show Calls _ _ _ _ (fun e w' => P e w')
  go_enter Try.func21, Try.ntmps21
  go_wp2
  go_loopw [5, 10] (fun vv iv wr => ∃ (k : Nat) (ms : List Sh) (v : Value), v = vv ∧ iv = .int .i64 (k : Int) ∧ k ≤ n ∧ Hid (ms.Sublist (hs.take k)) ∧ Hid (wr.ownsRow w.heap.size 32 2 v ms.length (rw_ (raws ms))) ∧ Hid (Below w.heap.size w wr)) (fun _ iv _ => n - (intOf iv).toNat)
  case atStart => exact ⟨0, [], _, rfl, rfl, Nat.zero_le _, Lib.hid (by simp), o1, o3⟩
  case round =>
    clear o1 o3
    obtain ⟨k, ms, v, rfl, rfl, hk, hsub, hrow, hb⟩ := hrel
    by_cases hlt : k < n
    · have dk : decide ((k : Int) < (n : Int)) = true := decide_eq_true (by omega)
      have k0 : (0 : Int) ≤ (k : Int) := by omega
      have k1 : (k : Int) < (n : Int) := by omega
      have hkl : k < hs.length := by have := hlen.out; omega
      rcases hbit : (bits .and .u16 ((K : Int) / 2 ^ min k 16) 1 == 1) with _ | _
      · have hs2 := Lib.hid (hno.out ms k hkl hsub.out)
        clear hget hno hyes hsub
        go_wp2
        go_roundw
        case rel => exact ⟨k + 1, ms, _, rfl, by go_num, by omega, hs2, hrow, hb⟩
        case measure => simp [intOf]; omega
      · obtain ⟨b, o, rfl, hbl, g0, g1⟩ := hget.out k hkl
        rw [getD_map' _ _ _ hkl] at g0 g1
        have g0 := (hb.out.cell (p := ⟨b, o + k * 2, none⟩) hbl).trans g0
        have g1 := (hb.out.cell (p := ⟨b, o + k * 2 + 1, none⟩) hbl).trans g1
        have hs2 := Lib.hid (hyes.out ms k hkl hsub.out)
        have hsn := raws_snoc ms hs[k]
        have hml : ms.length ≤ k := by
          have := hsub.out.length_le
          rw [List.length_take] at this
          omega
        obtain ⟨sh, hsh⟩ : ∃ sh, hs[k] = sh := ⟨_, rfl⟩
        rw [hsh] at g0 g1 hsn hs2
        obtain ⟨X, bl⟩ := sh
        dsimp only at g0 g1 hsn
        obtain ⟨S, hS⟩ : ∃ S, str bl = S := ⟨_, rfl⟩
        rw [hS] at g1 hsn
        replace hsn := Lib.hid hsn
        have hro := hrow.out
        have hbo := hb.out
        have hbs := hbo.size
        have hnl : Hid ((ms ++ [(X, bl)]).length = ms.length + 1) := Lib.hid (by simp)
        clear hS hsh hbl hrow hb hget hno hyes hgoal hsub
        go_wp2_with (at_builtin; refine wpList_append_own _ rfl _ _ 30 rfl w.heap.size 32 i0 (.agg #[.int .i64 0, .string ⟨#[]⟩]) 2 24 Try.underlying30 hi hz0 hz1 hz2 rfl (by decide) _ _ _ rfl (hro.alloc _) ⟨wr.heap.size, 0, none⟩ 1 1 [.int .i64 (X.toNat : Int), .string S] rfl rfl (list_new _ _ _) (two_cells _ _) (by unfold maxLen; omega) (by omega) (by simp; omega) ?_; intro v' w6 hown' hgrow _)
        have hb6 := (hbo.alloc hbs _).grown hgrow (by simp; omega) (fun j hj => (hro.lt j hj).1)
        rw [← hsn.out] at hown'
        clear hgrow hro hbo
        go_roundw
        case rel => exact ⟨k + 1, ms ++ [(X, bl)], _, rfl, by go_num, by omega, hs2, Lib.hid (by rw [hnl.out]; exact hown'), Lib.hid hb6⟩
        case measure => simp [intOf]; omega
    · obtain rfl : k = n := by omega
      have dk : decide ((k : Int) < (k : Int)) = false := decide_eq_false (by omega)
      have hfin := Lib.hid (hgoal.out ms v wr hsub.out hrow.out hb.out)
      clear hgoal hsub hrow hb hget hno hyes
      go_wp2
      first | go_ret | skip
      exact hfin.out
end Go.Proofs.Ytcakdhnlgeiodaa.E15
