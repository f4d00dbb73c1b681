/- The contracts of the landed isIndex, areIndices, equallyLong of layer 15. -/
import Derived.Test.YtcfoclmkhippoaaE15Own1
import Derived.BigQuiet
import Derived.Deep.QuietTactic
namespace Go.Proofs.Ytcfoclmkhippoaa.E15
set_option maxRecDepth 100000
open Go.RowKit Mem S14
open Go.Proofs.Ytcfoclmkhippoaa.G5 Go.Proofs.Ytcfoclmkhippoaa.G7
open Go.Proofs.Ytcfoclmkhippoaa.G6 (IsSl rs rs_len rs_get rs_set rs_one rs_snoc make_zeros zeros_at own_zeros info_byte u8s conv_sl)
set_option linter.unusedVariables false
set_option linter.unusedSimpArgs false

/-- A Bool that says whether P. -/
def IsB (P : Prop) (e : Ending) : Prop := ∃ b : Bool, e = .returned (.bool b) ∧ (b = true ↔ P)
theorem isix_own (x : Int) (w : World) : Calls Try.prog 55 #[.int .i64 x] w fun e w' => IsB (0 ≤ x ∧ x ≤ 14) e ∧ w = w' := by
  by_cases h0 : 0 ≤ x
  · by_cases h1 : x < 15
    · go_enter Try.func55, Try.ntmps55
      go_wp2
      go_ret
      exact ⟨⟨true, rfl, by constructor <;> (intro; first | rfl | omega)⟩, rfl⟩
    · go_enter Try.func55, Try.ntmps55
      go_wp2
      go_ret
      exact ⟨⟨false, rfl, by constructor <;> (intro; first | contradiction | omega)⟩, rfl⟩
  · go_enter Try.func55, Try.ntmps55
    go_wp2
    go_ret
    exact ⟨⟨false, rfl, by constructor <;> (intro; first | contradiction | omega)⟩, rfl⟩
set_option maxHeartbeats 4000000 in
theorem areix_own {A : Option Addr} {c n : Nat} {l : List Rw} {w : World} (h : IsRaw w A n c l) (hl : n ≤ 1000) :
    Calls Try.prog 41 #[.slice A n c] w fun e w' => IsB (IxOk l) e ∧ Below w.heap.size w w' := by
  have hyes : (∀ j (hj : j < l.length), 0 ≤ l[j].1 ∧ l[j].1 ≤ 14) → IxOk l := fun h r hr => by
    obtain ⟨j, hj, rfl⟩ := List.getElem_of_mem hr
    exact h j hj
  have hno : ∀ k (hk : k < l.length), ¬ (0 ≤ l[k].1 ∧ l[k].1 ≤ 14) → ¬ IxOk l := fun k hk h h' => h (h' _ (List.getElem_mem hk))
  have hget := fun (k : Nat) (hk : k < l.length) => h.get hk
  have hlen := h.len
  replace hyes := Lib.hid hyes
  replace hno := Lib.hid hno
  replace hget := Lib.hid hget
  replace hlen := Lib.hid hlen
  clear h
  go_enter Try.func41, Try.ntmps41
  go_wp2
  go_loopw [7] (fun iv wr => ∃ (k : Nat), iv = .int .i64 (k : Int) ∧ k ≤ n ∧ Hid (∀ j (hj : j < l.length), j < k → 0 ≤ l[j].1 ∧ l[j].1 ≤ 14) ∧ Hid (Below w.heap.size w wr)) (fun iv _ => n - (intOf iv).toNat)
  case atStart => exact ⟨0, rfl, Nat.zero_le _, Lib.hid (fun j _ h => by omega), Lib.hid (Below.refl _ _)⟩
  case round =>
    obtain ⟨k, rfl, hk, hI, hb⟩ := hrel
    by_cases hlt : k < n
    · have dk : decide ((k : Int) < (n : Int)) = true := decide_eq_true (by omega)
      have k0 : (0 : Int) ≤ (k : Int) := by omega
      have k1 : (k : Int) < (n : Int) := by omega
      have hkl : k < l.length := by have := hlen.out; omega
      obtain ⟨b, o, rfl, hbl, hc⟩ := hget.out k hkl
      have hn' := hno.out k hkl
      have hs : (0 ≤ l[k].1 ∧ l[k].1 ≤ 14) → ∀ j (hj : j < l.length), j < k + 1 → 0 ≤ l[j].1 ∧ l[j].1 ≤ 14 := fun h j hj h1 => by
        by_cases e : j = k
        · subst e; exact h
        · exact hI.out j hj (by omega)
      have hc := hc.below hb.out hbl
      obtain ⟨⟨z, s⟩, hr⟩ : ∃ r, l[k] = r := ⟨_, rfl⟩
      rw [hr] at hc hn' hs
      obtain ⟨g0, g1⟩ := hc
      dsimp only at g0 g1 hn' hs
      have cX := fun W => isix_own z W
      have hb2 : Below w.heap.size w (wr.alloc (.cells #[.int .i64 z, .string (str s)] 46)) := hb.out.alloc hb.out.size _
      replace hb2 := Lib.hid hb2
      replace cX := Lib.hid cX
      replace hn' := Lib.hid hn'
      replace hs := Lib.hid hs
      clear hr hb hI hget hyes hno hbl
      go_wp2_with fail
      refine (cX.out _).mono ?_
      rintro e w5 ⟨⟨q, rfl, hq⟩, rfl⟩
      rcases q with _ | _
      · have hfin := Lib.hid (hn'.out (fun h => by cases hq.2 h))
        clear hq hs hn'
        go_wp2
        go_ret
        exact ⟨⟨false, rfl, ⟨fun h => (by cases h), fun h => absurd h hfin.out⟩⟩, hb2.out⟩
      · have hs2 := Lib.hid (hs.out (hq.1 rfl))
        clear hq hs hn'
        go_wp2
        go_roundw
        case rel => exact ⟨k + 1, by go_num, by omega, hs2, hb2⟩
        case measure => simp [intOf]; omega
    · obtain rfl : k = n := by omega
      have dk : decide ((k : Int) < (k : Int)) = false := decide_eq_false (by omega)
      have hfin := Lib.hid (hyes.out (fun j hj => hI.out j hj (by have := hlen.out; omega)))
      clear hyes hno hget hI
      go_wp2
      go_ret
      exact ⟨⟨true, rfl, ⟨fun _ => hfin.out, fun _ => rfl⟩⟩, hb.out⟩
set_option maxHeartbeats 4000000 in
theorem eql_own {A : Option Addr} {c n : Nat} {l : List Rw} {w : World} (h : IsRaw w A n c l) (hl : n ≤ 1000) :
    Calls Try.prog 42 #[.slice A n c] w fun e w' => IsB (LenOk (l.map Prod.snd)) e ∧ Below w.heap.size w w' := by
  have hhd : ∀ (h0 : 0 < l.length), ((l.map Prod.snd).headD []) = l[0].2 := fun h0 => by
    cases l with
    | nil => cases h0
    | cons r l => rfl
  have hyes : (∀ j (hj : j < l.length), l[j].2.length = (l[0]'(by omega)).2.length) → LenOk (l.map Prod.snd) := fun h r hr => by
    obtain ⟨r', hr', rfl⟩ := List.mem_map.1 hr
    obtain ⟨j, hj, rfl⟩ := List.getElem_of_mem hr'
    rw [hhd (by omega)]
    exact h j hj
  have hno : ∀ k (hk : k < l.length), l[k].2.length ≠ (l[0]'(by omega)).2.length → ¬ LenOk (l.map Prod.snd) := fun k hk h h' => h (by
    have := h' _ (List.mem_map.2 ⟨_, List.getElem_mem hk, rfl⟩)
    rwa [hhd (by omega)] at this)
  have hget := fun (k : Nat) (hk : k < l.length) => h.get hk
  have hlen := h.len
  replace hyes := Lib.hid hyes
  replace hno := Lib.hid hno
  replace hget := Lib.hid hget
  replace hlen := Lib.hid hlen
  clear h hhd
  go_enter Try.func42, Try.ntmps42
  go_wp2
  go_loopw [7] (fun iv wr => ∃ (k : Nat), iv = .int .i64 (k : Int) ∧ k ≤ n ∧ Hid (∀ j (hj : j < l.length), j < k → l[j].2.length = (l[0]'(by omega)).2.length) ∧ Hid (Below w.heap.size w wr)) (fun iv _ => n - (intOf iv).toNat)
  case atStart => exact ⟨0, rfl, Nat.zero_le _, Lib.hid (fun j _ h => by omega), Lib.hid (Below.refl _ _)⟩
  case round =>
    obtain ⟨k, rfl, hk, hI, hb⟩ := hrel
    by_cases hlt : k < n
    · have dk : decide ((k : Int) < (n : Int)) = true := decide_eq_true (by omega)
      have k0 : (0 : Int) ≤ (k : Int) := by omega
      have k1 : (k : Int) < (n : Int) := by omega
      have n1 : (0 : Int) < (n : Int) := by omega
      have hkl : k < l.length := by have := hlen.out; omega
      have h0l : 0 < l.length := by omega
      obtain ⟨b, o, rfl, hbl, hc⟩ := hget.out k hkl
      obtain ⟨b', o', e', _, hc0⟩ := hget.out 0 h0l
      cases e'
      have hn' := hno.out k hkl
      have hs : l[k].2.length = l[0].2.length → ∀ j (hj : j < l.length), j < k + 1 → l[j].2.length = (l[0]'(by omega)).2.length := fun h j hj h1 => by
        by_cases e : j = k
        · subst e; exact h
        · exact hI.out j hj (by omega)
      have hc := hc.below hb.out hbl
      have hc0 := hc0.below hb.out hbl
      obtain ⟨⟨z, s⟩, hr⟩ : ∃ r, l[k] = r := ⟨_, rfl⟩
      obtain ⟨⟨z0, s0⟩, hr0⟩ : ∃ r, l[0] = r := ⟨_, rfl⟩
      replace hs := Lib.hid hs
      simp only [hr, hr0] at hc hn' hc0
      obtain ⟨g0, g1⟩ := hc
      obtain ⟨-, f1⟩ := hc0
      dsimp only at g0 g1 hn' f1
      rw [Nat.zero_mul, Nat.add_zero] at f1
      obtain ⟨S, hS⟩ : ∃ S, str s = S := ⟨_, rfl⟩
      obtain ⟨S0, hS0⟩ : ∃ S, str s0 = S := ⟨_, rfl⟩
      rw [hS] at g1
      rw [hS0] at f1
      have hz : S.size = s.length := by rw [← hS, size_str]
      have hz0 : S0.size = s0.length := by rw [← hS0, size_str]
      rw [← hz, ← hz0] at hn'
      have heq : S.size = S0.size → l[k].2.length = l[0].2.length := fun e => by rw [hr, hr0]; show s.length = s0.length; omega
      have hb2 : Below w.heap.size w (wr.alloc (.cells #[.int .i64 z, .string S] 46)) := hb.out.alloc hb.out.size _
      have a1 : (wr.alloc (.cells #[.int .i64 z, .string S] 46)).cell? ⟨wr.heap.size, 1, none⟩ = some (.string S) := by rw [World.cell?_alloc_new]; rfl
      have a2 : (wr.alloc (.cells #[.int .i64 z, .string S] 46)).cell? ⟨b, o + 1, none⟩ = some (.string S0) := (((Below.refl wr.heap.size wr).alloc (Nat.le_refl _) _).cell (p := ⟨b, o + 1, none⟩) (Nat.lt_of_lt_of_le hbl hb.out.size)).trans f1
      replace hb2 := Lib.hid hb2
      replace hn' := Lib.hid hn'
      replace heq := Lib.hid heq
      clear hr hr0 hS hS0 hz hz0 hb hI hget hyes hno hbl f1
      by_cases e : S.size = S0.size
      · have hs2 := Lib.hid (hs.out (heq.out e))
        have t1 : ((S.size : Int) != (S0.size : Int)) = false := by rw [e]; simp
        clear hs hn' heq e
        go_wp2
        go_quiet (fail)
        go_wp2
        rename_i nq _
        go_roundw
        case rel => exact ⟨k + 1, by go_num, by omega, hs2, Lib.hid (chainB hb2.out nq)⟩
        case measure => simp [intOf]; omega
      · have hfin := Lib.hid (hn'.out e)
        have t1 : ((S.size : Int) != (S0.size : Int)) = true := bne_iff_ne.2 (by omega)
        clear hs hn' heq e
        go_wp2
        go_quiet (fail)
        go_wp2
        rename_i nq _
        go_ret
        exact ⟨⟨false, rfl, ⟨fun h => (by cases h), fun h => absurd h hfin.out⟩⟩, chainB hb2.out nq⟩
    · obtain rfl : k = n := by omega
      have dk : decide ((k : Int) < (k : Int)) = false := decide_eq_false (by omega)
      have hfin := Lib.hid (hyes.out (fun j hj => hI.out j hj (by have := hlen.out; omega)))
      clear hyes hno hget hI
      go_wp2
      go_ret
      exact ⟨⟨true, rfl, ⟨fun _ => hfin.out, fun _ => rfl⟩⟩, hb.out⟩
end Go.Proofs.Ytcfoclmkhippoaa.E15
