/- The walk of the law Crc32Bursts, under the package's contracts. -/
import Derived.Test.YtnafcicllcmbbaaK3Law2
namespace Go.Proofs.Ytnafcicllcmbbaa.K3
open Go.RowKit Mem
set_option linter.unusedVariables false
variable {L : World → Prop}

/-- The first j bytes of the window changed. -/
def prt (l e : List UInt8) (p j : Nat) : List UInt8 := l.mapIdx fun i c => if p ≤ i ∧ i < p + j then c ^^^ e.getD (i - p) 0 else c
theorem prt_len (l e : List UInt8) (p j : Nat) : (prt l e p j).length = l.length := by simp [prt]
theorem prt_get (l e : List UInt8) (p j i : Nat) (h : i < (prt l e p j).length) (h' : i < l.length) : (prt l e p j)[i] = if p ≤ i ∧ i < p + j then l[i] ^^^ e.getD (i - p) 0 else l[i] := by simp [prt]
theorem prt_zero (l e : List UInt8) (p : Nat) : prt l e p 0 = l := by
  apply List.ext_getElem (prt_len _ _ _ _)
  intro i h1 h2
  rw [prt_get _ _ _ _ _ _ h2, if_neg (by omega)]
theorem prt_at (l e : List UInt8) (p j : Nat) (h : p + j < l.length) (h' : p + j < (prt l e p j).length) : (prt l e p j)[p + j] = l[p + j] := by
  rw [prt_get _ _ _ _ _ _ h, if_neg (by omega)]
theorem prt_set (l e : List UInt8) (p j : Nat) (h : p + j < l.length) : (prt l e p j).set (p + j) (l[p + j] ^^^ e.getD j 0) = prt l e p (j + 1) := by
  apply List.ext_getElem (by rw [List.length_set, prt_len, prt_len])
  intro i h1 h2
  have hi : i < l.length := by rw [prt_len] at h2; exact h2
  rw [List.getElem_set, prt_get _ _ _ _ i h2 hi]
  by_cases e1 : p + j = i
  · subst e1
    rw [if_pos rfl, if_pos (by omega), Nat.add_sub_cancel_left]
  · rw [if_neg e1, prt_get _ _ _ _ i _ hi]
    by_cases e2 : p ≤ i ∧ i < p + j
    · rw [if_pos e2, if_pos (by omega)]
    · rw [if_neg e2, if_neg (by omega)]
theorem prt_five (l e : List UInt8) (p : Nat) (h : p + 5 ≤ l.length) (he : e.length = 5) : prt l e p 5 = l.take p ++ xz ((l.drop p).take 5) e ++ l.drop (p + 5) := by
  have hm : ((l.drop p).take 5).length = 5 := by simp; omega
  have hx : (xz ((l.drop p).take 5) e).length = 5 := by rw [xz_len _ _ (by rw [hm, he]), hm]
  apply List.ext_getElem
  · rw [prt_len, List.length_append, List.length_append, hx]
    simp
    omega
  · intro i h1 h2
    have hi : i < l.length := by rw [prt_len] at h1; exact h1
    rw [prt_get _ _ _ _ i h1 hi]
    have ht : (l.take p).length = p := by simp; omega
    by_cases e1 : i < p
    · rw [if_neg (by omega), List.getElem_append_left (by rw [List.length_append, ht, hx]; omega), List.getElem_append_left (by rw [ht]; exact e1)]
      simp
    · by_cases e2 : i < p + 5
      · rw [if_pos (by omega), List.getElem_append_left (by rw [List.length_append, ht, hx]; omega), List.getElem_append_right (by rw [ht]; omega), xz_get _ _ _ (by rw [hx, ht]; omega) (by rw [hm, ht]; omega) (by rw [he, ht]; omega)]
        simp only [List.getElem_take, List.getElem_drop, ht]
        have hq : p + (i - p) = i := by omega
        simp only [hq]
        congr 1
        rw [List.getD_eq_getElem?_getD, List.getElem?_eq_getElem (by rw [he]; omega)]
        rfl
      · rw [if_neg (by omega), List.getElem_append_right (by rw [List.length_append, ht, hx]; omega)]
        simp only [List.getElem_drop, List.length_append, ht, hx]
        have hq : p + 5 + (i - (p + 5)) = i := by omega
        simp only [hq]
theorem whole_five (l : List UInt8) (p : Nat) : l = l.take p ++ (l.drop p).take 5 ++ l.drop (p + 5) := by
  rw [List.append_assoc, show l.drop (p + 5) = (l.drop p).drop 5 by rw [List.drop_drop], List.take_append_drop, List.take_append_drop]
theorem burst_prt (l : List UInt8) (p sh : Nat) (v : R) (h : p + 5 ≤ l.length) (hs : sh < 9) (hv : v ≠ 0) : sumL (prt l (five v sh) p 5) ≠ sumL l := by
  rw [prt_five l _ p h rfl]
  conv => rhs; rw [whole_five l p]
  exact burst hs (by simp; omega) hv
theorem five_get (v : R) (sh j : Nat) (h : j < 5) : (five v sh).getD j 0 = wb (wd v sh) (32 - 8 * j) := by
  match j, h with
  | 0, _ => rfl
  | 1, _ => rfl
  | 2, _ => rfl
  | 3, _ => rfl
  | 4, _ => rfl

set_option maxHeartbeats 2000000 in
theorem walk_bursts (D : Dev L) (s : ByteArray) (k b : Int) (w : World) (hL0 : L w) (hs : s.size ≤ 140737488351232) (hk : (Lit.int .u16 k).wf = true) (hb : (Lit.int .u32 b).wf = true) :
    Calls Try.prog 8 #[.string s, .int .u16 k, .int .u32 b] w fun e w' => e = .returned (.bool true) ∧ Below w.heap.size w w' := by
  obtain ⟨v, rfl⟩ := u32_reg hb
  obtain ⟨hk1, hk2⟩ : 0 ≤ k ∧ k ≤ 65535 := (Lit.wf_int_iff .u16 _).1 hk
  clear hb hk
  by_cases h5 : s.size < 5
  · have d1 : decide ((s.size : Int) < 5) = true := decide_eq_true (by omega)
    go_enter Try.func8, Try.ntmps8
    go_wp2_with fail
    refine (awake_any D _ hL0).mono ?_
    rintro e w7 ⟨rfl, hb7⟩
    go_wp2
    go_ret
    exact ⟨rfl, hb7⟩
  · have d1 : decide ((s.size : Int) < 5) = false := decide_eq_false (by omega)
    by_cases h100 : 100 < s.size
    · have d2 : decide ((100 : Int) < (s.size : Int)) = true := decide_eq_true (by omega)
      go_enter Try.func8, Try.ntmps8
      go_wp2_with fail
      refine (awake_any D _ hL0).mono ?_
      rintro e w7 ⟨rfl, hb7⟩
      go_wp2
      go_ret
      exact ⟨rfl, hb7⟩
    · have d2 : decide ((100 : Int) < (s.size : Int)) = false := decide_eq_false (by omega)
      by_cases hv0 : v = 0
      · have d3 : ((v.toNat : Int) == 0) = true := by rw [hv0]; rfl
        go_enter Try.func8, Try.ntmps8
        go_wp2_with fail
        refine (awake_any D _ hL0).mono ?_
        rintro e w7 ⟨rfl, hb7⟩
        go_wp2
        go_ret
        exact ⟨rfl, hb7⟩
      · have d3 : ((v.toNat : Int) == 0) = false := by
          rw [beq_eq_false_iff_ne]
          intro e
          apply hv0
          apply BitVec.eq_of_toNat_eq
          have : v.toNat = 0 := by omega
          exact this
        have hvl := v.isLt
        obtain ⟨K, hK⟩ : ∃ K : Nat, k % (8 * (s.size : Int) - 39) = (K : Int) := ⟨(k % (8 * (s.size : Int) - 39)).toNat, by
          have := Int.emod_nonneg k (show (8 * (s.size : Int) - 39) ≠ 0 by omega)
          omega⟩
        have hKl : K < 8 * s.size - 39 := by
          have := Int.emod_lt_of_pos k (show (0 : Int) < (8 * (s.size : Int) - 39) by omega)
          omega
        obtain ⟨p, hp⟩ : ∃ p : Nat, (K : Int) / 8 = (p : Int) := ⟨K / 8, by omega⟩
        have hpl : p + 5 ≤ s.size := by omega
        obtain ⟨sh, hsh⟩ : ∃ sh : Nat, (8 : Int) - (K : Int) % 8 = (sh : Int) := ⟨8 - K % 8, by omega⟩
        have hshl : sh < 9 := by omega
        have hsh1 : 1 ≤ sh := by omega
        have hwd := wd_toNat v sh (by omega)
        have hZl : (wd v sh).toNat < 18446744073709551616 := (wd v sh).isLt
        have hwide : IntKind.u64.wrap ((v.toNat : Int) * 2 ^ sh) = ((wd v sh).toNat : Int) := by
          rw [IntKind.wrap_u64, hwd]
          have : ((v.toNat * 2 ^ sh : Nat) : Int) = (v.toNat : Int) * 2 ^ sh := by simp
          rw [← this]
          omega
        have hwbs : ∀ m, wb (wd v sh) m = wb (wd v sh) m := fun _ => rfl
        have hwb := fun m => wb_toNat (wd v sh) m
        have hburst := burst_prt s.data.toList p sh v hpl hshl hv0
        have hfive := fun j (h : j < 5) => five_get v sh j h
        have hpset := fun j (h : p + j < s.data.toList.length) => prt_set s.data.toList (five v sh) p j h
        have hpat := fun j (h : p + j < s.data.toList.length) (h' : p + j < (prt s.data.toList (five v sh) p j).length) => prt_at s.data.toList (five v sh) p j h h'
        obtain ⟨F, hF⟩ : ∃ F, five v sh = F := ⟨_, rfl⟩
        rw [hF] at hburst hfive hpset hpat
        obtain ⟨Z, hZ⟩ : ∃ Z, wd v sh = Z := ⟨_, rfl⟩
        rw [hZ] at hfive hwb hwide hZl
        have hburst := Lib.hid hburst
        have hfive := Lib.hid hfive
        have hpset := Lib.hid hpset
        have hpat := Lib.hid hpat
        have hwb := Lib.hid hwb
        have hK8 : (0 : Int) ≤ (K : Int) := by omega
        clear hwd hF hZ hvl hwbs
        obtain ⟨C, cap, hcap, hrun, hat⟩ := bytes_of (P := Try.prog) w s Try.underlying9 Try.underlying38 Try.underlying5
        obtain ⟨w2, hw2⟩ : ∃ w2, w.alloc (.cells C 5 (cap, cap + 1)) = w2 := ⟨_, rfl⟩
        have hb2 : Below w.heap.size w w2 := by rw [← hw2]; exact below_made w _
        have hsz2 : w.heap.size < w2.heap.size := by rw [← hw2]; simp
        rw [hw2] at hat
        obtain ⟨G, hG⟩ : ∃ G, w.heap.size = G := ⟨_, rfl⟩
        go_enter Try.func8, Try.ntmps8
        go_wp2_with fail
        rw [hK]
        go_loopw [10] (fun i wr => ∃ j : Nat, j ≤ 5 ∧ i = .int .i64 j ∧ Hid (BAt wr G (prt s.data.toList F p j)) ∧ G < wr.heap.size ∧ Below w.heap.size w wr) (fun i _ => 5 - (intOf i).toNat)
        case atStart => exact ⟨0, Nat.zero_le _, rfl, Lib.hid (by rw [prt_zero, ← hG]; exact hat), by rw [← hG]; exact hsz2, hb2.drew⟩
        case round =>
          clear hat hb2 hrun
          obtain ⟨j, hj, rfl, hA, hGs, hbr⟩ := hrel
          by_cases hlt : j < 5
          · have hpj : p + j < s.size := by omega
            obtain ⟨m, hm⟩ : ∃ m : Nat, (32 : Int) - 8 * (j : Int) = (m : Int) := ⟨32 - 8 * j, by omega⟩
            have hm32 : m ≤ 32 := by omega
            have hlen : p + j < (prt s.data.toList F p j).length := by rw [prt_len]; exact hpj
            have hcf := hA.out (p + j) hlen
            rw [hpat.out j hpj hlen] at hcf
            have hset := hA.out.set hlen (s.data.toList[p + j] ^^^ F.getD j 0)
            rw [hpset.out j hpj] at hset
            rw [hfive.out j hlt, show 32 - 8 * j = m by omega] at hset
            have hc1 : wr.cell? ⟨G, p + j, none⟩ = some (.int .u8 ((s[p + j]).toNat : Int)) := hcf.1
            have hf1 : wr.frozen? ⟨G, p + j, none⟩ = false := hcf.2
            have he : ((Z.toNat : Int) / 2 ^ m % 256) = ((wb Z m).toNat : Int) := by
              rw [hwb.out m]
              simp
            obtain ⟨c, hc⟩ : ∃ c, wb Z m = c := ⟨_, rfl⟩
            rw [hc] at he hset
            have hx := b8xr s[p + j] c
            obtain ⟨q, hq⟩ : ∃ q, s[p + j] ^^^ c = q := ⟨_, rfl⟩
            rw [hq] at hx
            rw [show s.data.toList[p + j]'hpj = s[p + j] from rfl, hq] at hset
            have hseth := Lib.hid hset
            have hi0 : (0 : Int) ≤ (p : Int) + (j : Int) := by omega
            have hi1 : (p : Int) + (j : Int) < (s.size : Int) := by omega
            clear hcf hset hc hq hA
            go_wp2_with fail
            go_region
            go_wp2
            go_roundw
            case rel => exact ⟨j + 1, by omega, by go_num, Lib.hid (by exact hseth.out), by simpa using hGs, (hbr.setCell (p := ⟨G, p + j, none⟩) (by rw [← hG]; exact Nat.le_refl _) _).drew⟩
            case measure => simp [intOf]; omega
          · have hj5 : j = 5 := by omega
            subst hj5
            have hat := hA.out
            have hXl : (prt s.data.toList F p 5).length = s.size := prt_len _ _ _ _
            have hbu := hburst.out
            clear hA hburst hfive hpset hpat hwb
            obtain ⟨X, hX⟩ : ∃ X, prt s.data.toList F p 5 = X := ⟨_, rfl⟩
            rw [hX] at hat hXl hbu
            have hconv := hat.conv (P := Try.prog) (cap := cap) (dst := 9) hXl Try.underlying38 Try.underlying5 Try.underlying9
            have c1 := fun W (h : L W) => sum1 D ⟨X.toArray⟩ W (by rw [str_size]; omega) h
            rw [str_list] at c1
            have c2 := fun W (h : L W) => sum1 D s W (by omega) h
            have hXs : ¬ X = s.toList := fun e => hbu (by rw [e, str_toList])
            have hXb := Lib.hid (show (X == s.toList) = false from beq_eq_false_iff_ne.2 hXs)
            obtain ⟨y, hy⟩ : ∃ y, sumL X = y := ⟨_, rfl⟩
            obtain ⟨z, hz⟩ : ∃ z, sumL s.data.toList = z := ⟨_, rfl⟩
            rw [hy, hz] at hbu
            rw [hy] at c1
            rw [hz] at c2
            have hne : ((y.toNat : Int) == (z.toNat : Int)) = false := by
              rw [beq_eq_false_iff_ne]
              intro e
              exact hbu (BitVec.eq_of_toNat_eq (by omega))
            have hne2 : ((y.toNat : Int) != (z.toNat : Int)) = true := by rw [bne, hne]; rfl
            have hL := D.keep hL0 hbr
            have c1 := Lib.hid c1
            have c2 := Lib.hid c2
            clear hX hy hz hbu hne hat
            go_wp2_with fail
            refine (c1.out _ hL).mono ?_
            rintro e w3 ⟨rfl, hb3⟩
            have hL := D.keep hL hb3
            go_wp2_with fail
            refine (c2.out _ hL).mono ?_
            rintro e w4 ⟨rfl, hb4⟩
            have hL := D.keep hL hb4
            go_wp2_with fail
            refine (awake_any D _ hL).mono ?_
            rintro e w7 ⟨rfl, hb7⟩
            go_wp2
            go_ret
            exact ⟨ret_bool (by rw [hXb.out]; rfl), chain (chain (chain hbr hb3) hb4) hb7⟩
end Go.Proofs.Ytnafcicllcmbbaa.K3
