/- The contracts of the reference's Hex and Great. -/
import Derived.Test.YtkppepdniehoiaaDoorB4Ref1
namespace Go.Proofs.YtkppepdniehoiaaDoor.B4
open Go.RowKit Mem
set_option linter.unusedVariables false

theorem sapp (a b : List UInt8) : (⟨a.toArray⟩ ++ ⟨b.toArray⟩ : ByteArray) = ⟨(a ++ b).toArray⟩ := by
  apply ByteArray.ext
  simp
theorem hexD_slice (n : Nat) (h : n < 16) : (⟨#[48, 49, 50, 51, 52, 53, 54, 55, 56, 57, 97, 98, 99, 100, 101, 102]⟩ : ByteArray).extract n (n + 1) = ⟨[hexD n].toArray⟩ := by
  have : ∀ n, n < 16 → (⟨#[48, 49, 50, 51, 52, 53, 54, 55, 56, 57, 97, 98, 99, 100, 101, 102]⟩ : ByteArray).extract n (n + 1) = ⟨[hexD n].toArray⟩ := by decide
  exact this n h
theorem hexL_snoc (l : List UInt8) (c : UInt8) : hexL (l ++ [c]) = hexL l ++ [hexD (c.toNat / 16)] ++ [hexD (c.toNat % 16)] := by
  rw [hexL_append]
  simp [hexL]
theorem take_snoc (s : ByteArray) (k : Nat) (h : k < s.size) : s.data.toList.take (k + 1) = s.data.toList.take k ++ [s[k]] := by
  rw [List.take_succ_eq_append_getElem (by simpa using h)]; rfl
theorem take_all (s : ByteArray) : s.data.toList.take s.size = s.data.toList := List.take_of_length_le (by simp)

set_option maxHeartbeats 1000000 in
theorem rhex_any (s : ByteArray) (w : World) (hs : s.size ≤ 1000000) :
    Calls Tryd.prog 19 #[.string s] w fun e w' => e = .returned (.string ⟨(hexL s.data.toList).toArray⟩) ∧ ∃ n, w' = w.drewN n := by
  go_enter Tryd.func19, Tryd.ntmps19
  go_wp2
  go_loopw [3, 4] (fun v i wr => ∃ k d : Nat, k ≤ s.size ∧ i = .int .i64 k ∧ v = .string ⟨(hexL (s.data.toList.take k)).toArray⟩ ∧ wr = w.drewN d) (fun _ i _ => s.size - (intOf i).toNat)
  case atStart => exact ⟨0, 0, Nat.zero_le _, rfl, rfl, rfl⟩
  case round =>
    obtain ⟨k, d, hk, rfl, rfl, rfl⟩ := hrel
    by_cases hlt : k < s.size
    · have hn := hexL_snoc (s.data.toList.take k) s[k]
      rw [← take_snoc s k hlt] at hn
      have hc := (s[k]).toNat_lt
      obtain ⟨p, hp⟩ : ∃ p, (s[k]).toNat / 16 = p := ⟨_, rfl⟩
      obtain ⟨q, hq⟩ : ∃ q, (s[k]).toNat % 16 = q := ⟨_, rfl⟩
      have hpI : ((s[k]).toNat : Int) / 16 = (p : Int) := by omega
      have hqI : ((s[k]).toNat : Int) % 16 = (q : Int) := by omega
      have hp16 : p < 16 := by omega
      have hq16 : q < 16 := by omega
      rw [hp, hq] at hn
      have hsp := hexD_slice p hp16
      have hsq := hexD_slice q hq16
      have hlen : (hexL (s.data.toList.take k)).length ≤ 2000000 := by
        rw [hexL_len]
        have := List.length_take_le k s.data.toList
        omega
      have hn := Lib.hid hn
      have i0 : (0 : Int) ≤ (k : Int) := by omega
      have i1 : (k : Int) < (s.size : Int) := by omega
      have p0 : (0 : Int) ≤ (p : Int) := by omega
      have p1 : (p : Int) < 16 := by omega
      have q0 : (0 : Int) ≤ (q : Int) := by omega
      have q1 : (q : Int) < 16 := by omega
      clear hp hq hc
      go_wp2_with fail
      go_quiet (fail)
      go_wp2_with fail
      go_quiet (fail)
      go_wp2
      go_roundw
      case rel => exact ⟨k + 1, _, by omega, by go_num, by rw [hn.out, ← sapp, ← sapp], rfl⟩
      case measure => simp [intOf]; omega
    · have hfin := Lib.hid (show s.data.toList.take k = s.data.toList from List.take_of_length_le (by show s.size ≤ k; omega))
      go_wp2
      go_ret
      exact ⟨ret_string (by rw [hfin.out]), _, rfl⟩

/-- All letters together. -/
def totl (l : List (List UInt8)) : Nat := (l.map List.length).sum
def gr (l : List (List UInt8)) : Int := if l.length ≤ 40 ∧ totl l ≤ 2000 then 0 else 1
theorem totl_mem {l : List (List UInt8)} {x : List UInt8} (h : x ∈ l) : x.length ≤ totl l := by
  induction l with
  | nil => cases h
  | cons y l ih =>
    simp only [totl, List.map_cons, List.sum_cons] at ih ⊢
    rcases List.mem_cons.1 h with rfl | h
    · omega
    · have := ih h
      omega
theorem totl_snoc (l : List (List UInt8)) (k : Nat) (h : k < l.length) : totl (l.take (k + 1)) = totl (l.take k) + (l[k]).length := by
  rw [List.take_succ_eq_append_getElem h]
  simp only [totl, List.map_append, List.sum_append, List.map_cons, List.map_nil, List.sum_cons, List.sum_nil, Nat.add_zero]
theorem totl_take (l : List (List UInt8)) (k : Nat) : totl (l.take k) ≤ totl l := by
  conv => rhs; rw [← List.take_append_drop k l]
  simp only [totl, List.map_append, List.sum_append]
  omega
theorem strV_get (l : List (List UInt8)) (k : Nat) (h : k < l.length) : (strVs l)[k]'(by rw [strVs_len]; exact h) = .string ⟨(l[k]).toArray⟩ := by
  simp [strVs, strV]

set_option maxHeartbeats 1000000 in
theorem rgreat_any (A : Option Addr) (cap : Nat) (l : List (List UInt8)) (w : World) (hc : l.length ≤ cap) (hcm : cap ≤ 9223372036854775807) (hx : ∀ x ∈ l, x.length ≤ 9223372036854775807) (hr : Rd w A (strVs l)) :
    Calls Tryd.prog 12 #[.slice A l.length cap] w fun e w' => e = .returned (.int .i64 (gr l)) ∧ w = w' := by
  by_cases h40 : 40 < l.length
  · have hd : decide ((40 : Int) < (l.length : Int)) = true := decide_eq_true (by omega)
    have hg := Lib.hid (show gr l = 1 by unfold gr; rw [if_neg (by omega)])
    go_enter Tryd.func12, Tryd.ntmps12
    go_wp2
    go_ret
    exact ⟨ret_i hg.out.symm, rfl⟩
  · have hd : decide ((40 : Int) < (l.length : Int)) = false := decide_eq_false (by omega)
    have hrh := Lib.hid hr
    clear hr
    go_enter Tryd.func12, Tryd.ntmps12
    go_wp2
    go_loop [3, 4] (fun n i => ∃ k N : Nat, k ≤ l.length ∧ i = .int .i64 k ∧ n = .int .i64 N ∧ N ≤ 2000 * k ∧ Hid (N = totl (l.take k))) (fun _ i => l.length - (intOf i).toNat)
    case atStart => exact ⟨0, 0, Nat.zero_le _, rfl, rfl, Nat.zero_le _, Lib.hid rfl⟩
    case round =>
      obtain ⟨k, N, hk, rfl, rfl, hN, hNe⟩ := hrel
      by_cases hlt : k < l.length
      · obtain ⟨b, o, rfl, hb, hcell⟩ := hrh.out k (by rw [strVs_len]; exact hlt)
        rw [strV_get l k hlt] at hcell
        have hxl := hx _ (List.getElem_mem hlt)
        have hmem := totl_mem (List.getElem_mem hlt)
        have hsn := totl_snoc l k hlt
        rw [← hNe.out] at hsn
        obtain ⟨x, hxe⟩ : ∃ x, l[k] = x := ⟨_, rfl⟩
        rw [hxe] at hcell hxl hmem hsn
        have hI0 : (0 : Int) ≤ (k : Int) := by omega
        have hI1 : (k : Int) < (l.length : Int) := by omega
        by_cases h2000 : 2000 < x.length
        · have hd2 : decide ((2000 : Int) < (x.length : Int)) = true := decide_eq_true (by omega)
          have hg := Lib.hid (show gr l = 1 by unfold gr; rw [if_neg (by omega)])
          clear hsn hmem hxe
          go_wp2
          go_ret
          exact ⟨ret_i hg.out.symm, rfl⟩
        · have hd2 : decide ((2000 : Int) < (x.length : Int)) = false := decide_eq_false (by omega)
          have hsn := Lib.hid hsn
          have hNb : N + x.length ≤ 2000 * (k + 1) := by omega
          have hk40 : k ≤ 40 := by omega
          clear hmem hxe
          go_wp2
          go_round
          case rel => exact ⟨k + 1, N + x.length, by omega, by go_num, by go_num, hNb, Lib.hid hsn.out.symm⟩
          case measure => simp [intOf]; omega
      · have hNt : N = totl l := by rw [hNe.out, List.take_of_length_le (by omega)]
        have hk40 : k ≤ 40 := by omega
        by_cases h2000 : 2000 < N
        · have hd2 : decide ((2000 : Int) < (N : Int)) = true := decide_eq_true (by omega)
          have hg := Lib.hid (show gr l = 1 by unfold gr; rw [if_neg (by omega)])
          clear hNt hNe
          go_wp2
          go_ret
          exact ⟨ret_i hg.out.symm, rfl⟩
        · have hd2 : decide ((2000 : Int) < (N : Int)) = false := decide_eq_false (by omega)
          have hg := Lib.hid (show gr l = 0 by unfold gr; rw [if_pos (by omega)])
          clear hNt hNe
          go_wp2
          go_ret
          exact ⟨ret_i hg.out.symm, rfl⟩
end Go.Proofs.YtkppepdniehoiaaDoor.B4
