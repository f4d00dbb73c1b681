/- 'append([]byte(s), make([]byte, k)...)' as a row of field elements. -/
import Derived.Test.YtgjinnllofpoaaaApz
import Derived.Test.YtgjinnllofpoaaaG7El
namespace Go.Proofs.Ytgjinnllofpoaaa.G7
open Go.Proofs.Ytgjinnllofpoaaa.G5
open Go.Proofs.Ytgjinnllofpoaaa.G6 (rs rs_len rs_append info_byte)
open Go.RowKit Mem
set_option linter.unusedVariables false
set_option linter.unusedSimpArgs false

theorem bys_el (s : ByteArray) : bys s.data.toList = rs (el s) := by
  unfold bys rs el
  rw [List.map_map]
  rfl
theorem sl_tail {w : World} {g n c : Nat} {l : List R} (h : VAt w g (rs l)) (hc : l.length ≤ c) (hc2 : c ≤ 9223372036854775807) (hg : g < w.heap.size) (hn : n ≤ l.length) : G6.IsSl w (some ⟨g, n, none⟩) (c - n) (l.drop n) := by
  refine ⟨by rw [List.length_drop]; omega, by omega, (fun h => by cases h), fun j hj => ⟨g, n, rfl, hg, ?_⟩⟩
  have hj' : n + j < (rs l).length := by rw [rs_len, List.length_drop] at hj; rw [rs_len]; omega
  rw [(h (n + j) hj').1]
  simp [rs]
theorem rs_zeros (k : Nat) : List.replicate k (Value.int .u8 0) = rs (List.replicate k 0) := by
  unfold rs
  rw [List.map_replicate]
  rfl
theorem pad_bytes (w : World) (s : ByteArray) (k : Nat) (h0 : 0 < k) (hk : s.size + k ≤ 1000) : ∃ (cap : Nat) (W1 W2 : World) (G c : Nat),
    (convert 9 22 (.string s)).run Try.prog w = .ok (.slice (some ⟨w.heap.size, 0, none⟩) s.size cap) W1 ∧
    (Builtin.append_ #[22, 3] 22 #[.slice (some ⟨w.heap.size, 0, none⟩) s.size cap, .int .i64 (k : Int)]).run Try.prog W1 = .ok (.slice (some ⟨G, 0, none⟩) (s.size + k) c) W2 ∧
    s.size + k ≤ c ∧ c ≤ 9223372036854775807 ∧ VAt W2 G (rs (el s ++ List.replicate k 0)) ∧ w.heap.size ≤ G ∧ G < W2.heap.size ∧ Below w.heap.size w W2 := by
  obtain ⟨i0, hi, hz0, hz1, hz2⟩ := info_parts info_byte
  have hcv := run_bytes_of_string (P := Try.prog) w 9 22 5 s Try.underlying9 Try.underlying22 Try.underlying5
  have hge := grownCap_ge w s.size 0 5
  have hle := grownCap_le_maxLen w s.size 0 5 (by unfold maxLen; omega)
  obtain ⟨cap, hcap⟩ : ∃ cap, grownCap w s.size 0 5 = cap := ⟨_, rfl⟩
  rw [hcap] at hcv hge hle
  have hCs : (bytesRow s cap).size = cap := by simp [bytesRow]; omega
  rw [hCs] at hcv
  have hg : (w.drew.alloc (.cells (bytesRow s cap) 5 (cap, cap + 1))).heap[w.heap.size]? = some (.cells (bytesRow s cap) 5 (cap, cap + 1)) := by
    show (w.heap.push _)[w.heap.size]? = _
    simp
  have hlist : (bytesRow s cap).toList.take s.size = bys s.data.toList := by
    apply List.ext_getElem?
    intro j
    rw [List.getElem?_take]
    by_cases hj : j < s.size
    · rw [if_pos hj, Array.getElem?_toList, bytesRow_at s cap j (by simpa using hj), bys_get _ _ (by simpa using hj)]
      rfl
    · rw [if_neg hj, List.getElem?_eq_none (by rw [bys_len]; simp; omega)]
  obtain ⟨W2, G, c, hr, h1, h2, hp⟩ := append_zeros (P := Try.prog) (w.drew.alloc (.cells (bytesRow s cap) 5 (cap, cap + 1))) 22 3 22 5 i0 .i64 .i64 Try.underlying22 Try.underlying3 hi hz0 hz1 hz2
    w.heap.size s.size cap (bytesRow s cap) s.data.toList (by simp) hg hCs hge (by unfold maxLen at hle; omega) hlist k h0 (by omega)
  have hrow := hp.row
  rw [bys_el, rs_zeros, ← rs_append] at hrow
  exact ⟨cap, _, W2, G, c, hcv, hr, h1, h2, hrow, hp.lo, hp.lt, (((Below.refl _ w).drew.alloc (by simp) _).trans hp.below)⟩
end Go.Proofs.Ytgjinnllofpoaaa.G7
