/- The landed step of layer 17, whole; the closure that recovers. -/
import Derived.Test.YthmgocjmfhpafaaDoorM17OwnW
namespace Go.Proofs.YthmgocjmfhpafaaDoor.M17
set_option maxRecDepth 100000
open Go.RowKit Mem Go.Shelf
set_option linter.unusedVariables false
set_option linter.unusedSimpArgs false

theorem step_own {w0 w : World} {base B k : Nat} {s : St} (h : On w0 base w B s k) (hol : s.out.length ≤ 1000000000) : Calls Tryd.prog 84 #[.pointer (some ⟨B, 0, none⟩)] w (StQ w0 base B k s) := by
  obtain ⟨M, E, P, D, C, O, IA, ic, h⟩ := h
  by_cases hp : s.pc < 262144
  · obtain ⟨c, hc⟩ : ∃ c, s.mem s.pc = c := ⟨_, rfl⟩
    by_cases h0 : 48 ≤ c ∧ c ≤ 57
    · exact step_digit h hp hc h0
    by_cases h1 : c = 32
    · exact step_space h hp hc h1
    by_cases h2 : c = 10
    · exact step_feed h hp hc h2
    by_cases h3 : c = 36
    · exact step_stop h hp hc h3
    by_cases h4 : c = 64
    · rcases hd : s.ds with _ | ⟨a, r⟩
      · exact step_load_none h hp hc h4 hd
      · by_cases ha : a < 262144
        · exact step_load_own h hp hc h4 hd ha
        · exact step_load_bad h hp hc h4 hd ha
    by_cases h5 : c = 58
    · rcases hd : s.ds with _ | ⟨a, r⟩
      · exact step_call_none h hp hc h5 hd
      · by_cases hl : s.cs.length < 64
        · exact step_call_own h hp hc h5 hd hl
        · exact step_call_full h hp hc h5 hd (by have := h.ok.cl; omega)
    by_cases h6 : c = 59
    · rcases hd : s.cs with _ | ⟨a, r⟩
      · exact step_ret_none h hp hc h6 hd
      · exact step_ret_own h hp hc h6 hd
    by_cases h7 : c = 44
    · by_cases hl : s.ds.length < 256
      · exact step_read_own h hp hc h7 hl
      · exact step_read_full h hp hc h7 (by have := h.ok.dl; omega)
    by_cases h8 : c = 46
    · rcases hd : s.ds with _ | ⟨a, r⟩
      · exact step_write_none h hp hc h8 hd
      · exact step_write_own h hp hc h8 hd hol
    exact step_two h hp hc ⟨h0, fun e => e.elim h1 h2, h3, h4, h5, h6, h7, h8⟩
  · exact step_out_of h hp
end Go.Proofs.YthmgocjmfhpafaaDoor.M17
