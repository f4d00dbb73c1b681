/- Facts on slices of field elements in memory: what a walk is told of one, reading, 'string(p)', a row of the call's own, a call that hands one back. -/
import Derived.DataShut
import Derived.Test.YtcfoclmkhippoaaRows
import Derived.Test.YtcfoclmkhippoaaMem
import Derived.Test.YtcfoclmkhippoaaG5Val
import Derived.Test.YtcfoclmkhippoaaG6More
import Derived.Laws.OwnMore
namespace Go.Proofs.Ytcfoclmkhippoaa.G6
set_option maxRecDepth 100000
open Go.Proofs.Ytcfoclmkhippoaa.G5
open Go.RowKit Mem
set_option linter.unusedVariables false
set_option linter.unusedSimpArgs false

/-- Elements as cells. -/
def rs (l : List R) : List Value := l.map fun x => bv x
theorem rs_len (l : List R) : (rs l).length = l.length := by simp [rs]
theorem rs_snoc (l : List R) (a : R) : rs (l ++ [a]) = rs l ++ [bv a] := by simp [rs]
theorem rs_append (l m : List R) : rs (l ++ m) = rs l ++ rs m := by simp [rs]
theorem rs_one (l : List R) : ∀ u ∈ rs l, u.oneCell' = true := by
  intro u hu
  obtain ⟨x, _, rfl⟩ := List.mem_map.1 hu
  rfl
theorem rs_get (l : List R) (j : Nat) (h : j < (rs l).length) : (rs l)[j] = bv (l.getD j 0) := by
  have h' : j < l.length := by rwa [rs_len] at h
  simp [rs, List.getD_eq_getElem?_getD, List.getElem?_eq_getElem h']
theorem rs_take (l : List R) (n : Nat) : rs (l.take n) = (rs l).take n := by simp [rs, List.map_take]
theorem take_snoc (l : List R) (j : Nat) (h : j < l.length) : l.take (j + 1) = l.take j ++ [l.getD j 0] := by
  rw [List.take_succ_eq_append_getElem h]
  simp [List.getD_eq_getElem?_getD, List.getElem?_eq_getElem h]
theorem getD_far (l : List R) (j : Nat) (h : l.length ≤ j) : l.getD j 0 = 0 := by
  simp [List.getD_eq_getElem?_getD, List.getElem?_eq_none h]

/-- What a walk is told of a slice of elements. -/
structure IsSl (w : World) (A : Option Addr) (cap : Nat) (l : List R) : Prop where
  hle : l.length ≤ cap
  hcap : cap ≤ 9223372036854775807
  hnil : A = none → cap = 0
  rd : Rd w A (rs l)
theorem IsSl.below {w w' : World} {A : Option Addr} {cap : Nat} {l : List R} (h : IsSl w A cap l) (k : Below w.heap.size w w') : IsSl w' A cap l := ⟨h.hle, h.hcap, h.hnil, h.rd.below k⟩
theorem IsSl.no (w : World) : IsSl w none 0 [] := ⟨Nat.le_refl _, by decide, fun _ => rfl, fun j h => by simp [rs] at h⟩
theorem IsSl.read {w : World} {A : Option Addr} {cap : Nat} {l : List R} (h : IsSl w A cap l) (j : Nat) (hj : j < l.length) :
    ∃ b o : Nat, A = some ⟨b, o, none⟩ ∧ b < w.heap.size ∧ w.cell? ⟨b, o + j, none⟩ = some (bv (l.getD j 0)) := by
  obtain ⟨b, o, e, hb, hc⟩ := h.rd j (by rw [rs_len]; exact hj)
  rw [rs_get] at hc
  exact ⟨b, o, e, hb, hc⟩
theorem IsSl.of_own {w : World} {base cap n : Nat} {e : TypeId} {A : Option Addr} {l : List R} (h : w.ownsRow base e 1 (.slice A n cap) n (rs l)) : IsSl w A cap l ∧ l.length = n := by
  have hl : l.length = n := by have := h.1; rw [rs_len] at this; omega
  obtain ⟨A', cap', hv, h1, h2⟩ := own_slice h
  injection hv with e1 e2 e3
  subst e1 e3
  refine ⟨⟨by omega, h2, fun hA => ?_, Rd.of_own h⟩, hl⟩
  subst hA
  rcases h.2 with ⟨h0, _⟩ | ⟨g, cap', cur, hv, _⟩
  · injection h0
  · injection hv with hv
    cases hv
/-- A literal of elements just laid. -/
theorem IsSl.made (w : World) (e : TypeId) (l : List R) (cs : Array Value) (N n : Nat) (h : cs.toList = rs l) (hN : w.heap.size = N) (hn : l.length = n) (hb : n ≤ 9223372036854775807) : IsSl (w.alloc (.cells cs e)) (some ⟨N, 0, none⟩) n l := by
  subst hN hn
  refine ⟨Nat.le_refl _, hb, (fun h => by cases h), fun j hj => ⟨w.heap.size, 0, rfl, by simp, ?_⟩⟩
  rw [World.cell?_alloc_new, Nat.zero_add]
  have hj' : j < cs.toList.length := by rw [h]; exact hj
  have hj2 : j < cs.size := by simpa using hj'
  simp only [Array.getElem?_eq_getElem hj2]
  congr 1
  have : cs.toList[j] = (rs l)[j] := by simp only [h]
  simpa using this

/-- As a string's letters. -/
def u8s (l : List R) : List UInt8 := l.map UInt8.ofBitVec
theorem u8s_len (l : List R) : (u8s l).length = l.length := by simp [u8s]
theorem u8s_inj {l m : List R} (h : u8s l = u8s m) : l = m := by
  unfold u8s at h
  refine (List.map_inj_right (fun a b e => ?_)).1 h
  injection e
theorem conv_sl {P : Program} {w : World} {cap n : Nat} {src dst e : TypeId} {A : Option Addr} {l : List R} (hs : P.underlying src = some (.slice e)) (he : P.underlying e = some (.int .u8)) (hd : P.underlying dst = some .string)
    (h : IsSl w A cap l) (hn : l.length = n) : (convert src dst (.slice A n cap)).run P w = .ok (.string ⟨(u8s l).toArray⟩) w := by
  subst hn
  rcases A with _ | a
  · have hc := h.hnil rfl
    have hl := h.hle
    obtain rfl : l = [] := List.eq_nil_of_length_eq_zero (by omega)
    subst hc
    rw [run_convert_bytes_string w src dst e none _ 0 hs he hd]
    rfl
  · rw [← u8s_len l]
    refine run_convert_bytes_back w src dst e a cap (u8s l) hs he hd fun j hj => ?_
    rw [u8s_len] at hj
    obtain ⟨b, o, e, _, hc⟩ := h.read j hj
    injection e with e
    subst e
    have : (⟨b, o, none⟩ : Addr).add j = ⟨b, o + j, none⟩ := by
      by_cases h0 : j = 0
      · subst h0; rfl
      · simp [Addr.add, h0]
    rw [this, hc]
    simp [u8s, List.getD_eq_getElem?_getD, List.getElem?_eq_getElem hj]
theorem str_same (l m : List R) : ((⟨(u8s l).toArray⟩ : ByteArray).toList == (⟨(u8s m).toArray⟩ : ByteArray).toList) = (l == m) := by
  rw [str_toList, str_toList, str_list, str_list, Bool.eq_iff_iff, beq_iff_eq, beq_iff_eq]
  exact ⟨u8s_inj, fun h => by rw [h]⟩

theorem info_byte : (Try.prog.info? 5).map (fun i => (i.zero, i.size, i.bytes)) = some (some (.int .u8 0), 1, 1) := by kernel_rfl

/-- A call that hands back a slice of these elements, and leaves what lay. -/
def Gives (w : World) (l : List R) (e : Ending) (w' : World) : Prop := ∃ A c, e = .returned (.slice A l.length c) ∧ IsSl w' A c l ∧ Below w.heap.size w w'
theorem Gives.of_own {w w' : World} {n : Nat} {e : TypeId} {v : Value} {l : List R} (h : w'.ownsRow w.heap.size e 1 v n (rs l)) (k : Below w.heap.size w w') : Gives w l (.returned v) w' := by
  obtain ⟨A, c, rfl, h1, h2⟩ := own_slice h
  obtain ⟨h3, rfl⟩ := IsSl.of_own h
  exact ⟨A, c, rfl, h3, k⟩

theorem rd_take {w : World} {A : Option Addr} {l : List R} (h : Rd w A (rs l)) (n : Nat) : Rd w A (rs (l.take n)) := fun j hj => by
  have hj' : j < (rs l).length := by rw [rs_len, List.length_take] at hj; rw [rs_len]; omega
  obtain ⟨b, o, e, hb, hc⟩ := h j hj'
  refine ⟨b, o, e, hb, hc.trans ?_⟩
  congr 1
  simp [rs]

theorem Gives.on {w wr w' : World} {l : List R} {e : Ending} (h : Gives wr l e w') (k : Below w.heap.size w wr) : Gives w l e w' := by
  obtain ⟨A, c, he, hs, hb⟩ := h
  exact ⟨A, c, he, hs, chain k hb⟩
theorem make_zeros (w : World) (n : Nat) (h : n ≤ 1000000) : (Instr.makeSlice 67 (.int .i64 (n : Int)) (.int .i64 (n : Int))).run Try.prog w = .ok (.slice (some ⟨w.heap.size, 0, none⟩) n n) (w.alloc (.cells (madeCells #[.int .u8 0] n) 5)) := by
  obtain ⟨i0, hi, hz0, hz1, hz2⟩ := info_parts info_byte
  have hr := run_make (P := Try.prog) w 67 5 i0 (.int .u8 0) Try.underlying67 hi hz0 .i64 .i64 (n : Int) (n : Int) (by omega) (Int.le_refl _) (by rw [hz2]; omega) (by omega)
  rw [hz1, Nat.mul_one, show (Value.int .u8 0).cells = #[.int .u8 0] from rfl] at hr
  simp only [Int.toNat_natCast] at hr
  exact hr
theorem own_zeros (w : World) (n : Nat) (h : n ≤ 1000000) : (w.alloc (.cells (madeCells #[.int .u8 0] n) 5)).ownsRow w.heap.size 5 1 (.slice (some ⟨w.heap.size, 0, none⟩) n n) n (rs (List.replicate n 0#8)) := by
  have hz := World.ownsRow_lit (base := w.heap.size) (e := 5) (size := 1) w (madeCells #[.int .u8 0] n) n (Nat.le_refl _) (by unfold maxLen; omega) (by rw [← Array.length_toList, toList_madeCells_one]; simp)
  rw [toList_madeCells_one] at hz
  have e : List.replicate n (Value.int .u8 0) = rs (List.replicate n 0) := by
    unfold rs
    rw [List.map_replicate]
    rfl
  rw [e] at hz
  exact hz
theorem IsSl.drewN {w : World} {A : Option Addr} {c : Nat} {l : List R} (h : IsSl w A c l) (n : Nat) : IsSl (w.drewN n) A c l := ⟨h.hle, h.hcap, h.hnil, h.rd.drewN n⟩
theorem IsSl.drew {w : World} {A : Option Addr} {c : Nat} {l : List R} (h : IsSl w A c l) : IsSl w.drew A c l := ⟨h.hle, h.hcap, h.hnil, h.rd.drew⟩
theorem Below.drewR {w w1 : World} (h : Below w.heap.size w w1) : Below w.heap.size w w1.drew := chainN h 1
theorem wrap_pred {n j : Nat} (h : n = j + 1) (hb : n ≤ 1000) : IntKind.i64.wrap ((n : Int) - 1) = (j : Int) := by
  subst h
  rw [show (((j + 1 : Nat) : Int) - 1) = (j : Int) by omega, IntKind.wrap_i64]
  omega
/-- The room that a slice's value names. -/
def lenOf : Value → Nat
  | .slice _ n _ => n
  | _ => 0
theorem mb (w : World) (o : Obj) : Below w.heap.size w (w.alloc o) := (Below.refl _ _).alloc (Nat.le_refl _) _
theorem sl_of_row {w : World} {a : Option Addr} {len cap : Nat} {zs : List Int} (h : IsRow .u8 w a len cap zs) : ∃ l : List R, l.length = len ∧ IsSl w a cap l := by
  rcases h with ⟨rfl, rfl, rfl, rfl⟩ | ⟨x, rfl, h1, h2, h3, h4, h5⟩
  · exact ⟨[], rfl, IsSl.no w⟩
  · have hl : ((zs.take len).map fun n => BitVec.ofNat 8 n.toNat).length = len := by simp; omega
    refine ⟨_, hl, by rw [hl]; exact h1, h2, (fun e => by cases e), fun j hj => ?_⟩
    rw [rs_len, hl] at hj
    obtain ⟨b, o, spot⟩ := x
    have h0 := h4 0 (by omega)
    have hspot : spot = none := by simpa [Addr.add] using World.cell?_spot h0
    subst hspot
    refine ⟨b, o, rfl, World.block_lt_of_cell? _ _ h0, ?_⟩
    have hc := h4 j (by omega)
    have e : (⟨b, o, none⟩ : Addr).add j = ⟨b, o + j, none⟩ := by
      by_cases h : j = 0
      · subst h; rfl
      · simp [Addr.add, h]
    rw [e] at hc
    rw [hc]
    have hm : zs.getD j 0 ∈ zs := by
      rw [List.getD_eq_getElem?_getD, List.getElem?_eq_getElem (by omega)]
      exact List.getElem_mem _
    obtain ⟨k1, k2⟩ : 0 ≤ zs.getD j 0 ∧ zs.getD j 0 ≤ 255 := (Lit.wf_int_iff .u8 _).1 (h5 _ hm)
    rw [rs_get]
    simp only [List.getD_eq_getElem?_getD, List.getElem?_map, List.getElem?_take]
    rw [if_pos hj, List.getElem?_eq_getElem (by omega)]
    rw [List.getD_eq_getElem?_getD, List.getElem?_eq_getElem (by omega)] at k1 k2
    simp only [Option.map_some, Option.getD_some] at k1 k2 ⊢
    show some (Value.int .u8 _) = some (Value.int .u8 _)
    congr 2
    rw [BitVec.toNat_ofNat]
    omega

theorem rd_lit (w : World) (e : TypeId) (vs : List Value) (cs : Array Value) (h : cs.toList = vs) : Rd (w.alloc (.cells cs e)) (some ⟨w.heap.size, 0, none⟩) vs := fun j hj => by
  subst h
  refine ⟨w.heap.size, 0, rfl, by simp, ?_⟩
  rw [World.cell?_alloc_new, Nat.zero_add]
  simp at hj ⊢
theorem ev_step (p : List R) (j : Nat) (h : j < p.length) (x : R) : ev (p.take (j + 1)) x = ev (p.take j) x ^^^ tms (p.getD j 0) (pw x j) := by
  rw [take_snoc p j h, ev_snoc, List.length_take, Nat.min_eq_left (by omega), tms_comm]

end Go.Proofs.Ytcfoclmkhippoaa.G6
