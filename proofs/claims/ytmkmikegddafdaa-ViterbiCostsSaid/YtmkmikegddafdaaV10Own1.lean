/- The contracts of the landed functions of layer 10: check, costVia, lesser. -/
import Derived.Test.YtmkmikegddafdaaV10Cho
import Derived.Test.YtmkmikegddafdaaC1OwnDist
import Derived.Test.YtmkmikegddafdaaC9Own1
import Derived.Laws.Rows
namespace Go.Proofs.Ytmkmikegddafdaa.V10
open Go.RowKit Mem C9
set_option linter.unusedVariables false
set_option linter.unusedSimpArgs false

theorem ochk (c : ByteArray) : C1.chk c.data.toList = if c.data.toList.all okC = true then 0 else 3 := rfl
set_option maxRecDepth 100000 in
set_option maxHeartbeats 4000000 in
theorem check_own (c : ByteArray) (w : World) (hc : c.size ≤ 1000000) : Calls Try.prog 24 #[.string c] w fun e w' => e = .returned (.int .i64 (eB c)) ∧ w = w' := by
  have c1 := C1.check_any c w hc
  rw [ochk] at c1
  cases ho : c.data.toList.all okC
  · have he := eB_syn ho
    rw [ho, if_neg (by decide)] at c1
    replace c1 := Lib.hid c1
    replace he := Lib.hid he
    clear ho
    go_enter Try.func24, Try.ntmps24
    go_wp2_with fail
    refine c1.out.mono ?_
    rintro e w1 ⟨rfl, rfl⟩
    go_wp2
    go_ret
    exact ⟨(by rw [he.out]; rfl), rfl⟩
  · rw [ho, if_pos rfl] at c1
    replace c1 := Lib.hid c1
    by_cases hodd : c.size % 2 = 1
    · have he := Lib.hid (eB_short ho (.inl hodd))
      have q1 : (c.size : Int) % 2 = 1 := by omega
      clear ho
      go_enter Try.func24, Try.ntmps24
      go_wp2_with fail
      refine c1.out.mono ?_
      rintro e w1 ⟨rfl, rfl⟩
      go_wp2
      go_ret
      exact ⟨(by rw [he.out]; rfl), rfl⟩
    · have q1 : (c.size : Int) % 2 = 0 := by omega
      have q1' : c.size % 2 = 0 := by omega
      obtain ⟨m, hm⟩ : ∃ m, c.size / 2 = m := ⟨_, rfl⟩
      have q2 : (c.size : Int) / 2 = (m : Int) := by omega
      by_cases hsh : c.size < 4
      · have he := Lib.hid (eB_short ho (.inr hsh))
        have d1 : decide (m < 2) = true := decide_eq_true (by omega)
        have d2 : decide ((m : Int) < 2) = true := decide_eq_true (by omega)
        clear ho hodd hsh
        go_enter Try.func24, Try.ntmps24
        go_wp2_with fail
        refine c1.out.mono ?_
        rintro e w1 ⟨rfl, rfl⟩
        go_wp2
        go_ret
        exact ⟨(by rw [he.out]; rfl), rfl⟩
      · have he := Lib.hid (eB_ok (n := (c.size - 4) / 2) ho (by omega))
        have d1 : decide (m < 2) = false := decide_eq_false (by omega)
        have d2 : decide ((m : Int) < 2) = false := decide_eq_false (by omega)
        clear ho hodd hsh
        go_enter Try.func24, Try.ntmps24
        go_wp2_with fail
        refine c1.out.mono ?_
        rintro e w1 ⟨rfl, rfl⟩
        go_wp2
        go_ret
        exact ⟨(by rw [he.out]; rfl), rfl⟩
theorem next_at (s1 s2 u : Bool) (w : World) : Calls Try.prog 21 #[.int .i64 (stN s1 s2 : Int), .int .i64 (bn u : Int)] w fun e w' =>
    e = .returned (.tuple #[.int .i64 (stN u s1 : Int), .string (sb [u ^^ s1 ^^ s2, u ^^ s2])]) ∧ Below w.heap.size w w' := by
  have h := next_own (stN s1 s2 : Int) (bn u : Int) w (by cases s1 <;> cases s2 <;> decide) (by cases s1 <;> cases s2 <;> decide) (by cases u <;> decide) (by cases u <;> decide)
  unfold Nxt at h
  rw [show oneB (stN s1 s2 : Int) = s1 by cases s1 <;> cases s2 <;> decide, show twoB (stN s1 s2 : Int) = s2 by cases s1 <;> cases s2 <;> decide, show twoB (bn u : Int) = u by cases u <;> decide] at h
  exact h
theorem diff_mis (x : UInt8) (a : Bool) : C1.diffB (x, cell a) = (x != 63 && x != cell a) := by
  unfold C1.diffB
  have e1 : (cell a != 63) = true := by cases a <;> rfl
  simp only [e1, Bool.and_true]
  rw [Bool.and_comm]
theorem dis_two (x y : UInt8) (a b : Bool) : C1.dis [x, y] [cell a, cell b] = mis x a + mis y b := by
  unfold C1.dis mis
  simp only [List.zip_cons_cons, List.zip_nil_right, List.filter_cons, diff_mis, List.filter_nil]
  split <;> split <;> rfl
theorem dist_two (x y : UInt8) (a b : Bool) (w : World) (hx : okC x = true) (hy : okC y = true) :
    Calls Try.prog 18 #[.string ⟨#[x, y]⟩, .string (sb [a, b])] w fun e w' => e = .returned (.tuple #[.int .i64 ((mis x a + mis y b : Nat) : Int), .int .i64 0]) ∧ ∃ n, w' = w.drewN n := by
  have h := C1.distance_any ⟨#[x, y]⟩ (sb [a, b]) w (by show 2 ≤ _; decide) (by show 2 ≤ _; decide)
  have h1 : C1.chk (⟨#[x, y]⟩ : ByteArray).data.toList = 0 := by
    rw [ochk]
    exact if_pos (by show (okC x && (okC y && true)) = true; rw [hx, hy]; rfl)
  have h2 : C1.chk (sb [a, b]).data.toList = 0 := by
    rw [ochk]
    exact if_pos (okC_sb [a, b])
  have h3 : C1.disN (⟨#[x, y]⟩ : ByteArray).data.toList (sb [a, b]).data.toList = ((mis x a + mis y b : Nat) : Int) := by
    unfold C1.disN
    rw [if_pos ⟨h1, h2, rfl⟩]
    show ((C1.dis [x, y] [cell a, cell b] : Nat) : Int) = _
    rw [dis_two]
  have h4 : C1.disE (⟨#[x, y]⟩ : ByteArray).data.toList (sb [a, b]).data.toList = 0 := C1.disE_eq h1 h2 rfl
  rw [h3, h4] at h
  exact h
/-- Four numbers as cells. -/
def vec (f : Nat → Int) : List Value := [.int .i64 (f 0), .int .i64 (f 1), .int .i64 (f 2), .int .i64 (f 3)]
theorem vec_at (f : Nat → Int) (s : Nat) (hs : s < 4) : (vec f)[s]? = some (.int .i64 (f s)) := by
  have : s = 0 ∨ s = 1 ∨ s = 2 ∨ s = 3 := by omega
  rcases this with rfl | rfl | rfl | rfl <;> rfl
theorem vec_arr (f : Nat → Int) (s : Nat) (hs : s < 4) : (#[.int .i64 (f 0), .int .i64 (f 1), .int .i64 (f 2), .int .i64 (f 3)] : Array Value)[s]? = some (.int .i64 (f s)) := by
  have : s = 0 ∨ s = 1 ∨ s = 2 ∨ s = 3 := by omega
  rcases this with rfl | rfl | rfl | rfl <;> rfl
set_option maxRecDepth 100000 in
set_option maxHeartbeats 4000000 in
theorem cvia_own (E : Nat → Int) (x y : UInt8) (s1 s2 u : Bool) (w : World) (hx : okC x = true) (hy : okC y = true) (hE : ∀ j, j < 4 → -1 ≤ E j ∧ E j ≤ 1000000) :
    Calls Try.prog 41 #[.agg #[.int .i64 (E 0), .int .i64 (E 1), .int .i64 (E 2), .int .i64 (E 3)], .string ⟨#[x, y]⟩, .int .i64 (stN s1 s2 : Int), .int .i64 (bn u : Int)] w fun e w' =>
      e = .returned (.int .i64 (viaN (mm (x, y) s1 s2 u) (E (stN u s1)))) ∧ Below w.heap.size w w' := by
  have cN := fun W => next_at s1 s2 u W
  have cD := fun W => dist_two x y (u ^^ s1 ^^ s2) (u ^^ s2) W hx hy
  have hm : mis x (u ^^ s1 ^^ s2) + mis y (u ^^ s2) = mm (x, y) s1 s2 u := rfl
  rw [hm] at cD
  have hS4 : stN u s1 < 4 := by cases u <;> cases s1 <;> decide
  have hml := mm_le (x, y) s1 s2 u
  obtain ⟨O, hO⟩ : ∃ O, sb [u ^^ s1 ^^ s2, u ^^ s2] = O := ⟨_, rfl⟩
  obtain ⟨I, hI⟩ : ∃ O : ByteArray, (⟨#[x, y]⟩ : ByteArray) = O := ⟨_, rfl⟩
  obtain ⟨S, hS⟩ : ∃ S, stN u s1 = S := ⟨_, rfl⟩
  obtain ⟨s, hs⟩ : ∃ S, stN s1 s2 = S := ⟨_, rfl⟩
  obtain ⟨b, hb⟩ : ∃ S, bn u = S := ⟨_, rfl⟩
  obtain ⟨m, hmm⟩ : ∃ S, mm (x, y) s1 s2 u = S := ⟨_, rfl⟩
  rw [hO, hS, hs, hb] at cN
  rw [hO, hI, hmm] at cD
  rw [hS] at hS4 ⊢
  rw [hmm] at hml ⊢
  rw [hI, hs, hb]
  have hc0 : (w.alloc (.cells #[.int .i64 (E 0), .int .i64 (E 1), .int .i64 (E 2), .int .i64 (E 3)] 27)).cell? ⟨w.heap.size, S, none⟩ = some (.int .i64 (E S)) := by
    rw [World.cell?_alloc_new]
    exact vec_arr E S hS4
  have hES := hE S hS4
  obtain ⟨a, ha⟩ : ∃ a, E S = a := ⟨_, rfl⟩
  rw [ha] at hc0 hES ⊢
  have hB0 : Below w.heap.size w (w.alloc (.cells #[.int .i64 (E 0), .int .i64 (E 1), .int .i64 (E 2), .int .i64 (E 3)] 27)) := (Below.refl _ w).alloc (Nat.le_refl _) _
  have hlt0 : w.heap.size < (w.alloc (.cells #[.int .i64 (E 0), .int .i64 (E 1), .int .i64 (E 2), .int .i64 (E 3)] 27)).heap.size := by simp
  have i0 : (0 : Int) ≤ (S : Int) := by omega
  have i1 : (S : Int) < 4 := by omega
  replace cN := Lib.hid cN
  replace cD := Lib.hid cD
  clear hm hO hI hS hs hb hmm ha hE hx hy
  by_cases hn : a = -1
  · have hv := Lib.hid (show viaN m a = -1 by unfold viaN; rw [if_pos hn])
    have dn : ((a : Int) == -1) = true := beq_iff_eq.2 hn
    clear hn
    go_enter Try.func41, Try.ntmps41
    go_wp2_with fail
    refine (cN.out _).mono ?_
    rintro e w1 ⟨rfl, hb1⟩
    have hc1 := (hb1.cell (p := ⟨w.heap.size, S, none⟩) hlt0).trans hc0
    have hB1 := chain hB0 hb1
    clear hc0 hB0 hlt0 hb1
    go_wp2
    go_ret
    exact ⟨(by rw [hv.out]; rfl), hB1⟩
  · have hv := Lib.hid (show viaN m a = (m : Int) + a by unfold viaN; rw [if_neg hn])
    have dn : ((a : Int) == -1) = false := beq_eq_false_iff_ne.2 hn
    clear hn
    go_enter Try.func41, Try.ntmps41
    go_wp2_with fail
    refine (cN.out _).mono ?_
    rintro e w1 ⟨rfl, hb1⟩
    have hc1 := (hb1.cell (p := ⟨w.heap.size, S, none⟩) hlt0).trans hc0
    have hB1 := chain hB0 hb1
    clear hc0 hB0 hlt0 hb1
    go_wp2_with fail
    refine (cD.out _).mono ?_
    rintro e w2 ⟨rfl, N, rfl⟩
    go_wp2
    go_ret
    exact ⟨(by rw [hv.out]; rfl), chainN hB1 N⟩
set_option maxRecDepth 100000 in
set_option maxHeartbeats 4000000 in
theorem lesser_own (a b : Int) (w : World) : Calls Try.prog 40 #[.int .i64 a, .int .i64 b] w fun e w' => e = .returned (.tuple #[.int .i64 (lsN a b), .int .u8 (chN a b : Int)]) ∧ w = w' := by
  unfold lsN chN
  by_cases h1 : a = b
  · have d1 : ((a : Int) == b) = true := beq_iff_eq.2 h1
    rw [if_pos h1, if_pos h1]
    clear h1
    go_enter Try.func40, Try.ntmps40
    go_wp2
    go_ret2
    exact ⟨rfl, rfl⟩
  · have d1 : ((a : Int) == b) = false := beq_eq_false_iff_ne.2 h1
    rw [if_neg h1, if_neg h1]
    by_cases h2 : b = -1
    · have d2 : ((b : Int) == -1) = true := beq_iff_eq.2 h2
      rw [if_pos (.inl h2), if_pos (.inl h2)]
      clear h1 h2
      go_enter Try.func40, Try.ntmps40
      go_wp2
      go_ret2
      exact ⟨rfl, rfl⟩
    · have d2 : ((b : Int) == -1) = false := beq_eq_false_iff_ne.2 h2
      by_cases h3 : a < b
      · have d3 : decide (a < b) = true := decide_eq_true h3
        rw [if_pos (.inr h3), if_pos (.inr h3)]
        clear h1 h2
        go_enter Try.func40, Try.ntmps40
        go_wp2
        go_ret2
        exact ⟨rfl, rfl⟩
      · have d3 : decide (a < b) = false := decide_eq_false h3
        rw [if_neg (fun h => h.elim h2 h3), if_neg (fun h => h.elim h2 h3)]
        clear h1 h2
        go_enter Try.func40, Try.ntmps40
        go_wp2
        go_ret2
        exact ⟨rfl, rfl⟩
end Go.Proofs.Ytmkmikegddafdaa.V10
