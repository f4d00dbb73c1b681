/- The contract of the landed Encode. -/
import Derived.Test.YtmkmikegddafdaaC9Own2
namespace Go.Proofs.Ytmkmikegddafdaa.C9
open Go.RowKit Go.Shelf Mem Bld
set_option linter.unusedVariables false
set_option linter.unusedSimpArgs false
attribute [local go_sem] Oper.semAt_some

theorem strCells_bytes (l : List Bool) : Lib.strCells (sb l) = Lib.byteCells (cs l) := rfl
theorem pcells_code (m : List Bool) : pcells (prs false false (m ++ [false, false])) = Lib.byteCells (cs (enc m)) := by
  rw [pcells_all, prs_run, strCells_bytes]
  rfl
theorem consists_bits (s : ByteArray) (w : World) (hs : s.size ≤ 1000000) :
    Calls Try.prog 34 #[.string s, .string ⟨#[48, 49]⟩] w fun e w' => e = .returned (.bool (s.data.toList.all bitB)) ∧ w = w' := consists_own s ⟨#[48, 49]⟩ bitB ix_two w hs
theorem consists_cells (s : ByteArray) (w : World) (hs : s.size ≤ 1000000) :
    Calls Try.prog 34 #[.string s, .string ⟨#[48, 49, 63]⟩] w fun e w' => e = .returned (.bool (s.data.toList.all okC)) ∧ w = w' := consists_own s ⟨#[48, 49, 63]⟩ okC ix_three w hs
set_option maxRecDepth 100000 in
set_option maxHeartbeats 4000000 in
theorem encode_good (m : List Bool) (w : World) (hm : m.length ≤ 65536) :
    Calls Try.prog 17 #[.string (sb m)] w fun e w' => e = .returned (.tuple #[.string (sb (enc m)), .int .i64 0]) ∧ Below w.heap.size w w' := by
  have c1 := fun W => consists_bits (sb m) W (by rw [sb_size]; omega)
  rw [show (sb m).data.toList.all bitB = true from Bits.sb m] at c1
  have c2 := fun W => pairs_own (sb m) W
  have hms := sb_size m
  have hst := fun (W : World) h1 h2 => pairs_stops m hm (w.heap.size + 1) w.heap.size W h1 h2
  obtain ⟨S, hS⟩ : ∃ S, sb m = S := ⟨_, rfl⟩
  rw [hS] at c1 c2 hms hst ⊢
  have d0 : decide ((65536 : Int) < (m.length : Int)) = false := decide_eq_false (by omega)
  replace c1 := Lib.hid c1
  replace c2 := Lib.hid c2
  replace hS := Lib.hid hS
  replace hst := Lib.hid hst
  refine (callsIn_wide (n := 3)).1 ?_
  refine callsIn_of_wp_marks Try.func17 rfl trivial ?_ rfl
  simp only [Try.ntmps17, List.size_toArray, List.length_cons, List.length_nil, Nat.reduceAdd, Nat.reduceSub, Array.replicate_succ, Array.replicate_zero, List.push_toArray, List.append_toArray, List.nil_append, List.cons_append]
  gi_wp2_with (first
    | (refine ⟨trivial, ?_⟩; gi_at_call 34; refine (callsIn_wide.2 (c1.out _)).mono ?_; rintro e w' ⟨rfl, rfl⟩)
    | (refine ⟨trivial, ?_⟩; gi_at_call 35; refine (callsIn_wide.2 (c2.out _)).mono ?_; rintro e w' ⟨rfl, rfl⟩))
  have hf0 := Lib.fresh_isBuilder 67 5 w
  have hI0 : Lib.IsBuilder 67 5 w.heap.size w.heap.size (pcells []) ((w.alloc (.cells #[.pointer none, .slice none 0 0] 67)).alloc (.cells #[.string S] 9)) :=
    builder_below hf0 ((Below.refl _ _).alloc (Nat.le_refl _) _)
  have hB0 : Below w.heap.size w ((w.alloc (.cells #[.pointer none, .slice none 0 0] 67)).alloc (.cells #[.string S] 9)) := ((Below.refl _ w).alloc (Nat.le_refl _) _).alloc (by simp) _
  have hc0 : ((w.alloc (.cells #[.pointer none, .slice none 0 0] 67)).alloc (.cells #[.string S] 9)).cell? ⟨w.heap.size + 1, 0, none⟩ = some (.string S) := by
    have h := one_new (w.alloc (.cells #[.pointer none, .slice none 0 0] 67)) (.string S) 9 0 _ rfl
    rw [World.size_alloc] at h
    exact h
  clear hf0
  refine wpIn_rangeFunc_ownF rfl (by omega) (gf := 46) (lb := #[.pointer (some ⟨w.heap.size + 1, 0, none⟩)]) rfl trivial (enters_of Try.func46 (by kernel_rfl) rfl)
    (hst.out _ (by simp) hc0) belowK_t (belowK_b (by simp; omega)) (Below.refl _ _) (fun _ => rfl)
    (fun pre W => Lib.IsBuilder 67 5 w.heap.size w.heap.size (pcells pre) W ∧ Below w.heap.size w W)
    (fun _ _ _ => False)
    (OwnFrom.and (show OwnFrom _ (fun (pre : List (Bool × Bool)) W => Lib.IsBuilder 67 5 w.heap.size w.heap.size (pcells pre) W) from fun pre A B row hs hg hr => builder_grown hs hg fun r e => (hr r e).2) (ownFrom_below (Nat.le_refl _) (by simp; omega)))
    (fun _ _ _ _ _ hs _ _ => hs)
    ⟨hI0, hB0⟩
    (fun x => { tmps := #[.string S, undef, .string ⟨#[]⟩, .int .i64 0, .pointer (some ⟨w.heap.size, 0, none⟩), .string (sb (two x)), .bool false, .string S, .int .i64 m.length, .bool false, .bool false, .string S, .bool true, .bool false, .string S,
      .func (.func 46) #[] #[.pointer (some ⟨w.heap.size + 1, 0, none⟩)], .string (sb (two x)), undef, undef, undef], defers := [] }) ?assign ?body ?done ?stop
  case assign =>
    intro l x W K hK
    gi_wp2
    exact hK
  case body =>
    rintro l pre x W ⟨hI, hB⟩ hlt
    have hl : (pcells pre).length + (sb (two x)).size ≤ 140737488355328 := by rw [pcells_len, sb_two_size]; omega
    have cw := Lib.hid (write_any w.heap.size w.heap.size (pcells pre) (sb (two x)) W hI hl hB.size)
    clear hI0 hB0 hc0
    gi_wp2_with (refine ⟨trivial, ?_⟩; gi_at_call 36; refine (CallsIn.inRound l (callsIn_wide.2 cw.out)).mono ?_; rintro e w' ⟨rfl, hI2, hb2, hk2⟩)
    refine ⟨hk2, hb2, ?_, hB.trans hb2⟩
    rw [pcells_snoc]
    exact hI2
  case done =>
    rintro D ys W hD rfl ⟨hI, hB⟩ hK
    rw [pcells_code] at hI
    have cw := Lib.hid (Try.Builder_String_any_k _ _ _ W (Lib.IsBuilderF.of hI) hB.size)
    have hDw : w.heap.size + 2 ≤ D := by simpa using hD
    clear hI0 hB0 hc0
    gi_wp2_with (refine ⟨trivial, ?_⟩; gi_at_call 37; refine (callsIn_wide.2 cw.out).mono ?_; rintro e w' ⟨rfl, hI2, hb2, hok⟩)
    have hK2 := hok D _ hK (by intro e; injection e with e; omega) (by intro c fz e; cases e)
    refine ⟨by simp, .inl ⟨_, _, rfl, run_takeDeferred hK2, ?_⟩⟩
    refine ⟨_, results_tmp2 rfl _ _ _, rfl, (hB.trans hb2).trans (belowK_b (w := w) (Nat.le_refl _) w' D _ _ (by omega) hK2 rfl rfl)⟩
  case stop =>
    rintro D c pre W _ _ h _
    exact h.elim
set_option maxRecDepth 100000 in
set_option maxHeartbeats 4000000 in
theorem encode_own (s : ByteArray) (w : World) (hs : s.size ≤ 281474976710656) : Calls Try.prog 17 #[.string s] w (Enco s w) := by
  by_cases h1 : 65536 < s.size
  · have hq : EncQ s ⟨#[]⟩ 6 := ⟨fun _ => ⟨rfl, rfl⟩, fun h => absurd h (by omega)⟩
    have d0 : decide ((65536 : Int) < (s.size : Int)) = true := decide_eq_true (by omega)
    have d1 : decide (65536 < s.size) = true := decide_eq_true h1
    replace hq := Lib.hid hq
    clear h1
    go_enter Try.func17, Try.ntmps17
    go_wp2
    go_ret2
    exact ⟨_, _, hq.out, rfl, Below.refl _ _⟩
  · cases hb : s.data.toList.all bitB
    · have hq : EncQ s ⟨#[]⟩ 3 := ⟨fun h => absurd h h1, fun _ => ⟨fun _ => ⟨rfl, rfl⟩, fun h => by unfold Bits at h; rw [hb] at h; cases h⟩⟩
      have c1 := consists_bits s w (by omega)
      rw [hb] at c1
      have d0 : decide ((65536 : Int) < (s.size : Int)) = false := decide_eq_false (by omega)
      have d1 : decide (65536 < s.size) = false := decide_eq_false h1
      replace hq := Lib.hid hq
      replace c1 := Lib.hid c1
      clear h1 hb
      go_enter Try.func17, Try.ntmps17
      go_wp2_with fail
      refine c1.out.mono ?_
      rintro e w1 ⟨rfl, rfl⟩
      go_wp2
      go_ret2
      exact ⟨_, _, hq.out, rfl, Below.refl _ _⟩
    · have hbs : Bits s := hb
      have hq : EncQ s (sb (enc (tb s))) 0 := ⟨fun h => absurd h h1, fun _ => ⟨fun h => absurd hbs h, fun _ => ⟨rfl, rfl⟩⟩⟩
      have hgood := encode_good (tb s) w (by rw [tb_len]; omega)
      rw [sb_tb hbs] at hgood
      refine hgood.mono ?_
      rintro e w1 ⟨rfl, hb1⟩
      exact ⟨_, _, hq, rfl, hb1⟩
end Go.Proofs.Ytmkmikegddafdaa.C9
