/- The walk of the law SyncmarkExtension, under the package's contracts. -/
import Derived.Test.YtpekdmplphpheaaM12Dev
namespace Go.Proofs.Ytpekdmplphpheaa.M12
open Go.RowKit Mem
set_option linter.unusedVariables false
set_option linter.unusedSimpArgs false

theorem app_list (a b : ByteArray) : (a ++ b).data.toList = a.data.toList ++ b.data.toList := by
  rw [ByteArray.data_append, Array.toList_append]
/-- What Find answers in a strip and in its extension. -/
theorem ext_facts (l m : List UInt8) (a : Int) : ∃ (i k : Int) (o j : Bool), fdI l a = i ∧ fdB l a = o ∧ fdI (l ++ m) a = k ∧ fdB (l ++ m) a = j ∧
    ((o = true ∧ j = true ∧ k = i) ∨ (o = false ∧ j = false) ∨ (o = false ∧ j = true ∧ (l.length : Int) < k + 16 ∧ 0 ≤ k ∧ k ≤ (l ++ m).length)) := by
  rcases h : fd l a with _ | p
  · obtain ⟨e1, e2⟩ := fdIB_none h
    rcases h' : fd (l ++ m) a with _ | q
    · obtain ⟨e3, e4⟩ := fdIB_none h'
      exact ⟨_, _, _, _, e1, e2, e3, e4, .inr (.inl ⟨rfl, rfl⟩)⟩
    · obtain ⟨e3, e4⟩ := fdIB_some h'
      have := fd_ext_none h h'
      have := (fd_some.1 h').2.1
      exact ⟨_, _, _, _, e1, e2, e3, e4, .inr (.inr ⟨rfl, rfl, by omega, by omega, by omega⟩)⟩
  · obtain ⟨e1, e2⟩ := fdIB_some h
    obtain ⟨e3, e4⟩ := fdIB_some (fd_ext_some m h)
    exact ⟨_, _, _, _, e1, e2, e3, e4, .inl ⟨rfl, rfl, rfl⟩⟩
set_option maxRecDepth 100000 in
set_option maxHeartbeats 4000000 in
theorem walk_extension (D : Dev) (c m : ByteArray) (a : Int) (w : World) (hc : c.size ≤ 140737488351232) (hm : m.size ≤ 140737488351232) (wr : (Lit.int .u8 a).wf = true) :
    Calls Try.prog 9 #[.string c, .string m, .int .u8 a] w fun e w' => e = .returned (.bool true) ∧ Below w.heap.size w w' := by
  have cA := Lib.hid (fun W => alive_any D W)
  obtain ⟨x, rfl⟩ := u8_of wr
  clear wr
  by_cases h1 : c.size ≤ 500
  · have d1 : decide ((500 : Int) < (c.size : Int)) = false := decide_eq_false (by omega)
    have d1' : decide (500 < c.size) = false := decide_eq_false (by omega)
    by_cases h2 : m.size ≤ 500
    · have d2 : decide ((500 : Int) < (m.size : Int)) = false := decide_eq_false (by omega)
      have d2' : decide (500 < m.size) = false := decide_eq_false (by omega)
      have hs : (c ++ m).size = c.size + m.size := ByteArray.size_append
      have hx := x.toNat_lt
      obtain ⟨i, k, o, j, e1, e2, e3, e4, hf⟩ := ext_facts c.data.toList m.data.toList (x.toNat : Int)
      rw [← app_list] at e3 e4 hf
      have x1 : (-9223372036854775808 : Int) ≤ (x.toNat : Int) := by omega
      have x2 : (x.toNat : Int) ≤ 9223372036854775807 := by omega
      have c1 := Lib.hid (fun W => D.find_as hc x1 x2 e1 e2 W)
      have c2 := Lib.hid (fun W => D.find_as (c := c ++ m) (by omega) x1 x2 e3 e4 W)
      rw [size_list, size_list, hs] at hf
      have q1 : (c.size : Int) ≤ 500 := by omega
      have q2 : (m.size : Int) ≤ 500 := by omega
      clear e1 e2 e3 e4 hc hm hs
      rcases hf with ⟨rfl, rfl, rfl⟩ | ⟨rfl, rfl⟩ | ⟨rfl, rfl, g1, g2, g3⟩
      · go_enter Try.func9, Try.ntmps9
        go_wp2_with fail
        refine (cA.out _).mono ?_
        rintro e w1 ⟨rfl, hB⟩
        go_wp2_with fail
        refine (c1.out _).mono ?_
        rintro e w2 ⟨rfl, hb⟩
        replace hB := chain hB hb
        clear hb
        go_wp2_with (go_at_call 19; refine (c2.out _).mono ?_; rintro e w5 ⟨rfl, hb⟩)
        go_ret
        exact ⟨rfl, chain hB hb⟩
      · go_enter Try.func9, Try.ntmps9
        go_wp2_with fail
        refine (cA.out _).mono ?_
        rintro e w1 ⟨rfl, hB⟩
        go_wp2_with fail
        refine (c1.out _).mono ?_
        rintro e w2 ⟨rfl, hb⟩
        replace hB := chain hB hb
        clear hb
        go_wp2_with (go_at_call 19; refine (c2.out _).mono ?_; rintro e w5 ⟨rfl, hb⟩)
        go_ret
        exact ⟨rfl, chain hB hb⟩
      · have d3 : decide ((c.size : Int) < k + 16) = true := decide_eq_true g1
        have k1 : k ≤ 1000 := by omega
        clear g1 g3
        go_enter Try.func9, Try.ntmps9
        go_wp2_with fail
        refine (cA.out _).mono ?_
        rintro e w1 ⟨rfl, hB⟩
        go_wp2_with fail
        refine (c1.out _).mono ?_
        rintro e w2 ⟨rfl, hb⟩
        replace hB := chain hB hb
        clear hb
        go_wp2_with (go_at_call 19; refine (c2.out _).mono ?_; rintro e w5 ⟨rfl, hb⟩)
        go_ret
        exact ⟨rfl, chain hB hb⟩
    · have d2 : decide ((500 : Int) < (m.size : Int)) = true := decide_eq_true (by omega)
      have d2' : decide (500 < m.size) = true := decide_eq_true (by omega)
      clear h1 h2 hc hm
      go_enter Try.func9, Try.ntmps9
      go_wp2_with fail
      refine (cA.out _).mono ?_
      rintro e w1 ⟨rfl, hB⟩
      go_wp2
      go_ret
      exact ⟨rfl, hB⟩
  · have d1 : decide ((500 : Int) < (c.size : Int)) = true := decide_eq_true (by omega)
    have d1' : decide (500 < c.size) = true := decide_eq_true (by omega)
    clear h1 hc hm
    go_enter Try.func9, Try.ntmps9
    go_wp2_with fail
    refine (cA.out _).mono ?_
    rintro e w1 ⟨rfl, hB⟩
    go_wp2
    go_ret
    exact ⟨rfl, hB⟩
end Go.Proofs.Ytpekdmplphpheaa.M12
