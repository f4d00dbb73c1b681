/- The walk of the law ViterbiExtract, under the package's contracts. -/
import Derived.Test.YtmkmikegddafdaaV10Dev
import Derived.Test.YtmkmikegddafdaaC1OwnUnr
import Derived.Test.YtmkmikegddafdaaC9Own4
namespace Go.Proofs.Ytmkmikegddafdaa.V10
open Go.RowKit Mem C9
set_option linter.unusedVariables false
set_option linter.unusedSimpArgs false

/-- What a code word is decoded to. -/
theorem code_dec {c : ByteArray} {l : List Bool} (h : c = sb (enc l)) : eB c = 0 ∧ dS c = sb l ∧ dN c = 0 ∧ dB c = true := by
  have hs : c.size = 2 * l.length + 4 := by rw [h, sb_size, enc_len]
  have hok : c.data.toList.all okC = true := by rw [h]; exact okC_sb _
  have he := eB_ok hok hs
  obtain ⟨q, hq⟩ := good he hs
  have e1 : c.data.toList = cs (enc l) := by rw [h]; rfl
  have := hq.near hs rfl (b := l) (by rw [e1, misL_self, unrL_cs]; decide)
  obtain ⟨rfl, h2, h3⟩ := this
  refine ⟨he, hq.str, ?_, h3⟩
  rw [h2, e1, misL_self]
  rfl
/-- Other cells: a distance, or an unreadable cell. -/
theorem other_dec {c : ByteArray} (h : eB c = 0) (hs : c.size ≤ 131076) (hn : ∀ l, ¬ CodeOf c l) : dN c = 0 → 0 < unrL c.data.toList := by
  intro hz
  obtain ⟨ho, n, hc⟩ := eB_zero h
  obtain ⟨l, hl⟩ := good h hc
  rcases Nat.eq_zero_or_pos (unrL c.data.toList) with hu | hu
  · have hm : misL c.data.toList (enc l) = 0 := by
      have := hl.dist
      omega
    have := misL_zero _ _ (by rw [size_list, enc_len, hl.len]; omega) ho hu hm
    refine absurd (⟨by rw [hl.len]; omega, ?_⟩ : CodeOf c l) (hn l)
    apply ByteArray.ext
    apply Array.toList_inj.1
    exact this
  · exact hu
theorem eB_of_ext {c S : ByteArray} {k : Int} (h : ExtQ c S k) (hs : c.size ≤ 131076) : (k = 0 ∧ ∃ l, c = sb (enc l) ∧ S = sb l) ∨ ((k = 3 ∨ k = 4) ∧ eB c = k) ∨ (k = 11 ∧ eB c = 0 ∧ ∀ l, ¬ CodeOf c l) := by
  cases ho : c.data.toList.all okC
  · obtain ⟨rfl, rfl⟩ := h.1 ho
    exact .inr (.inl ⟨.inl rfl, eB_syn ho⟩)
  · by_cases h1 : c.size % 2 = 1 ∨ c.size < 4
    · obtain ⟨rfl, rfl⟩ := (h.2 ho).1 h1
      exact .inr (.inl ⟨.inr rfl, eB_short ho h1⟩)
    · by_cases hc : ∃ l, CodeOf c l
      · obtain ⟨l, hl⟩ := hc
        obtain ⟨rfl, rfl⟩ := ((h.2 ho).2 (by omega)).1 l hl
        exact .inl ⟨rfl, l, hl.eq, rfl⟩
      · have hc' : ∀ l, ¬ CodeOf c l := fun l h => hc ⟨l, h⟩
        obtain ⟨rfl, rfl⟩ := ((h.2 ho).2 (by omega)).2 hc'
        exact .inr (.inr ⟨rfl, eB_ok (n := (c.size - 4) / 2) ho (by omega), hc'⟩)
theorem dS_err {c : ByteArray} (h : eB c ≠ 0) : dS c = ⟨#[]⟩ ∧ dN c = 0 ∧ dB c = false := by
  unfold dS dN dB
  rw [if_neg h, if_neg h, if_neg h]
  exact ⟨rfl, rfl, rfl⟩
set_option maxRecDepth 100000 in
set_option maxHeartbeats 4000000 in
theorem walk_extract (D : Dev) (c : ByteArray) (w : World) (hc : c.size ≤ 140737488351232) :
    Calls Try.prog 10 #[.string c] w fun e w' => e = .returned (.bool true) ∧ Below w.heap.size w w' := by
  have cA := Lib.hid (fun W => awake_any D W)
  by_cases h1 : c.size ≤ 400
  · have d1 : decide (400 < c.size) = false := decide_eq_false (by omega)
    have d1' : decide ((400 : Int) < (c.size : Int)) = false := decide_eq_false (by omega)
    have c1 := Lib.hid (extract_own c w (by omega))
    have c3 := fun W => C1.unreadable_any c W (by omega)
    have hq0 := fun S k (h : ExtQ c S k) => eB_of_ext h (by omega)
    have hoth := fun h hn => other_dec (c := c) h (by omega) hn
    have c2 := fun S n b k h1 h2 h3 h4 W => D.decode_as (c := c) (S := S) (n := n) (b := b) (k := k) (by omega) h1 h2 h3 h4 W
    replace hq0 := Lib.hid hq0
    replace hoth := Lib.hid hoth
    replace c2 := Lib.hid c2
    clear h1 hc
    go_enter Try.func10, Try.ntmps10
    go_wp2_with fail
    refine c1.out.mono ?_
    rintro e w1 ⟨S, k, hq, rfl, hB⟩
    rcases hq0.out S k hq with ⟨rfl, l, hl, rfl⟩ | ⟨hk, he⟩ | ⟨rfl, he, hn⟩
    · obtain ⟨g1, g2, g3, g4⟩ := code_dec hl
      have c4 := Lib.hid (fun W => c2.out _ _ _ _ g2 g3 g4 g1 W)
      obtain ⟨S, hS⟩ : ∃ S, sb l = S := ⟨_, rfl⟩
      rw [hS] at c4 ⊢
      clear hq c2 hq0 hoth hS c3 hl g1 g2 g3 g4 c1
      go_wp2_with fail
      refine (c4.out _).mono ?_
      rintro e w2 ⟨rfl, hb⟩
      replace hB := chain hB hb
      clear hb c4
      go_wp2_with (go_at_call 11; refine (cA.out _).mono ?_; rintro e w3 ⟨rfl, hb⟩)
      go_ret
      exact ⟨rfl, chain hB hb⟩
    · obtain ⟨g2, g3, g4⟩ := dS_err (c := c) (by rcases hk with rfl | rfl <;> rw [he] <;> decide)
      have c4 := Lib.hid (fun W => c2.out _ _ _ _ g2 g3 g4 he W)
      clear hq c2 hq0 hoth c3 g2 g3 g4 he c1
      rcases hk with rfl | rfl
      all_goals
        go_wp2_with fail
        refine (c4.out _).mono ?_
        rintro e w2 ⟨rfl, hb⟩
        replace hB := chain hB hb
        clear hb c4
        go_wp2_with (go_at_call 11; refine (cA.out _).mono ?_; rintro e w3 ⟨rfl, hb⟩)
        go_ret
        exact ⟨rfl, chain hB hb⟩
    · have c4 := Lib.hid (fun W => c2.out _ _ _ _ rfl rfl rfl he W)
      have hz := hoth.out he hn
      have hun : C1.unr c.data.toList = unrL c.data.toList := rfl
      rw [hun] at c3
      have hn0 : 0 ≤ dN c := by
        obtain ⟨ho, n, hs⟩ := eB_zero he
        obtain ⟨l, hl⟩ := good he hs
        rw [hl.dist]
        omega
      obtain ⟨n, hn'⟩ : ∃ n, dN c = n := ⟨_, rfl⟩
      obtain ⟨u, hu'⟩ : ∃ n, unrL c.data.toList = n := ⟨_, rfl⟩
      obtain ⟨S2, hS2⟩ : ∃ n, dS c = n := ⟨_, rfl⟩
      obtain ⟨b2, hb2⟩ : ∃ n, dB c = n := ⟨_, rfl⟩
      rw [hn'] at c4 hz hn0
      rw [hS2, hb2] at c4
      rw [hu'] at hz c3
      replace c4 := Lib.hid c4
      replace c3 := Lib.hid c3
      clear hq c2 hq0 hoth he hn hun hn' hu' hS2 hb2 c1
      by_cases h0 : n = 0
      · have hup := hz h0
        have d3 : decide ((0 : Int) < (u : Int)) = true := decide_eq_true (by omega)
        have d4 : decide (0 < u) = true := decide_eq_true hup
        subst h0
        clear hz hn0
        go_wp2_with fail
        refine (c4.out.out _).mono ?_
        rintro e w2 ⟨rfl, hb⟩
        replace hB := chain hB hb
        clear hb c4
        go_wp2_with (first
          | (go_at_call 11; refine (cA.out _).mono ?_; rintro e w3 ⟨rfl, hb⟩)
          | (go_at_call 23; refine (c3.out _).mono ?_; rintro e w3 ⟨rfl, rfl⟩))
        go_ret
        exact ⟨rfl, chain hB hb⟩
      · have d3 : decide ((0 : Int) < n) = true := decide_eq_true (by omega)
        clear hz hn0 h0
        go_wp2_with fail
        refine (c4.out.out _).mono ?_
        rintro e w2 ⟨rfl, hb⟩
        replace hB := chain hB hb
        clear hb c4
        go_wp2_with (first
          | (go_at_call 11; refine (cA.out _).mono ?_; rintro e w3 ⟨rfl, hb⟩)
          | (go_at_call 23; refine (c3.out _).mono ?_; rintro e w3 ⟨rfl, rfl⟩))
        go_ret
        exact ⟨rfl, chain hB hb⟩
  · have d1 : decide (400 < c.size) = true := decide_eq_true (by omega)
    have d1' : decide ((400 : Int) < (c.size : Int)) = true := decide_eq_true (by omega)
    clear h1 hc
    go_enter Try.func10, Try.ntmps10
    go_wp2_with fail
    refine (cA.out _).mono ?_
    rintro e w1 ⟨rfl, hB⟩
    go_wp2
    go_ret
    exact ⟨rfl, hB⟩
end Go.Proofs.Ytmkmikegddafdaa.V10
