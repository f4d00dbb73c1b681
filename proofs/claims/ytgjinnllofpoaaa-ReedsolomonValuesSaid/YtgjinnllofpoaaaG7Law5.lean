/- The walk of the law ReedsolomonValues. -/
import Derived.Test.YtgjinnllofpoaaaG7Law1
namespace Go.Proofs.Ytgjinnllofpoaaa.G7
open Go.Proofs.Ytgjinnllofpoaaa.G5
open Go.Proofs.Ytgjinnllofpoaaa.G6 (ev rs rs_len rs_get IsSl conv_sl mb)
open Go.RowKit Mem
set_option linter.unusedVariables false
set_option linter.unusedSimpArgs false

/-- An answer of a slice and an error's number, of which Q holds. -/
def Ans (Q : List R → Int → Prop) (w : World) (e : Ending) (w' : World) : Prop := ∃ (A : Option Addr) (n c : Nat) (l : List R) (k : Int), Q l k ∧ l.length = n ∧ e = .returned (.tuple #[.slice A n c, .int .i64 k]) ∧ IsSl w' A c l ∧ Below w.heap.size w w'
def AnsS (Q : ByteArray → Int → Prop) (w : World) (e : Ending) (w' : World) : Prop := ∃ (S : ByteArray) (k : Int), Q S k ∧ e = .returned (.tuple #[.string S, .int .i64 k]) ∧ Below w.heap.size w w'
theorem NoSl.ans {k : Int} {w w' : World} {e : Ending} {Q : List R → Int → Prop} (h : NoSl k w e w') (hQ : Q [] k) : Ans Q w e w' := by
  obtain ⟨h1, h2⟩ := h
  subst h2
  exact ⟨none, 0, 0, [], k, hQ, rfl, h1, IsSl.no _, Below.refl _ _⟩
def InP (p : Int) : Prop := 1 ≤ p ∧ p ≤ 64
def QG (p : Int) (l : List R) (k : Int) : Prop := (InP p → l = gen p.toNat ∧ k = 0) ∧ (¬ InP p → l = [] ∧ k = 2)
def QE (s : ByteArray) (p : Int) (S : ByteArray) (k : Int) : Prop :=
  (InP p → (s.size + p.toNat ≤ 255 → k = 0 ∧ ∃ t, IsEnc p.toNat (el s) t ∧ S = str (el s ++ t)) ∧ (¬ s.size + p.toNat ≤ 255 → S = ⟨#[]⟩ ∧ k = 6)) ∧ (¬ InP p → S = ⟨#[]⟩ ∧ k = 2)
def QS (s : ByteArray) (p : Int) (l : List R) (k : Int) : Prop :=
  (InP p → (s.size < p.toNat → l = [] ∧ k = 4) ∧ (¬ s.size < p.toNat → (255 < s.size → l = [] ∧ k = 6) ∧ (¬ 255 < s.size → l = syn p.toNat (el s) ∧ k = 0))) ∧ (¬ InP p → l = [] ∧ k = 2)
theorem QG.only {p : Int} {l l' : List R} {k k' : Int} (h : QG p l k) (h' : QG p l' k') : l = l' ∧ k = k' := by
  by_cases hp : InP p
  · obtain ⟨rfl, rfl⟩ := h.1 hp
    obtain ⟨rfl, rfl⟩ := h'.1 hp
    exact ⟨rfl, rfl⟩
  · obtain ⟨rfl, rfl⟩ := h.2 hp
    obtain ⟨rfl, rfl⟩ := h'.2 hp
    exact ⟨rfl, rfl⟩
theorem QE.only {s : ByteArray} {p : Int} {S S' : ByteArray} {k k' : Int} (h : QE s p S k) (h' : QE s p S' k') : S = S' ∧ k = k' := by
  by_cases hp : InP p
  · by_cases hl : s.size + p.toNat ≤ 255
    · obtain ⟨rfl, t, ht, rfl⟩ := (h.1 hp).1 hl
      obtain ⟨rfl, t', ht', rfl⟩ := (h'.1 hp).1 hl
      rw [ht.only ht' (by rw [el_len]; exact hl)]
      exact ⟨rfl, rfl⟩
    · obtain ⟨rfl, rfl⟩ := (h.1 hp).2 hl
      obtain ⟨rfl, rfl⟩ := (h'.1 hp).2 hl
      exact ⟨rfl, rfl⟩
  · obtain ⟨rfl, rfl⟩ := h.2 hp
    obtain ⟨rfl, rfl⟩ := h'.2 hp
    exact ⟨rfl, rfl⟩
theorem QS.only {s : ByteArray} {p : Int} {l l' : List R} {k k' : Int} (h : QS s p l k) (h' : QS s p l' k') : l = l' ∧ k = k' := by
  by_cases hp : InP p
  · by_cases hs : s.size < p.toNat
    · obtain ⟨rfl, rfl⟩ := (h.1 hp).1 hs
      obtain ⟨rfl, rfl⟩ := (h'.1 hp).1 hs
      exact ⟨rfl, rfl⟩
    · by_cases hl : 255 < s.size
      · obtain ⟨rfl, rfl⟩ := ((h.1 hp).2 hs).1 hl
        obtain ⟨rfl, rfl⟩ := ((h'.1 hp).2 hs).1 hl
        exact ⟨rfl, rfl⟩
      · obtain ⟨rfl, rfl⟩ := ((h.1 hp).2 hs).2 hl
        obtain ⟨rfl, rfl⟩ := ((h'.1 hp).2 hs).2 hl
        exact ⟨rfl, rfl⟩
  · obtain ⟨rfl, rfl⟩ := h.2 hp
    obtain ⟨rfl, rfl⟩ := h'.2 hp
    exact ⟨rfl, rfl⟩
theorem out_of {p : Int} (h : ¬ InP p) : p < 1 ∨ 64 < p := by unfold InP at h; omega
theorem gen_all {f : Nat} (hno : ∀ (p : Int) (w : World), p < 1 ∨ 64 < p → Calls Try.prog f #[.int .i64 p] w (NoSl 2 w)) (hyes : ∀ (p : Nat) (w : World), 1 ≤ p → p ≤ 64 → Calls Try.prog f #[.int .i64 (p : Int)] w (Gend p w)) (p : Int) (w : World) :
    Calls Try.prog f #[.int .i64 p] w (Ans (QG p) w) := by
  by_cases hp : InP p
  · have hp' := hp
    obtain ⟨P, rfl⟩ : ∃ P : Nat, p = (P : Int) := ⟨p.toNat, by have := hp.1; omega⟩
    refine (hyes P w (by have := hp.1; omega) (by have := hp.2; omega)).mono ?_
    rintro e w' ⟨A, c, rfl, hs, hb⟩
    exact ⟨A, P + 1, c, gen P, 0, ⟨fun _ => ⟨by rw [Int.toNat_natCast], rfl⟩, fun h => absurd hp' h⟩, gen_len P, rfl, hs, hb⟩
  · exact (hno p w (out_of hp)).mono fun e w' h => h.ans ⟨fun h => absurd h hp, fun _ => ⟨rfl, rfl⟩⟩
theorem enc_all {f : Nat} (hno : ∀ (s : ByteArray) (p : Int) (w : World), p < 1 ∨ 64 < p → Calls Try.prog f #[.string s, .int .i64 p] w (NoStr 2 w))
    (hlong : ∀ (s : ByteArray) (p : Nat) (w : World), 1 ≤ p → p ≤ 64 → s.size ≤ 9223372036854775000 → 255 < s.size + p → Calls Try.prog f #[.string s, .int .i64 (p : Int)] w (NoStr 6 w))
    (hyes : ∀ (s : ByteArray) (p : Nat) (w : World), 1 ≤ p → p ≤ 64 → s.size + p ≤ 255 → Calls Try.prog f #[.string s, .int .i64 (p : Int)] w (Encd p (el s) w)) (s : ByteArray) (p : Int) (w : World) (hs : s.size ≤ 140737488351232) :
    Calls Try.prog f #[.string s, .int .i64 p] w (AnsS (QE s p) w) := by
  by_cases hp : InP p
  · have hp' := hp
    obtain ⟨P, rfl⟩ : ∃ P : Nat, p = (P : Int) := ⟨p.toNat, by have := hp.1; omega⟩
    have h1 : 1 ≤ P := by have := hp.1; omega
    have h2 : P ≤ 64 := by have := hp.2; omega
    by_cases hl : s.size + P ≤ 255
    · refine (hyes s P w h1 h2 hl).mono ?_
      rintro e w' ⟨t, ht, rfl, hb⟩
      exact ⟨_, 0, ⟨fun _ => ⟨fun _ => ⟨rfl, t, by rw [Int.toNat_natCast]; exact ht, rfl⟩, fun h => absurd hl (by rwa [Int.toNat_natCast] at h)⟩, fun h => absurd hp' h⟩, rfl, hb⟩
    · refine (hlong s P w h1 h2 (by omega) (by omega)).mono ?_
      rintro e w' ⟨rfl, hb⟩
      exact ⟨_, 6, ⟨fun _ => ⟨fun h => absurd (by rwa [Int.toNat_natCast] at h) hl, fun _ => ⟨rfl, rfl⟩⟩, fun h => absurd hp' h⟩, rfl, hb⟩
  · refine (hno s p w (out_of hp)).mono ?_
    rintro e w' ⟨rfl, hb⟩
    exact ⟨_, 2, ⟨fun h => absurd h hp, fun _ => ⟨rfl, rfl⟩⟩, rfl, hb⟩
theorem syn_all {f : Nat} (hno : ∀ (s : ByteArray) (p : Int) (w : World), p < 1 ∨ 64 < p → Calls Try.prog f #[.string s, .int .i64 p] w (NoSl 2 w))
    (hshort : ∀ (s : ByteArray) (p : Nat) (w : World), 1 ≤ p → p ≤ 64 → s.size < p → Calls Try.prog f #[.string s, .int .i64 (p : Int)] w (NoSl 4 w))
    (hlong : ∀ (s : ByteArray) (p : Nat) (w : World), 1 ≤ p → p ≤ 64 → 255 < s.size → Calls Try.prog f #[.string s, .int .i64 (p : Int)] w (NoSl 6 w))
    (hyes : ∀ (s : ByteArray) (p : Nat) (w : World), 1 ≤ p → p ≤ 64 → p ≤ s.size → s.size ≤ 255 → Calls Try.prog f #[.string s, .int .i64 (p : Int)] w (Synd p (el s) w)) (s : ByteArray) (p : Int) (w : World) :
    Calls Try.prog f #[.string s, .int .i64 p] w (Ans (QS s p) w) := by
  by_cases hp : InP p
  · have hp' := hp
    obtain ⟨P, rfl⟩ : ∃ P : Nat, p = (P : Int) := ⟨p.toNat, by have := hp.1; omega⟩
    have h1 : 1 ≤ P := by have := hp.1; omega
    have h2 : P ≤ 64 := by have := hp.2; omega
    by_cases hs : s.size < P
    · exact (hshort s P w h1 h2 hs).mono fun e w' h => h.ans ⟨fun _ => ⟨fun _ => ⟨rfl, rfl⟩, fun h => absurd hs (by rwa [Int.toNat_natCast] at h)⟩, fun h => absurd hp' h⟩
    · by_cases hl : 255 < s.size
      · exact (hlong s P w h1 h2 hl).mono fun e w' h => h.ans ⟨fun _ => ⟨fun h => absurd (by rwa [Int.toNat_natCast] at h) hs, fun _ => ⟨fun _ => ⟨rfl, rfl⟩, fun h => absurd hl h⟩⟩, fun h => absurd hp' h⟩
      · refine (hyes s P w h1 h2 (by omega) (by omega)).mono ?_
        rintro e w' ⟨A, c, rfl, hsl, hb⟩
        exact ⟨A, P, c, syn P (el s), 0, ⟨fun _ => ⟨fun h => absurd (by rwa [Int.toNat_natCast] at h) hs, fun _ => ⟨fun h => absurd h hl, fun _ => ⟨by rw [Int.toNat_natCast], rfl⟩⟩⟩, fun h => absurd hp' h⟩, syn_len P _, rfl, hsl, hb⟩
  · exact (hno s p w (out_of hp)).mono fun e w' h => h.ans ⟨fun h => absurd h hp, fun _ => ⟨rfl, rfl⟩⟩

set_option maxRecDepth 100000 in
set_option maxHeartbeats 4000000 in
theorem walk_values (s : ByteArray) (p : Int) (w : World) (hs : s.size ≤ 140737488351232) (h2 : (Lit.int .i64 p).wf = true) :
    Calls Try.prog 3 #[.string s, .int .i64 p] w fun e w' => e = .returned (.bool true) ∧ Below w.heap.size w w' := by
  have c1 := Lib.hid (fun W => gen_all gen_out gen_own p W)
  have c2 := Lib.hid (fun W => gen_all rgen_out (fun p w => rgen_any p w) p W)
  have c3 := Lib.hid (fun W => enc_all enc_out enc_long enc_own s p W hs)
  have c4 := Lib.hid (fun W => enc_all renc_out renc_long renc_any s p W hs)
  have c5 := Lib.hid (fun W => syn_all syn_out syn_short syn_long syn_own s p W)
  have c6 := Lib.hid (fun W => syn_all rsyn_out rsyn_short rsyn_long rsyn_any s p W)
  have cA := Lib.hid (fun W => awake_any W)
  clear h2
  go_enter Try.func3, Try.ntmps3
  go_wp2_with fail
  refine (c1.out _).mono ?_
  rintro e w1 ⟨A1, n1, d1, l1, k1, q1, rfl, rfl, s1, hB⟩
  have s1 := Lib.hid s1
  have q1 := Lib.hid q1
  go_wp2_with fail
  refine (c2.out _).mono ?_
  rintro e w2 ⟨A2, n2, d2, l2, k2, q2, rfl, rfl, s2, hb⟩
  obtain ⟨rfl, rfl⟩ := q1.out.only q2
  have s1 := Lib.hid (s1.out.below hb)
  have s2 := Lib.hid s2
  replace hB := chain hB hb
  clear hb q1 q2
  go_wp2_with fail
  refine (c3.out _).mono ?_
  rintro e w3 ⟨S1, k2, q1, rfl, hb⟩
  have q1 := Lib.hid q1
  have s1 := Lib.hid (s1.out.below hb)
  have s2 := Lib.hid (s2.out.below hb)
  replace hB := chain hB hb
  clear hb
  go_wp2_with fail
  refine (c4.out _).mono ?_
  rintro e w4 ⟨S2, k3, q2, rfl, hb⟩
  obtain ⟨rfl, rfl⟩ := q1.out.only q2
  have s1 := Lib.hid (s1.out.below hb)
  have s2 := Lib.hid (s2.out.below hb)
  replace hB := chain hB hb
  clear hb q1 q2
  go_wp2_with fail
  refine (c5.out _).mono ?_
  rintro e w5 ⟨A3, n3, d3, l3, k3, q1, rfl, rfl, s3, hb⟩
  have q1 := Lib.hid q1
  have s1 := Lib.hid (s1.out.below hb)
  have s2 := Lib.hid (s2.out.below hb)
  have s3 := Lib.hid s3
  replace hB := chain hB hb
  clear hb
  go_wp2_with fail
  refine (c6.out _).mono ?_
  rintro e w6 ⟨A4, n4, d4, l4, k4, q2, rfl, rfl, s4, hb⟩
  obtain ⟨rfl, rfl⟩ := q1.out.only q2
  have s1 := Lib.hid (s1.out.below hb)
  have s2 := Lib.hid (s2.out.below hb)
  have s3 := Lib.hid (s3.out.below hb)
  have s4 := Lib.hid s4
  replace hB := chain hB hb
  clear hb q1 q2 c1 c2 c3 c4 c5 c6
  have v1 := conv_sl (P := Try.prog) (dst := 9) Try.underlying22 Try.underlying5 Try.underlying9 s1.out rfl
  have v2 := conv_sl (P := Try.prog) (dst := 9) Try.underlying22 Try.underlying5 Try.underlying9 s2.out rfl
  have v3 := conv_sl (P := Try.prog) (dst := 9) Try.underlying22 Try.underlying5 Try.underlying9 s3.out rfl
  have v4 := conv_sl (P := Try.prog) (dst := 9) Try.underlying22 Try.underlying5 Try.underlying9 s4.out rfl
  obtain ⟨Z1, hZ1⟩ : ∃ Z1 : ByteArray, (⟨(G6.u8s l1).toArray⟩ : ByteArray) = Z1 := ⟨_, rfl⟩
  obtain ⟨Z3, hZ3⟩ : ∃ Z3 : ByteArray, (⟨(G6.u8s l3).toArray⟩ : ByteArray) = Z3 := ⟨_, rfl⟩
  rw [hZ1] at v1 v2
  rw [hZ3] at v3 v4
  clear hZ1 hZ3 s1 s2 s3 s4
  go_wp2_with fail
  refine (cA.out _).mono ?_
  rintro e w7 ⟨rfl, hb⟩
  go_wp2
  go_ret
  exact ⟨rfl, chain hB hb⟩
end Go.Proofs.Ytgjinnllofpoaaa.G7
