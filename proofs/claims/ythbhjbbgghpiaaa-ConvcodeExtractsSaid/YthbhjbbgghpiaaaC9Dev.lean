/- What the laws of layer 9 take of the package's own functions, as one structure; the laws' helper alive. -/
import Derived.DataShut
import Derived.Test.YthbhjbbgghpiaaaRows
import Derived.Test.YthbhjbbgghpiaaaMem
import Derived.Test.YthbhjbbgghpiaaaC9Con
import Derived.Lib.Hide
namespace Go.Proofs.Ythbhjbbgghpiaaa.C9
open Go.RowKit Mem
set_option linter.unusedVariables false
set_option linter.unusedSimpArgs false

/-- The contracts of the package's functions. -/
structure Dev : Prop where
  next : ∀ (s b : Int) (w : World), -9223372036854775808 ≤ s → s ≤ 9223372036854775807 → -9223372036854775808 ≤ b → b ≤ 9223372036854775807 → Calls Try.prog 18 #[.int .i64 s, .int .i64 b] w (Nxt s b w)
  encode : ∀ (s : ByteArray) (w : World), s.size ≤ 281474976710656 → Calls Try.prog 12 #[.string s] w (Enco s w)
  extract : ∀ (c : ByteArray) (w : World), c.size ≤ 4000 → Calls Try.prog 16 #[.string c] w (Extr c w)
  weight : ∀ (s : ByteArray) (w : World), s.size ≤ 70000 → Calls Try.prog 14 #[.string s] w (Wght s w)

theorem enc_one {S : ByteArray} {k : Int} (h : EncQ ⟨#[49]⟩ S k) : S = ⟨#[49, 49, 49, 48, 49, 49]⟩ ∧ k = 0 := by
  have := h.sb (l := [true]) (by decide)
  exact this
theorem enc_none {S : ByteArray} {k : Int} (h : EncQ ⟨#[]⟩ S k) : S = ⟨#[48, 48, 48, 48]⟩ ∧ k = 0 := by
  have := h.sb (l := []) (by decide)
  exact this
theorem ext_one {S : ByteArray} {k : Int} (h : ExtQ ⟨#[49, 49, 49, 48, 49, 49]⟩ S k) : S = ⟨#[49]⟩ ∧ k = 0 := by
  have := ExtQ.code (l := [true]) h (by decide)
  exact this
set_option maxRecDepth 100000 in
set_option maxHeartbeats 2000000 in
theorem alive_any (D : Dev) (w : World) : Calls Try.prog 11 #[] w fun e w' => e = .returned (.bool true) ∧ Below w.heap.size w w' := by
  have c1 := Lib.hid (fun W => D.encode ⟨#[49]⟩ W (by decide))
  have c2 := Lib.hid (fun W => D.encode ⟨#[]⟩ W (by decide))
  have c3 := Lib.hid (fun W => D.extract ⟨#[49, 49, 49, 48, 49, 49]⟩ W (by decide))
  have c4 := Lib.hid (fun W => D.next 2 0 W (by decide) (by decide) (by decide) (by decide))
  go_enter Try.func11, Try.ntmps11
  go_wp2_with fail
  refine (c1.out _).mono ?_
  rintro e w1 ⟨S, k, hq, rfl, hB⟩
  obtain ⟨rfl, rfl⟩ := enc_one hq
  clear hq
  go_wp2_with fail
  refine (c2.out _).mono ?_
  rintro e w2 ⟨S, k, hq, rfl, hb⟩
  obtain ⟨rfl, rfl⟩ := enc_none hq
  replace hB := chain hB hb
  clear hq hb
  go_wp2_with fail
  refine (c3.out _).mono ?_
  rintro e w3 ⟨S, k, hq, rfl, hb⟩
  obtain ⟨rfl, rfl⟩ := ext_one hq
  replace hB := chain hB hb
  clear hq hb
  go_wp2_with fail
  refine (c4.out _).mono ?_
  rintro e w4 ⟨rfl, hb⟩
  rw [show (stN (twoB 0) (oneB 2) : Int) = 1 from rfl, show sb (out2 (oneB 2) (twoB 2) (twoB 0)) = ⟨#[49, 48]⟩ from rfl]
  replace hB := chain hB hb
  clear hb
  go_wp2
  go_ret
  exact ⟨rfl, hB⟩
end Go.Proofs.Ythbhjbbgghpiaaa.C9
