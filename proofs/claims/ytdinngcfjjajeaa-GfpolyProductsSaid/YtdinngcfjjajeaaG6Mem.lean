/- The contracts of the reference's Same and coefficient. -/
import Derived.Test.YtdinngcfjjajeaaG6Sl
import Derived.Test.YtdinngcfjjajeaaG5RefInv
namespace Go.Proofs.Ytdinngcfjjajeaa.G6
open Go.Proofs.Ytdinngcfjjajeaa.G5
open Go.RowKit Mem
set_option linter.unusedVariables false
set_option linter.unusedSimpArgs false

theorem same_any {A B : Option Addr} {c d : Nat} {l m : List R} {w : World} (h : IsSl w A c l) (k : IsSl w B d m) :
    Calls Try.prog 14 #[.slice A l.length c, .slice B m.length d] w fun e w' => e = .returned (.bool (l == m)) ∧ w = w' := by
  have h1 := conv_sl (P := Try.prog) (dst := 9) Try.underlying22 Try.underlying5 Try.underlying9 h rfl
  have h2 := conv_sl (P := Try.prog) (dst := 9) Try.underlying22 Try.underlying5 Try.underlying9 k rfl
  have he := str_same l m
  obtain ⟨S, hS⟩ : ∃ S : ByteArray, (⟨(u8s l).toArray⟩ : ByteArray) = S := ⟨_, rfl⟩
  obtain ⟨T, hT⟩ : ∃ T : ByteArray, (⟨(u8s m).toArray⟩ : ByteArray) = T := ⟨_, rfl⟩
  rw [hS] at h1 he
  rw [hT] at h2 he
  rw [← he]
  clear he hS hT h k
  go_enter Try.func14, Try.ntmps14
  go_wp2
  go_ret
  exact ⟨rfl, rfl⟩

theorem coeff_any {A : Option Addr} {c : Nat} {l : List R} {w : World} (h : IsSl w A c l) (j : Nat) :
    Calls Try.prog 33 #[.slice A l.length c, .int .i64 (j : Int)] w fun e w' => e = .returned (bv (l.getD j 0)) ∧ w = w' := by
  by_cases hj : j < l.length
  · obtain ⟨b, o, rfl, hb, hc⟩ := h.read j hj
    obtain ⟨X, hX⟩ : ∃ X, l.getD j 0 = X := ⟨_, rfl⟩
    rw [hX] at hc ⊢
    have hi : (j : Int) < (l.length : Int) := by omega
    clear hX h
    go_enter Try.func33, Try.ntmps33
    go_wp2
    go_ret
    exact ⟨rfl, rfl⟩
  · rw [getD_far l j (by omega)]
    have hi : ¬ (j : Int) < (l.length : Int) := by omega
    clear h
    go_enter Try.func33, Try.ntmps33
    go_wp2
    go_ret
    exact ⟨rfl, rfl⟩
end Go.Proofs.Ytdinngcfjjajeaa.G6
