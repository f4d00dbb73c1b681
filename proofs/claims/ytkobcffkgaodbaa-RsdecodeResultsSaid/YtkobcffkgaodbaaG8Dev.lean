/- What the laws of layer 8 take of the package's own functions: their contracts, as one structure; the laws' helpers change, alive, small. -/
import Derived.Test.YtkobcffkgaodbaaG7Own5
import Derived.Test.YtkobcffkgaodbaaG8Math
import Derived.Test.YtkobcffkgaodbaaG8Ans
import Derived.StillTailTactics
namespace Go.Proofs.Ytkobcffkgaodbaa.G8
open Go.Proofs.Ytkobcffkgaodbaa.G5
open Go.Proofs.Ytkobcffkgaodbaa.G7
open Go.Proofs.Ytkobcffkgaodbaa.G6 (rs rs_len rs_get IsSl conv_sl mb VAt.setR VAt.readR getD_set)
open Go.RowKit Mem
set_option linter.unusedVariables false
set_option linter.unusedSimpArgs false

/-- The contracts of the package's functions. -/
structure Dev : Prop where
  decode : ∀ {s : ByteArray} {p : Int} {zs : List Int} {A : Option Addr} {n c : Nat} {w : World}, IsInts w A c zs → zs.length = n → s.size ≤ 60 → -9223372036854775808 ≤ p → p ≤ 16 → Calls Try.prog 11 #[.string s, .int .i64 p, .slice A n c] w (Deco (el s) p zs w)
  locate : ∀ (a b : ByteArray) (w : World), a.size ≤ 1000 → b.size ≤ 1000 → Calls Try.prog 16 #[.string a, .string b] w (Loc (el a) (el b) w)
  radius : ∀ (p e s : Int) (w : World), (Lit.int .i64 p).wf = true → (Lit.int .i64 e).wf = true → (Lit.int .i64 s).wf = true → Calls Try.prog 19 #[.int .i64 p, .int .i64 e, .int .i64 s] w fun o w' => o = .returned (.bool (radB p e s)) ∧ Below w.heap.size w w'

set_option maxHeartbeats 1000000 in
theorem change_any (s : ByteArray) (k : Nat) (v : R) (w : World) (hs : s.size ≤ 1000) (hk : k < s.size) :
    Calls Try.prog 21 #[.string s, .int .i64 (k : Int), bv v] w fun e w' => e = .returned (.string (str ((el s).set k ((el s).getD k 0 ^^^ v)))) ∧ Below w.heap.size w w' := by
  obtain ⟨cap, W, hcap, hcap2, hcv, hat, hgl, hbW⟩ := bytes_row w s (by omega)
  obtain ⟨hn1, hf1⟩ := VAt.readR hat (k := k) (by rw [el_len]; exact hk)
  obtain ⟨X, hX⟩ : ∃ X, (el s).getD k 0 = X := ⟨_, rfl⟩
  rw [hX] at hn1 ⊢
  have hx := bxr X v
  obtain ⟨S, hS⟩ : ∃ S, X ^^^ v = S := ⟨_, rfl⟩
  rw [hS] at hx ⊢
  have hat2 := VAt.setR hat (k := k) (by rw [el_len]; exact hk) S
  obtain ⟨G, hG⟩ : ∃ G, w.heap.size = G := ⟨_, rfl⟩
  rw [hG] at hat2 hcv hn1 hf1 hgl
  have hk0 : (0 : Int) ≤ (k : Int) := by omega
  have hk1 : (k : Int) < (s.size : Int) := by omega
  have hk2 := Lib.hid hk
  have hGh := Lib.hid hG
  have hl : ((el s).set k S).length = s.size := by rw [List.length_set, el_len]
  have hb2 := hbW.setCell (p := ⟨G, k, none⟩) (by rw [hG]; exact Nat.le_refl _) (bv S)
  have hcf := conv_sl (P := Try.prog) (dst := 9) Try.underlying28 Try.underlying5 Try.underlying9 (w := W.setCell ⟨G, k, none⟩ (bv S)) (sl_at (c := cap) hat2 (by rw [hl]; exact hcap) hcap2 (by simpa using hgl)) hl
  obtain ⟨Z, hZ⟩ : ∃ Z, str ((el s).set k S) = Z := ⟨_, rfl⟩
  rw [hZ]
  rw [show (⟨(G6.u8s ((el s).set k S)).toArray⟩ : ByteArray) = Z from hZ] at hcf
  clear hX hS hat hat2 hG hl hZ
  go_enter Try.func21, Try.ntmps21
  go_wp2
  go_ret
  exact ⟨rfl, hb2⟩
/-! ### the chapter's example -/
def c0_ : List R := [97#8, 114#8, 99#8, 104#8, 105#8, 118#8, 101#8, 206#8, 33#8, 200#8, 69#8]
theorem enc_archive : IsEnc 4 (el ⟨#[97, 114, 99, 104, 105, 118, 101]⟩) [206#8, 33#8, 200#8, 69#8] := ⟨rfl, fun i hi => by
  rcases i with _ | _ | _ | _ | i
  · decide +kernel
  · decide +kernel
  · decide +kernel
  · decide +kernel
  · omega⟩
theorem archive_word {t : List R} (h : IsEnc 4 (el ⟨#[97, 114, 99, 104, 105, 118, 101]⟩) t) : str (el ⟨#[97, 114, 99, 104, 105, 118, 101]⟩ ++ t) = ⟨#[97, 114, 99, 104, 105, 118, 101, 206, 33, 200, 69]⟩ := by
  rw [h.only enc_archive (by decide)]
  rfl
theorem cw_archive : Cw 4 (el ⟨#[97, 114, 99, 104, 105, 118, 101, 206, 33, 200, 69]⟩) := enc_archive.2
theorem dec_one {S : ByteArray} {n k : Int} (h : DecQ (el ⟨#[97, 117, 99, 104, 105, 118, 101, 206, 33, 0, 69]⟩) 4 [] S n k) : S = ⟨#[97, 114, 99, 104, 105, 118, 101, 206, 33, 200, 69]⟩ ∧ n = 2 ∧ k = 0 := by
  obtain ⟨h1, h2, h3⟩ := (h.2 (by unfold Bad; rw [el_len]; simp; decide)).1 (el ⟨#[97, 114, 99, 104, 105, 118, 101, 206, 33, 200, 69]⟩) ⟨cw_archive, rfl, by decide +kernel⟩
  refine ⟨by rw [h1, str_el], by rw [h2]; decide +kernel, h3⟩
theorem dec_two {S : ByteArray} {n k : Int} (h : DecQ (el ⟨#[96, 114, 99, 109, 105, 118, 101, 206, 33, 200, 69]⟩) 4 [3, 8] S n k) : S = ⟨#[97, 114, 99, 104, 105, 118, 101, 206, 33, 200, 69]⟩ ∧ k = 0 := by
  obtain ⟨h1, h2, h3⟩ := (h.2 (by unfold Bad; rw [el_len]; simp; decide)).1 (el ⟨#[97, 114, 99, 104, 105, 118, 101, 206, 33, 200, 69]⟩) ⟨cw_archive, rfl, by decide +kernel⟩
  exact ⟨by rw [h1, str_el], h3⟩
theorem chg (s t : ByteArray) (k : Nat) (v : R) (hs : s.size ≤ 1000) (hk : k < s.size) (h : str ((el s).set k ((el s).getD k 0 ^^^ v)) = t) (W : World) :
    Calls Try.prog 21 #[.string s, .int .i64 (k : Int), bv v] W fun e w' => e = .returned (.string t) ∧ Below W.heap.size W w' := by
  rw [← h]
  exact change_any s k v W hs hk
set_option maxRecDepth 100000 in
set_option maxHeartbeats 2000000 in
theorem alive_any (D : Dev) (w : World) : Calls Try.prog 9 #[] w fun e w' => e = .returned (.bool true) ∧ Below w.heap.size w w' := by
  have cE := enc_own ⟨#[97, 114, 99, 104, 105, 118, 101]⟩ 4 w (by decide) (by decide) (by decide)
  rw [show ((4 : Nat) : Int) = 4 from rfl] at cE
  have c1 := chg ⟨#[97, 114, 99, 104, 105, 118, 101, 206, 33, 200, 69]⟩ ⟨#[97, 117, 99, 104, 105, 118, 101, 206, 33, 200, 69]⟩ 1 7#8 (by decide) (by decide) (by decide +kernel)
  have c2 := chg ⟨#[97, 117, 99, 104, 105, 118, 101, 206, 33, 200, 69]⟩ ⟨#[97, 117, 99, 104, 105, 118, 101, 206, 33, 0, 69]⟩ 9 200#8 (by decide) (by decide) (by decide +kernel)
  have c3 := chg ⟨#[97, 114, 99, 104, 105, 118, 101, 206, 33, 200, 69]⟩ ⟨#[96, 114, 99, 104, 105, 118, 101, 206, 33, 200, 69]⟩ 0 1#8 (by decide) (by decide) (by decide +kernel)
  have c4 := chg ⟨#[96, 114, 99, 104, 105, 118, 101, 206, 33, 200, 69]⟩ ⟨#[96, 114, 99, 109, 105, 118, 101, 206, 33, 200, 69]⟩ 3 5#8 (by decide) (by decide) (by decide +kernel)
  have d1 := fun W => D.decode (s := ⟨#[97, 117, 99, 104, 105, 118, 101, 206, 33, 0, 69]⟩) (p := 4) (IsInts.no W) rfl (by decide) (by decide) (by decide)
  have d2 := fun W => D.decode (s := ⟨#[96, 114, 99, 109, 105, 118, 101, 206, 33, 200, 69]⟩) (p := 4) (IsInts.made W 3 [3, 8] #[.int .i64 3, .int .i64 8] _ 2 rfl rfl rfl (by decide) (by intro z hz; simp at hz; rcases hz with rfl | rfl <;> decide)) rfl (by decide) (by decide) (by decide)
  have cE := Lib.hid cE
  have c1 := Lib.hid c1
  have c2 := Lib.hid c2
  have c3 := Lib.hid c3
  have c4 := Lib.hid c4
  have d1 := Lib.hid d1
  have d2 := Lib.hid d2
  go_enter Try.func9, Try.ntmps9
  go_wp2_with fail
  refine cE.out.mono ?_
  rintro e w1 ⟨t, ht, rfl, hB⟩
  rw [archive_word ht]
  clear ht cE
  go_wp2_with fail
  refine (c1.out _).mono ?_
  rintro e w2 ⟨rfl, hb⟩
  replace hB := chain hB hb
  clear hb
  go_wp2_with fail
  refine (c2.out _).mono ?_
  rintro e w3 ⟨rfl, hb⟩
  replace hB := chain hB hb
  clear hb
  go_wp2_with fail
  refine (d1.out _).mono ?_
  rintro e w4 ⟨S, n, k, hq, rfl, hb⟩
  obtain ⟨rfl, rfl, rfl⟩ := dec_one hq
  replace hB := chain hB hb
  clear hb hq
  go_wp2_with fail
  refine (c3.out _).mono ?_
  rintro e w5 ⟨rfl, hb⟩
  replace hB := chain hB hb
  clear hb
  go_wp2_with fail
  refine (c4.out _).mono ?_
  rintro e w6 ⟨rfl, hb⟩
  replace hB := chain hB hb
  clear hb
  go_wp2_with fail
  refine (d2.out _).mono ?_
  rintro e w7 ⟨S, n, k, hq, rfl, hb⟩
  obtain ⟨rfl, rfl⟩ := dec_two hq
  have hB := chain (chain hB (mb w6 _)) hb
  clear hb hq
  go_wp2
  go_ret
  exact ⟨rfl, hB⟩
end Go.Proofs.Ytkobcffkgaodbaa.G8
