/- The walk of the law ViterbiErasures, under the package's contracts. -/
import Derived.Test.YtmkmikegddafdaaV10Law2
namespace Go.Proofs.Ytmkmikegddafdaa.V10
open Go.RowKit Mem C9
set_option linter.unusedVariables false
set_option linter.unusedSimpArgs false

/-- A word with some cells made unreadable. -/
def ers (X : List UInt8) (ps : List Nat) : List UInt8 := ps.foldl (fun X p => X.set p 63) X
theorem ers_snoc (X : List UInt8) (ps : List Nat) (p : Nat) : ers X (ps ++ [p]) = (ers X ps).set p 63 := by simp [ers]
theorem ers_len (X : List UInt8) (ps : List Nat) : (ers X ps).length = X.length := by
  induction ps generalizing X with
  | nil => rfl
  | cons p ps ih => show (ers (X.set p 63) ps).length = _; rw [ih, List.length_set]
theorem mis_set63 : ∀ (X : List UInt8) (A : List Bool) (k : Nat), misL X A = 0 → misL (X.set k 63) A = 0
  | [], _, _, h => h
  | x :: X, [], 0, _ => rfl
  | x :: X, [], k + 1, _ => rfl
  | x :: X, a :: A, 0, h => by
    have h' : mis x a + misL X A = 0 := h
    show mis 63 a + misL X A = 0
    have e : mis 63 a = 0 := rfl
    omega
  | x :: X, a :: A, k + 1, h => by
    have h' : mis x a + misL X A = 0 := h
    have := mis_set63 X A k (by omega)
    show mis x a + misL (X.set k 63) A = 0
    omega
theorem ers_all (A : List Bool) (ps : List Nat) : ∀ X : List UInt8, misL X A = 0 → X.all okC = true → misL (ers X ps) A = 0 ∧ unrL (ers X ps) ≤ unrL X + ps.length ∧ (ers X ps).all okC = true := by
  induction ps with
  | nil => intro X h1 h2; exact ⟨h1, Nat.le_refl _, h2⟩
  | cons p ps ih =>
    intro X h1 h2
    obtain ⟨i1, i2, i3⟩ := ih (X.set p 63) (mis_set63 X A p h1) (by
      rw [List.all_eq_true]
      intro c hc
      rcases List.mem_or_eq_of_mem_set hc with h | h
      · exact List.all_eq_true.1 h2 c h
      · rw [h]; rfl)
    refine ⟨i1, ?_, i3⟩
    have := unrL_set_le X p 63
    show unrL (ers (X.set p 63) ps) ≤ _
    rw [List.length_cons]
    omega
theorem ers_dec {c : ByteArray} {b : List Bool} {ps : List Nat} (h : c.data.toList = ers (cs (enc b)) ps) (hp : ps.length ≤ 4) : eB c = 0 ∧ dS c = sb b ∧ dN c = 0 ∧ dB c = true := by
  obtain ⟨i1, i2, i3⟩ := ers_all (enc b) ps (cs (enc b)) (misL_self _) (okC_sb _)
  rw [← h] at i1 i2 i3
  rw [unrL_cs] at i2
  have hs : c.size = 2 * b.length + 4 := by rw [← size_list, h, ers_len, cs_len, enc_len]
  have he := eB_ok i3 hs
  obtain ⟨l, hg⟩ := good he hs
  obtain ⟨rfl, h2, h3⟩ := hg.near hs rfl (b := b) (by rw [i1]; omega)
  exact ⟨he, hg.str, by rw [h2, i1]; rfl, h3⟩
theorem below_new {B : Nat} {w w1 w2 : World} (h : Below B w w1) (k : Below w1.heap.size w1 w2) (hB : B ≤ w1.heap.size) : Below B w w2 := h.trans (k.mono hB)
set_option maxRecDepth 100000 in
set_option maxHeartbeats 8000000 in
theorem walk_erasures (D : Dev) (A : Option Addr) (n cap : Nat) (z0 : List Int) (e0 e1 e2 e3 : Int) (w : World) (hrow : IsRow .u8 w A n cap z0) (f0 : 0 ≤ e0 ∧ e0 ≤ 65535) (f1 : 0 ≤ e1 ∧ e1 ≤ 65535) (f2 : 0 ≤ e2 ∧ e2 ≤ 65535) (f3 : 0 ≤ e3 ∧ e3 ≤ 65535) :
    Calls Try.prog 7 #[.slice A n cap, .agg #[.int .u16 e0, .int .u16 e1, .int .u16 e2, .int .u16 e3]] w fun e w' => e = .returned (.bool true) ∧ Below w.heap.size w w' := by
  obtain ⟨q0, rfl⟩ : ∃ q : Nat, e0 = (q : Int) := ⟨e0.toNat, by omega⟩
  obtain ⟨q1, rfl⟩ : ∃ q : Nat, e1 = (q : Int) := ⟨e1.toNat, by omega⟩
  obtain ⟨q2, rfl⟩ : ∃ q : Nat, e2 = (q : Int) := ⟨e2.toNat, by omega⟩
  obtain ⟨q3, rfl⟩ : ∃ q : Nat, e3 = (q : Int) := ⟨e3.toNat, by omega⟩
  have hq0 : q0 ≤ 65535 := by omega
  have hq1 : q1 ≤ 65535 := by omega
  have hq2 : q2 ≤ 65535 := by omega
  have hq3 : q3 ≤ 65535 := by omega
  obtain ⟨zs, hby⟩ := IsBy.of_row hrow
  have cA := Lib.hid (fun W => awake_any D W)
  clear f0 f1 f2 f3 hrow
  by_cases hn : n ≤ 100
  · have d1 : decide (100 < n) = false := decide_eq_false (by omega)
    have d1' : decide ((100 : Int) < (n : Int)) = false := decide_eq_false (by omega)
    obtain ⟨w0, hw0⟩ : ∃ W, w.alloc (.cells #[.int .u16 (q0 : Int), .int .u16 (q1 : Int), .int .u16 (q2 : Int), .int .u16 (q3 : Int)] 42) = W := ⟨_, rfl⟩
    have hB0 : Below w.heap.size w w0 := by rw [← hw0]; exact (Below.refl _ w).alloc (Nat.le_refl _) _
    have hG0 : w.heap.size < w0.heap.size := by rw [← hw0]; simp
    have hcel : ∀ W, Below w0.heap.size w0 W → W.cell? ⟨w.heap.size, 0, none⟩ = some (.int .u16 (q0 : Int)) ∧ W.cell? ⟨w.heap.size, 1, none⟩ = some (.int .u16 (q1 : Int)) ∧ W.cell? ⟨w.heap.size, 2, none⟩ = some (.int .u16 (q2 : Int)) ∧ W.cell? ⟨w.heap.size, 3, none⟩ = some (.int .u16 (q3 : Int)) := fun W h => by
      have g : ∀ j, w0.cell? ⟨w.heap.size, j, none⟩ = (#[.int .u16 (q0 : Int), .int .u16 (q1 : Int), .int .u16 (q2 : Int), .int .u16 (q3 : Int)] : Array Value)[j]? := fun j => by rw [← hw0, World.cell?_alloc_new]
      exact ⟨(h.cell (p := ⟨w.heap.size, 0, none⟩) hG0).trans (g 0), (h.cell (p := ⟨w.heap.size, 1, none⟩) hG0).trans (g 1), (h.cell (p := ⟨w.heap.size, 2, none⟩) hG0).trans (g 2), (h.cell (p := ⟨w.heap.size, 3, none⟩) hG0).trans (g 3)⟩
    have cB := bits_any A n cap zs w0 (hby.below (hB0)) (by omega)
    have hbl : (bitL zs).length = n := by rw [bitL_len, hby.len]
    obtain ⟨b, hb⟩ : ∃ b, bitL zs = b := ⟨_, rfl⟩
    rw [hb] at cB hbl
    have cE := fun W => encode_good b W (by omega)
    have hVs : (sb (enc b)).size = 2 * n + 4 := by rw [sb_size, enc_len, hbl]
    have hers := fun (c : ByteArray) ps (h : c.data.toList = ers (cs (enc b)) ps) hp => ers_dec h hp
    have hVl : (sb (enc b)).data.toList = cs (enc b) := rfl
    obtain ⟨V, hV⟩ : ∃ s, sb (enc b) = s := ⟨_, rfl⟩
    obtain ⟨S, hS⟩ : ∃ s, sb b = s := ⟨_, rfl⟩
    obtain ⟨X, hX⟩ : ∃ l, cs (enc b) = l := ⟨_, rfl⟩
    obtain ⟨N, hN⟩ : ∃ N, 2 * n + 4 = N := ⟨_, rfl⟩
    rw [hV] at cE hVs hVl
    rw [hS] at cB cE hers
    rw [hX] at hers hVl
    rw [hN] at hVs
    have hXl : X.length = N := by rw [← hVl, size_list, hVs]
    have hVe : V ≠ ⟨#[]⟩ := fun e => by
      have := congrArg ByteArray.size e
      rw [hVs] at this
      have h0 : (⟨#[]⟩ : ByteArray).size = 0 := rfl
      omega
    have hVb : V.toList.isEmpty = false := by
      rw [str_toList]
      cases hq : V.data.toList
      · exact absurd (ByteArray.ext (Array.toList_inj.1 hq)) hVe
      · rfl
    have hNI : ¬ (N : Int) = 0 := by omega
    have hN3 : N ≤ 204 := by omega
    have hN4 : 4 ≤ N := by omega
    obtain ⟨p0, hp0⟩ : ∃ p, q0 % N = p := ⟨_, rfl⟩
    have hpN0 : p0 < N := by rw [← hp0]; exact Nat.mod_lt _ (by omega)
    have hpI0 : (q0 : Int) % (N : Int) = (p0 : Int) := by omega
    obtain ⟨p1, hp1⟩ : ∃ p, q1 % N = p := ⟨_, rfl⟩
    have hpN1 : p1 < N := by rw [← hp1]; exact Nat.mod_lt _ (by omega)
    have hpI1 : (q1 : Int) % (N : Int) = (p1 : Int) := by omega
    obtain ⟨p2, hp2⟩ : ∃ p, q2 % N = p := ⟨_, rfl⟩
    have hpN2 : p2 < N := by rw [← hp2]; exact Nat.mod_lt _ (by omega)
    have hpI2 : (q2 : Int) % (N : Int) = (p2 : Int) := by omega
    obtain ⟨p3, hp3⟩ : ∃ p, q3 % N = p := ⟨_, rfl⟩
    have hpN3 : p3 < N := by rw [← hp3]; exact Nat.mod_lt _ (by omega)
    have hpI3 : (q3 : Int) % (N : Int) = (p3 : Int) := by omega
    have hcD := fun (c : ByteArray) (h : c.data.toList = ers X [p0, p1, p2, p3]) W => by
      obtain ⟨k1, k2, k3, k4⟩ := hers c [p0, p1, p2, p3] h (Nat.le_refl 4)
      exact D.decode_as (c := c) (by rw [← size_list, h, ers_len, hXl]; omega) k2 k3 k4 k1 W
    replace hcD := Lib.hid hcD
    replace hcel := Lib.hid hcel
    replace cB := Lib.hid cB
    replace cE := Lib.hid cE
    replace hVl := Lib.hid hVl
    replace hVb := Lib.hid hVb
    replace hXl := Lib.hid hXl
    clear hby hbl hb hers hV hS hX hN hVe hp0 hp1 hp2 hp3
    go_enter Try.func7, Try.ntmps7
    go_wp2_with fail
    clear hw0 hG0
    refine cB.out.mono ?_
    rintro e w1 ⟨rfl, hB⟩
    go_wp2_with fail
    refine (cE.out _).mono ?_
    rintro e w2 ⟨rfl, hb⟩
    replace hB := chain hB hb
    clear hb cB cE
    obtain ⟨C, cp, hcap, hcv, hat⟩ := bytes_of (P := Try.prog) w2 (src := 9) (dst := 31) (e := 5) V Try.underlying9 Try.underlying31 Try.underlying5
    obtain ⟨W, hW⟩ : ∃ W, w2.drew.alloc (.cells C 5 (cp, cp + 1)) = W := ⟨_, rfl⟩
    obtain ⟨G, hG⟩ : ∃ G, w2.heap.size = G := ⟨_, rfl⟩
    have hat : BAt W G X := by
      rw [← hVl.out, ← hW, ← hG]
      exact hat
    have hgl : G < W.heap.size := by rw [← hW, ← hG]; simp
    have hGw : w0.heap.size ≤ G := by rw [← hG]; exact hB.size
    have hBW : Below w0.heap.size w0 W := by
      rw [← hW]
      exact (hB.drew).alloc (by simpa using hB.size) _
    rw [hW, hG, hVs] at hcv
    rw [hVs] at hcap
    obtain ⟨c0, c1, c2, c3⟩ := hcel.out W hBW
    replace hat := Lib.hid hat
    have hVb := hVb.out
    clear hW hG hB hcel
    go_wp2
    clear hcv c0 c1 c2 c3
    go_loopw [35] (fun i wr => ∃ k : Nat, k ≤ 4 ∧ i = .int .i64 (k : Int) ∧ Hid (BAt wr G (ers X ([p0, p1, p2, p3].take k))) ∧ G < wr.heap.size ∧ Below w0.heap.size w0 wr) (fun i _ => 4 - (intOf i).toNat)
    case atStart => exact ⟨0, by decide, rfl, hat, hgl, hBW⟩
    case round =>
      obtain ⟨k, hk, rfl, hat, hgl, hb⟩ := hrel
      have hk5 : k = 0 ∨ k = 1 ∨ k = 2 ∨ k = 3 ∨ k = 4 := by omega
      clear hk
      rcases hk5 with rfl | rfl | rfl | rfl | rfl
      · replace hat : Hid (BAt wr G (ers X [])) := hat
        have ix : ∀ W, (Instr.index 42 (.agg #[.int .u16 (q0 : Int), .int .u16 (q1 : Int), .int .u16 (q2 : Int), .int .u16 (q3 : Int)]) (.int .i64 ((0 : Nat) : Int))).run Try.prog W = .ok (.int .u16 (q0 : Int)) W := fun W => rfl
        have ix' : ∀ W, (Instr.index 42 (.agg #[.int .u16 (q0 : Int), .int .u16 (q1 : Int), .int .u16 (q2 : Int), .int .u16 (q3 : Int)]) (.int .i64 0)).run Try.prog W = .ok (.int .u16 (q0 : Int)) W := fun W => rfl
        have hlen : (ers X []).length = N := by rw [ers_len, hXl.out]
        have hp : p0 < (ers X []).length := by rw [hlen]; exact hpN0
        obtain ⟨hcc, hff⟩ := hat.out p0 hp
        have hset := BAt.set hat.out hp 63
        rw [← ers_snoc] at hset
        have hset2 := Lib.hid (show BAt (wr.setCell ⟨G, p0, none⟩ (.int .u8 63)) G (ers X ([p0, p1, p2, p3].take 1)) from hset)
        have hb2 := hb.setCell (p := ⟨G, p0, none⟩) hGw (.int .u8 63)
        have hg2 : G < (wr.setCell ⟨G, p0, none⟩ (.int .u8 63)).heap.size := by simpa using hgl
        have i0 : (0 : Int) ≤ (p0 : Int) := by omega
        have i1 : (p0 : Int) < (N : Int) := by omega
        obtain ⟨V0, hV0⟩ : ∃ V0 : Int, (((ers X [])[p0]'hp).toNat : Int) = V0 := ⟨_, rfl⟩
        rw [hV0] at hcc
        clear hset hlen hat hV0
        go_wp2
        go_roundw
        case rel => exact ⟨1, by decide, rfl, hset2, hg2, hb2⟩
        case measure => simp [intOf]
      · replace hat : Hid (BAt wr G (ers X [p0])) := hat
        have ix : ∀ W, (Instr.index 42 (.agg #[.int .u16 (q0 : Int), .int .u16 (q1 : Int), .int .u16 (q2 : Int), .int .u16 (q3 : Int)]) (.int .i64 ((1 : Nat) : Int))).run Try.prog W = .ok (.int .u16 (q1 : Int)) W := fun W => rfl
        have ix' : ∀ W, (Instr.index 42 (.agg #[.int .u16 (q0 : Int), .int .u16 (q1 : Int), .int .u16 (q2 : Int), .int .u16 (q3 : Int)]) (.int .i64 1)).run Try.prog W = .ok (.int .u16 (q1 : Int)) W := fun W => rfl
        have hlen : (ers X [p0]).length = N := by rw [ers_len, hXl.out]
        have hp : p1 < (ers X [p0]).length := by rw [hlen]; exact hpN1
        obtain ⟨hcc, hff⟩ := hat.out p1 hp
        have hset := BAt.set hat.out hp 63
        rw [← ers_snoc] at hset
        have hset2 := Lib.hid (show BAt (wr.setCell ⟨G, p1, none⟩ (.int .u8 63)) G (ers X ([p0, p1, p2, p3].take 2)) from hset)
        have hb2 := hb.setCell (p := ⟨G, p1, none⟩) hGw (.int .u8 63)
        have hg2 : G < (wr.setCell ⟨G, p1, none⟩ (.int .u8 63)).heap.size := by simpa using hgl
        have i0 : (0 : Int) ≤ (p1 : Int) := by omega
        have i1 : (p1 : Int) < (N : Int) := by omega
        obtain ⟨V0, hV0⟩ : ∃ V0 : Int, (((ers X [p0])[p1]'hp).toNat : Int) = V0 := ⟨_, rfl⟩
        rw [hV0] at hcc
        clear hset hlen hat hV0
        go_wp2
        go_roundw
        case rel => exact ⟨2, by decide, rfl, hset2, hg2, hb2⟩
        case measure => simp [intOf]
      · replace hat : Hid (BAt wr G (ers X [p0, p1])) := hat
        have ix : ∀ W, (Instr.index 42 (.agg #[.int .u16 (q0 : Int), .int .u16 (q1 : Int), .int .u16 (q2 : Int), .int .u16 (q3 : Int)]) (.int .i64 ((2 : Nat) : Int))).run Try.prog W = .ok (.int .u16 (q2 : Int)) W := fun W => rfl
        have ix' : ∀ W, (Instr.index 42 (.agg #[.int .u16 (q0 : Int), .int .u16 (q1 : Int), .int .u16 (q2 : Int), .int .u16 (q3 : Int)]) (.int .i64 2)).run Try.prog W = .ok (.int .u16 (q2 : Int)) W := fun W => rfl
        have hlen : (ers X [p0, p1]).length = N := by rw [ers_len, hXl.out]
        have hp : p2 < (ers X [p0, p1]).length := by rw [hlen]; exact hpN2
        obtain ⟨hcc, hff⟩ := hat.out p2 hp
        have hset := BAt.set hat.out hp 63
        rw [← ers_snoc] at hset
        have hset2 := Lib.hid (show BAt (wr.setCell ⟨G, p2, none⟩ (.int .u8 63)) G (ers X ([p0, p1, p2, p3].take 3)) from hset)
        have hb2 := hb.setCell (p := ⟨G, p2, none⟩) hGw (.int .u8 63)
        have hg2 : G < (wr.setCell ⟨G, p2, none⟩ (.int .u8 63)).heap.size := by simpa using hgl
        have i0 : (0 : Int) ≤ (p2 : Int) := by omega
        have i1 : (p2 : Int) < (N : Int) := by omega
        obtain ⟨V0, hV0⟩ : ∃ V0 : Int, (((ers X [p0, p1])[p2]'hp).toNat : Int) = V0 := ⟨_, rfl⟩
        rw [hV0] at hcc
        clear hset hlen hat hV0
        go_wp2
        go_roundw
        case rel => exact ⟨3, by decide, rfl, hset2, hg2, hb2⟩
        case measure => simp [intOf]
      · replace hat : Hid (BAt wr G (ers X [p0, p1, p2])) := hat
        have ix : ∀ W, (Instr.index 42 (.agg #[.int .u16 (q0 : Int), .int .u16 (q1 : Int), .int .u16 (q2 : Int), .int .u16 (q3 : Int)]) (.int .i64 ((3 : Nat) : Int))).run Try.prog W = .ok (.int .u16 (q3 : Int)) W := fun W => rfl
        have ix' : ∀ W, (Instr.index 42 (.agg #[.int .u16 (q0 : Int), .int .u16 (q1 : Int), .int .u16 (q2 : Int), .int .u16 (q3 : Int)]) (.int .i64 3)).run Try.prog W = .ok (.int .u16 (q3 : Int)) W := fun W => rfl
        have hlen : (ers X [p0, p1, p2]).length = N := by rw [ers_len, hXl.out]
        have hp : p3 < (ers X [p0, p1, p2]).length := by rw [hlen]; exact hpN3
        obtain ⟨hcc, hff⟩ := hat.out p3 hp
        have hset := BAt.set hat.out hp 63
        rw [← ers_snoc] at hset
        have hset2 := Lib.hid (show BAt (wr.setCell ⟨G, p3, none⟩ (.int .u8 63)) G (ers X ([p0, p1, p2, p3].take 4)) from hset)
        have hb2 := hb.setCell (p := ⟨G, p3, none⟩) hGw (.int .u8 63)
        have hg2 : G < (wr.setCell ⟨G, p3, none⟩ (.int .u8 63)).heap.size := by simpa using hgl
        have i0 : (0 : Int) ≤ (p3 : Int) := by omega
        have i1 : (p3 : Int) < (N : Int) := by omega
        obtain ⟨V0, hV0⟩ : ∃ V0 : Int, (((ers X [p0, p1, p2])[p3]'hp).toNat : Int) = V0 := ⟨_, rfl⟩
        rw [hV0] at hcc
        clear hset hlen hat hV0
        go_wp2
        go_roundw
        case rel => exact ⟨4, by decide, rfl, hset2, hg2, hb2⟩
        case measure => simp [intOf]
      · replace hat : BAt wr G (ers X [p0, p1, p2, p3]) := hat.out
        have hlen : (ers X [p0, p1, p2, p3]).length = N := by rw [ers_len, hXl.out]
        have hconv := hat.conv (P := Try.prog) (cap := cp) (dst := 9) hlen Try.underlying31 Try.underlying5 Try.underlying9
        obtain ⟨Z, hZ⟩ : ∃ Z : ByteArray, (⟨(ers X [p0, p1, p2, p3]).toArray⟩ : ByteArray) = Z := ⟨_, rfl⟩
        have cD := Lib.hid (fun W => hcD.out Z (by rw [← hZ]) W)
        rw [hZ] at hconv
        clear hZ hlen hat hcD
        go_wp2_with fail
        refine (cD.out _).mono ?_
        rintro e w5 ⟨rfl, hb5⟩
        have hb9 := chain hb hb5
        clear hb hb5 hconv cD
        go_wp2_with (go_at_call 11; refine (cA.out _).mono ?_; rintro e w8 ⟨rfl, hb8⟩)
        go_ret
        exact ⟨rfl, below_new hB0 (chain hb9 hb8) hB0.size⟩
  · have d1 : decide (100 < n) = true := decide_eq_true (by omega)
    have d1' : decide ((100 : Int) < (n : Int)) = true := decide_eq_true (by omega)
    have hB0 : Below w.heap.size w (w.alloc (.cells #[.int .u16 (q0 : Int), .int .u16 (q1 : Int), .int .u16 (q2 : Int), .int .u16 (q3 : Int)] 42)) := (Below.refl _ w).alloc (Nat.le_refl _) _
    clear hn hby
    go_enter Try.func7, Try.ntmps7
    go_wp2_with fail
    refine (cA.out _).mono ?_
    rintro e w1 ⟨rfl, hB⟩
    go_wp2
    go_ret
    exact ⟨rfl, below_new hB0 hB hB0.size⟩
end Go.Proofs.Ytmkmikegddafdaa.V10
