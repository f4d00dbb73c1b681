/- AssemblerJump, walked. -/
import Derived.Test.YthmgocjmfhpafaaDoorA18Lib
import Derived.Test.YthmgocjmfhpafaaDoorA18Jrun
import Derived.Test.YthmgocjmfhpafaaDoorM17Chk
import Derived.Test.YthmgocjmfhpafaaDoorM17Lit
import Derived.Test.YthmgocjmfhpafaaDoorM17New
import Derived.Test.YthmgocjmfhpafaaDoorIsBy
namespace Go.Proofs.YthmgocjmfhpafaaDoor.A18
set_option maxRecDepth 100000
open Go.RowKit Mem
open M17 (Laid Laid.below check_own chkR okc digs lit_any Run_own txts_one inp_none fit_small outV ans Blk)
set_option linter.unusedVariables false
set_option linter.unusedSimpArgs false

theorem chk_ways (l : List UInt8) : (chkR l = (0, 0) ∧ ∀ c ∈ l, isIn c = true ∨ c = 32 ∨ c = 10) ∨ ∃ i, chkR l = (i, 3) := by
  rcases e : l.findIdx? (fun c => !M17.okc c) with _ | i
  · refine .inl ⟨by unfold chkR; rw [e], fun c hc => ?_⟩
    rw [List.findIdx?_eq_none_iff] at e
    have h1 := e c hc
    have h2 := all8 (P := fun c => !M17.okc c || (isIn c || (c == 32 || c == 10))) (by decide +kernel) c
    have h1 : M17.okc c = true := by simpa using h1
    have h2 : (!M17.okc c || (isIn c || (c == 32 || c == 10))) = true := h2
    rw [h1] at h2
    simpa using h2
  · exact .inr ⟨i, by unfold chkR; rw [e]⟩
theorem conv_by {P : Program} {w : World} {cap n : Nat} {src dst e : TypeId} {A : Option Addr} {zs : List Nat} (hs : P.underlying src = some (.slice e)) (he : P.underlying e = some (.int .u8)) (hd : P.underlying dst = some .string)
    (h : IsBy w A n cap zs) : (convert src dst (.slice A n cap)).run P w = .ok (.string ⟨(zs.map UInt8.ofNat).toArray⟩) w := by
  obtain ⟨hlen, hle, hcm, hnil, hfit, hrd⟩ := h
  rcases A with _ | a
  · have hc := hnil rfl
    have hz : zs = [] := List.eq_nil_of_length_eq_zero (by omega)
    subst hz hc
    rw [run_convert_bytes_string w src dst e none _ 0 hs he hd]
    subst hlen
    rfl
  · have hl2 : (zs.map UInt8.ofNat).length = n := by simpa using hlen
    rw [← hl2]
    refine run_convert_bytes_back w src dst e a cap (zs.map UInt8.ofNat) hs he hd fun j hj => ?_
    have hj' : j < zs.length := by simpa using hj
    obtain ⟨b, o, e, _, hc⟩ := hrd j (by simpa using hj)
    injection e with e
    subst e
    have : (⟨b, o, none⟩ : Addr).add j = ⟨b, o + j, none⟩ := by
      by_cases h0 : j = 0
      · subst h0; rfl
      · simp [Addr.add, h0]
    rw [this, hc]
    have h8 := hfit _ (List.getElem_mem hj')
    simp only [List.getElem_map]
    rw [UInt8.toNat_ofNat_of_lt' (by show zs[j] < 256; omega)]
set_option maxHeartbeats 32000000 in
theorem walk_jump (A : Option Addr) (n cap : Nat) (zs : List Nat) (x : ByteArray) (o : Int) (w : World) (hL : Laid w) (hz : IsBy w A n cap zs) :
    Calls Tryd.prog 10 #[.slice A n cap, .string x, .int .i64 o] w fun e w' => e = .returned (.bool true) ∧ Below w.heap.size w w' := by
  have cW := Lib.hid awake_any
  have hL := Lib.hid hL
  have hle := hz.le
  by_cases h1 : 60 < n
  · have d1 : decide ((60 : Int) < (n : Int)) = true := decide_eq_true (by omega)
    have cW1 := Lib.hid (cW.out w hL.out)
    clear hz hle h1
    go_enter Tryd.func10, Tryd.ntmps10
    go_wp2_with fail
    refine (cW1.out).mono ?_
    rintro e w1 ⟨rfl, hb1⟩
    go_wp2
    first | go_ret | skip
    exact ⟨rfl, hb1⟩
  have d1 : decide ((60 : Int) < (n : Int)) = false := decide_eq_false (by omega)
  by_cases h2 : 100 < x.size
  · have d2 : decide ((100 : Int) < (x.size : Int)) = true := decide_eq_true (by omega)
    have cW1 := Lib.hid (cW.out w hL.out)
    clear hz hle h1 h2
    go_enter Tryd.func10, Tryd.ntmps10
    go_wp2_with fail
    refine (cW1.out).mono ?_
    rintro e w1 ⟨rfl, hb1⟩
    go_wp2
    first | go_ret | skip
    exact ⟨rfl, hb1⟩
  have d2 : decide ((100 : Int) < (x.size : Int)) = false := decide_eq_false (by omega)
  by_cases h3 : o < 0
  · have d3 : decide (o < 0) = true := decide_eq_true (by omega)
    have cW1 := Lib.hid (cW.out w hL.out)
    clear hz hle h1 h2 h3
    go_enter Tryd.func10, Tryd.ntmps10
    go_wp2_with fail
    refine (cW1.out).mono ?_
    rintro e w1 ⟨rfl, hb1⟩
    go_wp2
    first | go_ret | skip
    exact ⟨rfl, hb1⟩
  have d3 : decide (o < 0) = false := decide_eq_false (by omega)
  by_cases h4 : 260144 < o
  · have d4 : decide ((260144 : Int) < o) = true := decide_eq_true (by omega)
    have cW1 := Lib.hid (cW.out w hL.out)
    clear hz hle h1 h2 h3 h4
    go_enter Tryd.func10, Tryd.ntmps10
    go_wp2_with fail
    refine (cW1.out).mono ?_
    rintro e w1 ⟨rfl, hb1⟩
    go_wp2
    first | go_ret | skip
    exact ⟨rfl, hb1⟩
  have d4 : decide ((260144 : Int) < o) = false := decide_eq_false (by omega)
  have cC := fun W => check_own x (by omega) W
  rcases chk_ways x.data.toList with ⟨hck, hok⟩ | ⟨i, hck⟩
  case inr =>
    rw [hck] at cC
    have cC := Lib.hid (fun W => show Calls Tryd.prog 24 #[.string x] W fun e w' => e = .returned (.tuple #[.int .i64 (i : Int), .int .i64 3]) ∧ w' = W from cC W)
    have cW1 := Lib.hid (cW.out w hL.out)
    clear h1 h2 h3 h4 hz hle hck
    go_enter Tryd.func10, Tryd.ntmps10
    go_wp2_with fail
    refine (cC.out _).mono ?_
    rintro e w0 ⟨rfl, rfl⟩
    go_wp2_with fail
    refine (cW1.out).mono ?_
    rintro e w1 ⟨rfl, hb1⟩
    go_wp2
    first | go_ret | skip
    exact ⟨rfl, hb1⟩
  rw [hck] at cC
  have cC := Lib.hid (fun W => show Calls Tryd.prog 24 #[.string x] W fun e w' => e = .returned (.tuple #[.int .i64 0, .int .i64 0]) ∧ w' = W from cC W)
  have hxn : x.data.toList.length = x.size := by simp
  have hll : (zs.map UInt8.ofNat).length = n := by simpa using hz.len
  obtain ⟨M, sp, a, hJ⟩ := jasm x.data.toList (zs.map UInt8.ofNat) o hok (by omega) (by omega) (by omega) (by omega)
  have hrun := jrun hJ (by omega) (by omega) (by omega) (by omega)
  have hasm := hJ.eq
  have hadd := hJ.addr
  obtain ⟨TX, hTX⟩ : ∃ t, ([48, 32] ++ sixL a ++ [63] ++ M) ++ (sp ++ prt (zs.map UInt8.ofNat)) = t := ⟨_, rfl⟩
  rw [hTX] at hasm
  rw [hasm] at hrun
  dsimp only at hrun
  obtain ⟨T, hT⟩ : ∃ T : ByteArray, ⟨TX.toArray⟩ = T := ⟨_, rfl⟩
  have hTl : T.data.toList = TX := by rw [← hT]
  obtain ⟨⟨k1, r1⟩, ⟨k2, r2⟩, hTs, ha⟩ := hrun T hTl
  obtain ⟨O, hO⟩ : ∃ O : ByteArray, ⟨(zs.map UInt8.ofNat).toArray⟩ = O := ⟨_, rfl⟩
  have cF1 : ∀ W : World, Calls Tryd.prog 26 #[.slice (some ⟨W.heap.size, 0, none⟩) 1 1, .int .i64 o, .slice none 0 0, .int .i64 5000] (W.alloc (.cells #[.int .i64 o, .string T] 52)) fun e w' => e = .returned (.agg #[.string O, .int .i64 0, .int .i64 (k1 : Int)]) ∧ Below W.heap.size W w' := fun W =>
    (Run_own (txts_one W o T (fit_small o T (by omega) (by omega) (by omega))) (inp_none _) o 5000).mono fun e w' ⟨he, hb⟩ => ⟨by rw [he, r1]; unfold outV; dsimp only; rw [hO]; rfl, chain (boxed W _) hb⟩
  have cF2 : ∀ W : World, Calls Tryd.prog 26 #[.slice (some ⟨W.heap.size, 0, none⟩) 1 1, .int .i64 (a : Int), .slice none 0 0, .int .i64 5000] (W.alloc (.cells #[.int .i64 o, .string T] 52)) fun e w' => e = .returned (.agg #[.string O, .int .i64 0, .int .i64 (k2 : Int)]) ∧ Below W.heap.size W w' := fun W =>
    (Run_own (txts_one W o T (fit_small o T (by omega) (by omega) (by omega))) (inp_none _) (a : Int) 5000).mono fun e w' ⟨he, hb⟩ => ⟨by rw [he, r2]; unfold outV; dsimp only; rw [hO]; rfl, chain (boxed W _) hb⟩
  have hcv := fun W (hb : Below w.heap.size w W) => by
    have := conv_by (P := Tryd.prog) (dst := 9) Tryd.underlying43 Tryd.underlying5 Tryd.underlying9 (hz.below hb)
    rw [hO] at this
    exact this
  have cA : ∀ (S : ByteArray) (W : World), S.data.toList = jsrc x.data.toList (zs.map UInt8.ofNat) → Laid W → Calls Tryd.prog 12 #[.string S, .int .i64 o] W fun e w' => ∃ (A : Option Addr) (cap : Nat), e = .returned (.tuple #[.string T, .slice A 1 cap, .int .i64 0, .int .i64 0]) ∧ IsPs w' A 1 cap [(start, (a : Int))] ∧ Below W.heap.size W w' := fun S W hS hW => by
    have hSs : S.size ≤ 20000 := by
      have h1 := litT_len (zs.map UInt8.ofNat)
      have h2 := congrArg List.length hS
      unfold jsrc at h2
      simp only [List.length_append, List.length_cons, List.length_nil] at h2
      have h3 : S.data.toList.length = S.size := by simp
      omega
    have h := Assemble_use S hSs o W hW
    rw [hS, hasm] at h
    dsimp only at h
    rw [hT] at h
    exact h
  have hread := Lib.hid (fun (k : Nat) (hk : k < n) => hz.read hk)
  have hlit : ∀ k, k < n → (zs.map UInt8.ofNat).take (k + 1) = (zs.map UInt8.ofNat).take k ++ [UInt8.ofNat (zs.getD k 0)] := fun k hk => by
    have hk2 : k < (zs.map UInt8.ofNat).length := by omega
    have hk3 : k < zs.length := by have := hz.len; omega
    rw [List.take_succ_eq_append_getElem hk2]
    simp [List.getD_eq_getElem?_getD, List.getElem?_eq_getElem hk3]
  obtain ⟨l, hl⟩ : ∃ l, zs.map UInt8.ofNat = l := ⟨_, rfl⟩
  rw [hl] at cA hlit hll
  have hlt2 : l.take n = l := List.take_of_length_le (by omega)
  obtain ⟨P0, hP0⟩ : ∃ P : ByteArray, (⟨#[48, 32, 38, 115, 116, 97, 114, 116, 32, 63, 32]⟩ : ByteArray) ++ x = P := ⟨_, rfl⟩
  have hP0s : P0.size ≤ 111 := by
    rw [← hP0, ByteArray.size_append]
    have : (ByteArray.mk #[48, 32, 38, 115, 116, 97, 114, 116, 32, 63, 32]).size = 11 := rfl
    omega
  obtain ⟨P1, hP1⟩ : ∃ P : ByteArray, P0 ++ ⟨#[32, 115, 116, 97, 114, 116, 58, 32]⟩ = P := ⟨_, rfl⟩
  have hP1l : P1.data.toList = [48, 32, 38, 115, 116, 97, 114, 116, 32, 63, 32] ++ x.data.toList ++ [32, 115, 116, 97, 114, 116, 58, 32] := by
    rw [← hP1, ← hP0]
    simp
  have z1 : (x.size : Int) ≤ 100 := by omega
  have z2 : (P0.size : Int) ≤ 111 := by omega
  have a0 : (0 : Int) ≤ (a : Int) := by omega
  have a1 : (a : Int) ≤ 262144 := by omega
  have hOO : (O.toList == O.toList) = true := by simp
  have hjs : ∀ S : ByteArray, S.data.toList = P1.data.toList ++ litT (l.take n) → (S ++ ⟨#[36]⟩).data.toList = jsrc x.data.toList l := fun S hS => by
    rw [hlt2] at hS
    rw [ByteArray.data_append, Array.toList_append, hS, hP1l]
    unfold jsrc
    rfl
  have hsz : ∀ (S : ByteArray) k, k ≤ n → S.data.toList = P1.data.toList ++ litT (l.take k) → S.size ≤ 600 := fun S k hk hS => by
    have h1 := litT_len (l.take k)
    rw [List.length_take] at h1
    have h2 := congrArg List.length hS
    rw [List.length_append, hP1l] at h2
    simp only [List.length_append, List.length_cons, List.length_nil] at h2
    have h3 : S.data.toList.length = S.size := by simp
    omega
  have hP1r : P1.data.toList = P1.data.toList ++ litT (l.take 0) := by simp [litT]
  have kn1 : (n : Int) ≤ 60 := by omega
  have kn0 : n ≤ 60 := by omega
  have oz0 : 0 ≤ o := by omega
  have oz1 : o ≤ 260144 := by omega
  replace cF1 := Lib.hid cF1
  replace cF2 := Lib.hid cF2
  replace hcv := Lib.hid hcv
  replace cA := Lib.hid cA
  replace hlit := Lib.hid hlit
  replace hjs := Lib.hid hjs
  replace hsz := Lib.hid hsz
  replace hP1r := Lib.hid hP1r
  clear h1 h2 h3 h4 hz hck hok hxn hll hJ hrun hasm hadd hTX hT hTl r1 r2 hTs ha hO hl hlt2 hP0s hP1l
  go_enter Tryd.func10, Tryd.ntmps10
  go_wp2_with fail
  refine (cC.out _).mono ?_
  rintro e w0 ⟨rfl, rfl⟩
  go_wp2
  go_loopw [9, 48] (fun sv iv wr => ∃ (k : Nat) (SP : ByteArray), sv = .string SP ∧ iv = .int .i64 (k : Int) ∧ k ≤ n ∧ Hid (SP.data.toList = P1.data.toList ++ litT (l.take k)) ∧ Hid (Below w0.heap.size w0 wr)) (fun _ iv _ => n - (intOf iv).toNat)
  case atStart => exact ⟨0, P1, rfl, rfl, Nat.zero_le _, hP1r, Lib.hid (Below.refl _ _)⟩
  case round =>
    obtain ⟨k, SP, rfl, rfl, hk, hSP, hb⟩ := hrel
    have hSPs := hsz.out SP k hk hSP.out
    have hLw := Lib.hid (hL.out.below hb.out)
    by_cases hlt : k < n
    · have dk : decide ((k : Int) < (n : Int)) = true := decide_eq_true (by omega)
      have k0 : (0 : Int) ≤ (k : Int) := by omega
      have k1 : (k : Int) < (n : Int) := by omega
      have k2 : (k : Int) ≤ 1000000 := by omega
      obtain ⟨b, ob, rfl, hbl, g0, hz8⟩ := hread.out k hlt
      have hst := hlit.out k hlt
      obtain ⟨z, hz⟩ : ∃ z, zs.getD k 0 = z := ⟨_, rfl⟩
      rw [hz] at g0 hz8 hst
      have g0 : wr.cell? ⟨b, ob + k, none⟩ = some (.int .u8 (z : Int)) := (hb.out.cell (p := ⟨b, ob + k, none⟩) hbl).trans g0
      have zw : IntKind.u32.wrap (z : Int) = (z : Int) := by rw [IntKind.wrap_u32]; omega
      have zw2 : (z : Int) % 4294967296 = (z : Int) := by omega
      have z0 : (0 : Int) ≤ (z : Int) := by omega
      have z8 : (z : Int) ≤ 255 := by omega
      have cL := lit_any z (by omega) wr hLw.out
      have hdz : (digs z).map UInt8.ofNat = dsc (UInt8.ofNat z) := by unfold dsc; rw [UInt8.toNat_ofNat_of_lt' (by show z < 256; omega)]
      rw [hdz] at cL
      obtain ⟨DZ, hDZ⟩ : ∃ D : ByteArray, ⟨(dsc (UInt8.ofNat z)).toArray⟩ = D := ⟨_, rfl⟩
      rw [hDZ] at cL
      have hDl : DZ.data.toList = dsc (UInt8.ofNat z) := by rw [← hDZ]
      have hDs : (DZ.size : Int) ≤ 3 := by
        have := (dsc_len (UInt8.ofNat z)).2
        rw [← hDl] at this
        have h3 : DZ.data.toList.length = DZ.size := by simp
        omega
      have hS2 := Lib.hid (show (SP ++ (DZ ++ ⟨#[32, 46, 32]⟩)).data.toList = P1.data.toList ++ litT (l.take (k + 1)) by
        rw [hst, litT_snoc, ByteArray.data_append, Array.toList_append, ByteArray.data_append, Array.toList_append, hSP.out, hDl, List.append_assoc])
      have hSPi : (SP.size : Int) ≤ 600 := by omega
      replace cL := Lib.hid cL
      clear hSP hread hlit hst hz hz8 hdz hDZ hDl hbl hLw hjs hsz hSPs cA hcv cF1 cF2
      go_wp2_with fail
      refine (cL.out).mono ?_
      rintro e w2 ⟨rfl, hb2⟩
      have hb3 := Lib.hid (chain hb.out hb2)
      clear hb hb2
      go_wp2
      go_roundw
      case rel => exact ⟨k + 1, _, rfl, by go_num, by omega, hS2, hb3⟩
      case measure => simp [intOf]; omega
    · obtain rfl : k = n := by omega
      have dk : decide ((k : Int) < (k : Int)) = false := decide_eq_false (by omega)
      have hSPi : (SP.size : Int) ≤ 600 := by omega
      have cA := Lib.hid (cA.out (SP ++ ⟨#[36]⟩) wr (hjs.out SP hSP.out) hLw.out)
      clear hSP hread hlit hLw hjs hsz
      go_wp2_with fail
      refine (cA.out).mono ?_
      rintro e w3 ⟨A3, p3, rfl, hI, hb3⟩
      have hb3 := Lib.hid (chain hb.out hb3)
      have hI := Lib.hid hI
      clear hb
      go_wp2_with fail
      refine (cF1.out _).mono ?_
      rintro e w4 ⟨rfl, hb4⟩
      have v1 := Blk.new w4 49 [.string O, .int .i64 0, .int .i64 (k1 : Int)]
      have x0 := v1.cell 0
      have x1 := v1.cell 1
      have hb5 := chain (chain hb3.out hb4) (boxed w4 (.cells [.string O, .int .i64 0, .int .i64 (k1 : Int)].toArray 49))
      have hb6 := chain hb4 (boxed w4 (.cells [.string O, .int .i64 0, .int .i64 (k1 : Int)].toArray 49))
      have hlt1 : w4.heap.size < (w4.alloc (.cells [.string O, .int .i64 0, .int .i64 (k1 : Int)].toArray 49)).heap.size := by simp
      obtain ⟨X1, hX1⟩ : ∃ X, w4.heap.size = X := ⟨_, rfl⟩
      obtain ⟨W1, hW1⟩ : ∃ W, w4.alloc (.cells #[.string O, .int .i64 0, .int .i64 (k1 : Int)] 49) = W := ⟨_, rfl⟩
      rw [show (w4.alloc (.cells [.string O, .int .i64 0, .int .i64 (k1 : Int)].toArray 49)) = W1 from hW1] at x0 x1 hb5 hb6 hlt1
      rw [hX1] at x0 x1 hlt1
      simp only [List.getElem?_cons_zero, List.getElem?_cons_succ] at x0 x1
      obtain ⟨TL, z, b3, o3, hT3, rfl, hbl3, g0, g1⟩ := hI.out.at (i := 0) (by decide)
      obtain ⟨rfl, rfl⟩ : start = TL ∧ (a : Int) = z := by
        simp at hT3
        exact hT3
      rw [show o3 + 0 * 2 + 1 = o3 + 1 by omega] at g1
      have g1 : W1.cell? ⟨b3, o3 + 1, none⟩ = some (.int .i64 (a : Int)) := (hb6.cell (p := ⟨b3, o3 + 1, none⟩) hbl3).trans g1
      have hbl4 : b3 < W1.heap.size := Nat.lt_of_lt_of_le hbl3 hb6.size
      have g2 : (W1.alloc (.cells #[.int .i64 o, .string T] 52)).cell? ⟨b3, o3 + 1, none⟩ = some (.int .i64 (a : Int)) := ((boxed W1 _).cell (p := ⟨b3, o3 + 1, none⟩) hbl4).trans g1
      replace hb5 := Lib.hid hb5
      replace x0 := Lib.hid x0
      replace x1 := Lib.hid x1
      replace hlt1 := Lib.hid hlt1
      have cF2 := Lib.hid (cF2.out W1)
      have hc3 : 1 ≤ p3 := hI.out.le
      clear v1 hb4 hb6 hI hT3 g0 cF1 cA hbl3 hbl4 g1
      go_wp2_with fail
      refine (cF2.out).mono ?_
      rintro e w5 ⟨rfl, hb7⟩
      have v2 := Blk.new w5 49 [.string O, .int .i64 0, .int .i64 (k2 : Int)]
      have y0 := v2.cell 0
      have y1 := v2.cell 1
      have hb8 := chain hb7 (boxed w5 (.cells [.string O, .int .i64 0, .int .i64 (k2 : Int)].toArray 49))
      obtain ⟨X2, hX2⟩ : ∃ X, w5.heap.size = X := ⟨_, rfl⟩
      obtain ⟨W2, hW2⟩ : ∃ W, w5.alloc (.cells #[.string O, .int .i64 0, .int .i64 (k2 : Int)] 49) = W := ⟨_, rfl⟩
      rw [show (w5.alloc (.cells [.string O, .int .i64 0, .int .i64 (k2 : Int)].toArray 49)) = W2 from hW2] at y0 y1 hb8
      rw [hX2] at y0 y1
      simp only [List.getElem?_cons_zero, List.getElem?_cons_succ] at y0 y1
      have x0 := (hb8.cell (p := ⟨X1, 0, none⟩) hlt1.out).trans x0.out
      have x1 := (hb8.cell (p := ⟨X1, 1, none⟩) hlt1.out).trans x1.out
      have hb9 := Lib.hid (chain hb5.out hb8)
      have hcv2 := hcv.out W2 hb9.out
      have cW4 := Lib.hid (cW.out W2 (hL.out.below hb9.out))
      clear v2 hb7 hb8 hb5 hlt1 hcv g2 hW1 hX1 cF2
      go_wp2_with fail
      refine (cW4.out).mono ?_
      rintro e w8 ⟨rfl, hb10⟩
      go_wp2
      first | go_ret | skip
      exact ⟨rfl, chain hb9.out hb10⟩
theorem row_jump (A : Option Addr) (n cap : Nat) (zs : List Int) (x : ByteArray) (o : Int) (w : World) (hL : Laid w) (hr : IsRow .u8 w A n cap zs) (hs : x.size ≤ 140737488351232) (q2 : (Lit.int .i64 o).wf = true) : Calls Tryd.prog 10 #[.slice A n cap, .string x, .int .i64 o] w fun e w' => e = .returned (.bool true) ∧ Below w.heap.size w w' := by
  obtain ⟨l, hl⟩ := IsBy.of_row hr
  exact walk_jump A n cap l x o w hL hl
end Go.Proofs.YthmgocjmfhpafaaDoor.A18
