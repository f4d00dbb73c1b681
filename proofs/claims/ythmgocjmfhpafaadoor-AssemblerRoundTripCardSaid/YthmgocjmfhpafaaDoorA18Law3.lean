/- AssemblerRoundTrip, walked. -/
import Derived.Test.YthmgocjmfhpafaaDoorA18Lib
import Derived.Shelf.Strings.SlTrimAscii
namespace Go.Proofs.YthmgocjmfhpafaaDoor.A18
set_option maxRecDepth 100000
open Go.RowKit Mem
open M17 (Laid Laid.below)
set_option linter.unusedVariables false
set_option linter.unusedSimpArgs false

theorem asm_text (s : List UInt8) (o : Int) : (asm s o).text.length ≤ 8 * s.length := by
  by_cases h : (asm s o).err = 0
  · have H := asm_ok h
    rw [text_len H]
    have := bld_toks nul s (toks s).length
    rw [List.take_length] at this
    exact this
  · rw [(asm_bad h).1]
    simp
theorem dg_in : ∀ c : UInt8, isDg c = true → ([48, 49, 50, 51, 52, 53, 54, 55, 56, 57] : List UInt8).contains c = true := by
  intro c h
  have := all8 (P := fun c => !isDg c || ([48, 49, 50, 51, 52, 53, 54, 55, 56, 57] : List UInt8).contains c) (by decide +kernel) c
  simpa [h] using this
theorem drop_all {p : UInt8 → Bool} : ∀ {l : List UInt8}, (∀ c ∈ l, p c = true) → l.dropWhile p = [] := by
  intro l
  induction l with
  | nil => intro _; rfl
  | cons c r ih => intro h; rw [List.dropWhile_cons_of_pos (h c (by simp)), ih fun d hd => h d (by simp [hd])]
theorem trim_digits (s : ByteArray) (hs : s.size ≤ 1000000) (hd : ∀ c ∈ s.data.toList, isDg c = true) (w : World) :
    Calls Tryd.prog 22 #[.string s, .string ⟨#[48, 49, 50, 51, 52, 53, 54, 55, 56, 57]⟩] w fun e w' => e = .returned (.string ⟨#[]⟩) ∧ Below w.heap.size w w' := by
  refine (Any.strings_Trim_laid Tryd.lays160 (by kernel_rfl) s ⟨#[48, 49, 50, 51, 52, 53, 54, 55, 56, 57]⟩ w (by omega) (by decide) (ascii_of_all (by decide))).mono fun e w' ⟨he, hb⟩ => ⟨?_, hb⟩
  have : Lib.trimS s.data.toList (ByteArray.mk #[48, 49, 50, 51, 52, 53, 54, 55, 56, 57]).data.toList = [] := by
    unfold Lib.trimS Lib.trimRightS Lib.trimLeftS
    rw [drop_all (l := s.data.toList.reverse) (fun c hc => dg_in c (hd c (by simpa using hc)))]
    rfl
  rw [he, this]
set_option maxHeartbeats 16000000 in
theorem walk_round (s : ByteArray) (a : Int) (w : World) (hL : Laid w) (hs : s.size ≤ 140737488351232) :
    Calls Tryd.prog 8 #[.string s, .int .i64 a] w fun e w' => e = .returned (.bool true) ∧ Below w.heap.size w w' := by
  have cW := Lib.hid awake_any
  have hL := Lib.hid hL
  by_cases h1 : 600 < s.size
  · have dh1 : decide ((600 : Int) < (s.size : Int)) = true := decide_eq_true (by omega)
    have cW1 := Lib.hid (cW.out w hL.out)
    clear h1
    go_enter Tryd.func8, Tryd.ntmps8
    go_wp2_with fail
    refine (cW1.out).mono ?_
    rintro e w1 ⟨rfl, hb1⟩
    go_wp2
    first | go_ret | skip
    exact ⟨rfl, hb1⟩
  have dh1 : decide ((600 : Int) < (s.size : Int)) = false := decide_eq_false (by omega)
  by_cases h2 : a < 0
  · have dh2 : decide (a < 0) = true := decide_eq_true (by omega)
    have cW1 := Lib.hid (cW.out w hL.out)
    clear h1 h2
    go_enter Tryd.func8, Tryd.ntmps8
    go_wp2_with fail
    refine (cW1.out).mono ?_
    rintro e w1 ⟨rfl, hb1⟩
    go_wp2
    first | go_ret | skip
    exact ⟨rfl, hb1⟩
  have dh2 : decide (a < 0) = false := decide_eq_false (by omega)
  by_cases h4 : 262144 ≤ a
  · have dh4 : decide (262144 ≤ a) = true := decide_eq_true (by omega)
    have cW1 := Lib.hid (cW.out w hL.out)
    clear h1 h2 h4
    go_enter Tryd.func8, Tryd.ntmps8
    go_wp2_with fail
    refine (cW1.out).mono ?_
    rintro e w1 ⟨rfl, hb1⟩
    go_wp2
    first | go_ret | skip
    exact ⟨rfl, hb1⟩
  have dh4 : decide (262144 ≤ a) = false := decide_eq_false (by omega)
  have c1 := Assemble_use s (by omega) a
  have hrt := round_trip (s := s.data.toList) (o := a)
  have hx1 := asm_text s.data.toList a
  have hsl : s.data.toList.length ≤ 600 := by have : s.data.toList.length = s.size := by simp
                                              omega
  obtain ⟨x, hx⟩ : ∃ x, asm s.data.toList a = x := ⟨_, rfl⟩
  rw [hx] at c1 hrt hx1
  by_cases he : x.err = 0
  · have hrt := hrt he
    obtain ⟨r1, r2, r3, r4, r5, r6⟩ := hrt
    rw [hx] at r1 r2 r3 r4 r5 r6
    obtain ⟨xt, xl, xn, xe⟩ := x
    dsimp only at c1 r1 r2 r3 r4 r5 r6 hx1 he
    subst he
    obtain ⟨SX, hSX⟩ : ∃ S : ByteArray, ⟨xt.toArray⟩ = S := ⟨_, rfl⟩
    have hXl : SX.data.toList = xt := by rw [← hSX]
    have hXn : SX.size = xt.length := by rw [← hSX, str_size]
    have c2 := fun W => Disassemble_any SX (by omega) W
    rw [hXl] at c2
    have hdl := dsm_len xt
    have hdt : (dsm xt).text.length ≤ 2 * xt.length := by
      unfold dsm
      split
      · simp
      · exact hdl
    obtain ⟨d, hd⟩ : ∃ d, dsm xt = d := ⟨_, rfl⟩
    rw [hd] at c2 hdt r1 r2 r3 r4 r5 r6
    obtain ⟨dt, de⟩ := d
    dsimp only at c2 r1 r2 r3 r4 r5 r6 hdt
    subst r1
    obtain ⟨SD, hSD⟩ : ∃ S : ByteArray, ⟨dt.toArray⟩ = S := ⟨_, rfl⟩
    have hDl : SD.data.toList = dt := by rw [← hSD]
    have hDn : SD.size = dt.length := by rw [← hSD, str_size]
    unfold DmP strV at c2
    dsimp only at c2
    rw [hSD] at c2
    have c3 := Assemble_use SD (by omega) a
    rw [hDl] at c3
    obtain ⟨y, hy⟩ : ∃ y, asm dt a = y := ⟨_, rfl⟩
    rw [hy] at c3 r3 r4 r5 r6
    obtain ⟨yt, yl, yn, ye⟩ := y
    dsimp only at c3 r3 r4 r5 r6
    subst r3 r4 r5 r6
    rw [hSX] at c1 c3
    have c4 := fun W => Words_any SD (by omega) W
    rw [hDl] at c4
    have hwl := toks_le dt
    rw [← wof_len] at hwl
    have hwf := toks_fit dt
    have hwz : ∀ v ∈ wof (toks dt), v.length ≤ 1000000 := fun v hv => by
      obtain ⟨t, ht, rfl⟩ := List.mem_map.1 hv
      have := hwf t ht
      omega
    obtain ⟨L, hLL⟩ : ∃ L, wof (toks dt) = L := ⟨_, rfl⟩
    rw [hLL] at c4 r2 hwl hwz
    obtain ⟨n, hn⟩ : ∃ n, L.length = n := ⟨_, rfl⟩
    unfold WsP at c4
    rw [hn] at c4
    have hnz : n ≤ 10000 := by omega
    have c1 := Lib.hid (c1 w hL.out)
    replace c2 := Lib.hid c2
    replace c3 := Lib.hid c3
    replace c4 := Lib.hid c4
    replace r2 := Lib.hid r2
    replace hwz := Lib.hid hwz
    replace hn := Lib.hid hn
    have s2 : (SX.toList == SX.toList) = true := by simp
    clear hLL hwf hwl hy hDl hDn hSD hd hdl hdt hXl hXn hSX hx1 hsl hx h1
    go_enter Tryd.func8, Tryd.ntmps8
    go_wp2_with fail
    refine (c1.out).mono ?_
    rintro e w1 ⟨A1, p1, rfl, hI1, hb1⟩
    have hb1 := Lib.hid hb1
    clear hI1
    go_wp2_with fail
    refine (c2.out _).mono ?_
    rintro e w2 ⟨rfl, hb2⟩
    have hb2 := Lib.hid (chain hb1.out hb2)
    have c3' := Lib.hid (c3.out w2 (hL.out.below hb2.out))
    clear hb1
    go_wp2_with fail
    refine (c3'.out).mono ?_
    rintro e w3 ⟨A3, p3, rfl, hI3, hb3⟩
    have hb3 := Lib.hid (chain hb2.out hb3)
    clear hI3 hb2
    go_wp2_with fail
    refine (c4.out _).mono ?_
    rintro e w4 ⟨v4, B4, rfl, hB4, hown4, hb4⟩
    obtain ⟨A4, p4, rfl, hI4⟩ := IsSt.of_own hown4 hn.out
    have hb4 := Lib.hid (chain hb3.out hb4)
    have hg4 := Lib.hid (fun (k : Nat) (hk : k < n) => hI4.at hk)
    have hc4 := hI4.le
    have hbs4 := hb4.out.size
    clear hI4 hown4 hB4 hb3
    go_wp2
    go_loopw [56] (fun iv wr => ∃ (k : Nat), iv = .int .i64 (k : Int) ∧ k ≤ n ∧ Hid (Below w4.heap.size w4 wr)) (fun iv _ => n - (intOf iv).toNat)
    case atStart => exact ⟨0, rfl, Nat.zero_le _, Lib.hid (Below.refl _ _)⟩
    case round =>
      obtain ⟨k, rfl, hk, hw⟩ := hrel
      by_cases hlt : k < n
      · have dk : decide ((k : Int) < (n : Int)) = true := decide_eq_true (by omega)
        have k0 : (0 : Int) ≤ (k : Int) := by omega
        have k1 : (k : Int) < (n : Int) := by omega
        have k2 : (k : Int) ≤ 1000000 := by omega
        obtain ⟨T, b1', o1, hT, rfl, hbl, g1⟩ := hg4.out k hlt
        have hT2 := r2.out T (List.mem_of_getElem? hT)
        have hTz := hwz.out T (List.mem_of_getElem? hT)
        unfold strV at g1
        obtain ⟨S, hS⟩ : ∃ S : ByteArray, ⟨T.toArray⟩ = S := ⟨_, rfl⟩
        have hSn : S.size = T.length := by rw [← hS, str_size]
        have hSl : S.data.toList = T := by rw [← hS]
        rw [hS] at g1
        have g1 : wr.cell? ⟨b1', o1 + k, none⟩ = some (.string S) := (hw.out.cell (p := ⟨b1', o1 + k, none⟩) hbl).trans g1
        by_cases hone : 1 < S.size
        · have u1 : decide ((1 : Int) < (S.size : Int)) = true := decide_eq_true (by omega)
          have cT := Lib.hid (trim_digits S (by omega) (by rw [hSl]; exact hT2.resolve_left (by omega)) wr)
          clear hT2 hTz hT hS hSn hSl hg4 r2 hwz hone hbl
          go_wp2_with fail
          refine (cT.out).mono ?_
          rintro e w5 ⟨rfl, hb5⟩
          have hw5 := Lib.hid (chain hw.out hb5)
          clear hb5
          go_wp2
          go_roundw
          case rel => exact ⟨k + 1, by go_num, by omega, hw5⟩
          case measure => simp [intOf]; omega
        · have u1 : decide ((1 : Int) < (S.size : Int)) = false := decide_eq_false (by omega)
          clear hT2 hTz hT hS hSn hSl hg4 r2 hwz hone hbl
          go_wp2
          go_roundw
          case rel => exact ⟨k + 1, by go_num, by omega, hw⟩
          case measure => simp [intOf]; omega
      · obtain rfl : k = n := by omega
        have dk : decide ((k : Int) < (k : Int)) = false := decide_eq_false (by omega)
        have hbw := Lib.hid (chain hb4.out hw.out)
        have cW4 := Lib.hid (cW.out wr (hL.out.below hbw.out))
        clear hg4 r2 hwz hw
        go_wp2_with fail
        refine (cW4.out).mono ?_
        rintro e w5 ⟨rfl, hb5⟩
        go_wp2
        first | go_ret | skip
        exact ⟨rfl, chain hbw.out hb5⟩
  · obtain ⟨xt, xl, xn, xe⟩ := x
    dsimp only at c1 he
    have t1 : ((xe : Int) != 0) = true := bne_iff_ne.2 (by omega)
    obtain ⟨SX, hSX⟩ : ∃ S : ByteArray, ⟨xt.toArray⟩ = S := ⟨_, rfl⟩
    rw [hSX] at c1
    have c1 := Lib.hid (c1 w hL.out)
    clear hrt hx1 hsl hx h1 hSX
    go_enter Tryd.func8, Tryd.ntmps8
    go_wp2_with fail
    refine (c1.out).mono ?_
    rintro e w1 ⟨A1, p1, rfl, hI1, hb1⟩
    have cW2 := Lib.hid (cW.out w1 (hL.out.below hb1))
    have hb1 := Lib.hid hb1
    clear hI1
    go_wp2_with fail
    refine (cW2.out).mono ?_
    rintro e w5 ⟨rfl, hb5⟩
    go_wp2
    first | go_ret | skip
    exact ⟨rfl, chain hb1.out hb5⟩
theorem row_round (s : ByteArray) (a : Int) (w : World) (hL : Laid w) (hs : s.size ≤ 140737488351232) (q1 : (Lit.int .i64 a).wf = true) : Calls Tryd.prog 8 #[.string s, .int .i64 a] w fun e w' => e = .returned (.bool true) ∧ Below w.heap.size w w' := walk_round s a w hL hs
end Go.Proofs.YthmgocjmfhpafaaDoor.A18
