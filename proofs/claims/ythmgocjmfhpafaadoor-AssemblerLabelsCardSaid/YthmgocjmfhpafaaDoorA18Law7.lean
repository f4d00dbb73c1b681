/- AssemblerLabels, walked. -/
import Derived.Test.YthmgocjmfhpafaaDoorA18Lib
import Derived.Test.YthmgocjmfhpafaaDoorA18Map
import Derived.Test.YthmgocjmfhpafaaDoorA18Met
import Derived.Test.YthmgocjmfhpafaaDoorA18Ref2
import Derived.Test.YthmgocjmfhpafaaDoorA18Own5
namespace Go.Proofs.YthmgocjmfhpafaaDoor.A18
set_option maxRecDepth 100000
open Go.RowKit Mem
open Go.Maps Go.WideMaps
open M17 (Laid Laid.below)
set_option linter.unusedVariables false
set_option linter.unusedSimpArgs false

theorem front_any {s : List UInt8} {a : Int} (H : AsmOk s a) (hsl : s.length ≤ 600) (k : Nat) (S : ByteArray) (hS : S.data.toList = sj (plw ((wof (toks s)).take k))) (w : World) (hL : Laid w) :
    Calls Tryd.prog 12 #[.string S, .int .i64 a] w fun e w' => ∃ (A : Option Addr) (m cap : Nat) (SF : ByteArray) (ln : Nat), e = .returned (.tuple #[.string SF, .slice A m cap, .int .i64 (ln : Int), .int .i64 0]) ∧ SF.size = (bld nul [] ((wof (toks s)).take k)).length ∧ Below w.heap.size w w' := by
  have hsz : S.size ≤ 20000 := by
    have h1 := met_sz s k
    rw [← hS] at h1
    have : S.data.toList.length = S.size := by simp
    omega
  obtain ⟨f1, f2⟩ := front_of H k
  rw [← hS] at f1 f2
  refine (Assemble_use S hsz a w hL).mono ?_
  rintro e w' ⟨A, cap, rfl, _, hb⟩
  rw [f1]
  exact ⟨A, _, cap, _, _, rfl, by rw [str_size, f2], hb⟩
theorem chainN' {B : Nat} {w w1 : World} (h : Below B w w1) (n : Nat) : Below B w (w1.drewN n) := ⟨h.os, h.tape, h.output, h.size, h.block⟩
theorem rep_eq {T : List UInt8} {S : ByteArray} (hS : S.data.toList = T) (h : 0 < S.size) : rep T = if S[0] = 38 then [48, 48, 48, 48, 48, 48] else T := by
  unfold rep
  rw [← hS, head_get S h]
  by_cases e : S[0] = 38
  · rw [if_pos e, if_pos (by rw [e])]
  · rw [if_neg e, if_neg (fun h => e (by injection h))]
theorem cat_sp {SP X : ByteArray} {l r : List UInt8} (h : SP.data.toList = l) (hx : X.data.toList = r) : (SP ++ (⟨#[32]⟩ ++ X)).data.toList = l ++ 32 :: r := by
  rw [ByteArray.data_append, Array.toList_append, ByteArray.data_append, Array.toList_append, h, hx]
  rfl
set_option maxHeartbeats 32000000 in
theorem walk_labels (s : ByteArray) (a : Int) (w : World) (hL : Laid w) (hs : s.size ≤ 140737488351232) :
    Calls Tryd.prog 5 #[.string s, .int .i64 a] w fun e w' => e = .returned (.bool true) ∧ Below w.heap.size w w' := by
  have cW := Lib.hid awake_any
  have hL := Lib.hid hL
  by_cases h1 : 600 < s.size
  · have d1 : decide ((600 : Int) < (s.size : Int)) = true := decide_eq_true (by omega)
    have cW1 := Lib.hid (cW.out w hL.out)
    clear h1
    go_enter Tryd.func5, Tryd.ntmps5
    go_wp2_with fail
    refine (cW1.out).mono ?_
    rintro e w1 ⟨rfl, hb1⟩
    go_wp2
    first | go_ret | skip
    exact ⟨rfl, hb1⟩
  have d1 : decide ((600 : Int) < (s.size : Int)) = false := decide_eq_false (by omega)
  have hsl : s.data.toList.length ≤ 600 := by have : s.data.toList.length = s.size := by simp
                                              omega
  have c1 := Assemble_use s (by omega) a
  have hx2 := (asm_len s.data.toList a).2
  by_cases he : (asm s.data.toList a).err = 0
  case neg =>
    obtain ⟨b1, b2⟩ := asm_bad he
    obtain ⟨x, hx⟩ : ∃ x, asm s.data.toList a = x := ⟨_, rfl⟩
    rw [hx] at c1 b1 b2 he
    obtain ⟨xt, xl, xn, xe⟩ := x
    dsimp only at c1 b1 b2 he
    subst b1 b2
    have c1 := fun W hW => show Calls Tryd.prog 12 #[.string s, .int .i64 a] W fun e w' => ∃ (A : Option Addr) (cap : Nat), e = .returned (.tuple #[.string ⟨#[]⟩, .slice A 0 cap, .int .i64 (xn : Int), .int .i64 (xe : Int)]) ∧ Below W.heap.size W w' from (c1 W hW).mono fun e w' ⟨A, cap, h1, _, h2⟩ => ⟨A, cap, h1, h2⟩
    have t1 : ((xe : Int) != 0) = true := bne_iff_ne.2 (by omega)
    have c1 := Lib.hid (c1 w hL.out)
    clear h1 hx2 hsl hx he
    go_enter Tryd.func5, Tryd.ntmps5
    go_wp2_with fail
    refine (c1.out).mono ?_
    rintro e w2 ⟨A2, p2, rfl, hb2⟩
    have hb2 := Lib.hid hb2
    have cW7 := Lib.hid (cW.out _ (hL.out.below hb2.out))
    go_wp2_with fail
    refine (cW7.out).mono ?_
    rintro e w8 ⟨rfl, hb8⟩
    go_wp2
    first | go_ret | skip
    exact ⟨rfl, chain hb2.out hb8⟩
  have H := asm_ok he
  have c3 := fun W => Words_any s (by omega) W
  have cA := front_any H hsl
  have hlab := fun k T N => met_lab H (k := k) (T := T) (N := N)
  have hF := met_F H
  have hdef := fun k T => met_def H (k := k) (T := T)
  have hnew := met_new H
  have hmsz := met_sz s.data.toList
  have hmfit := fun (k : Nat) (T : List UInt8) => met_fit (s := s.data.toList) (k := k) (T := T)
  have hcnt := met_cnt s.data.toList
  have hall := labels_all H
  have htl := text_len H
  have hwn := toks_le s.data.toList
  rw [← wof_len] at hwn
  have o0 := H.o0
  have o1 := H.o1
  obtain ⟨L, hLL⟩ : ∃ L, wof (toks s.data.toList) = L := ⟨_, rfl⟩
  rw [hLL] at c3 cA hlab hF hdef hnew hmsz hmfit hcnt hall htl hwn
  unfold WsP at c3
  obtain ⟨n, hn⟩ : ∃ n, L.length = n := ⟨_, rfl⟩
  rw [hn] at c3 hwn
  obtain ⟨x, hx⟩ : ∃ x, asm s.data.toList a = x := ⟨_, rfl⟩
  rw [hx] at c1 hlab hall htl hx2 he
  obtain ⟨xt, xl, xn, xe⟩ := x
  dsimp only at c1 hlab hall htl hx2 he
  subst he
  obtain ⟨SX, hSX⟩ : ∃ S : ByteArray, ⟨xt.toArray⟩ = S := ⟨_, rfl⟩
  rw [hSX] at c1
  have hXn : SX.size = xt.length := by rw [← hSX, str_size]
  obtain ⟨ll, hll⟩ : ∃ l, xl.length = l := ⟨_, rfl⟩
  rw [hll] at c1 hx2 hall
  have hLn : L.take n = L := List.take_of_length_le (by omega)
  have hXn2 : SX.size = (bld nul [] (L.take n)).length := by rw [hLn]; omega
  have hall2 : ll = (dfs (L.take n)).length := by rw [hLn]; exact hall
  have hltl : ∀ k T N, L[k]? = some T → defN T = some N → (dfs (L.take k)).length < ll := fun k T N h1 h2 => by
    have := (List.getElem?_eq_some_iff.1 (hlab k T N h1 h2)).1
    omega
  have hdup := metl_nodup hnew
  have hn6 : n ≤ 600 := by omega
  have hsz5 : ∀ k, (sj (plw (L.take k))).length ≤ 4800 := fun k => by have := hmsz k; omega
  have hfit5 : ∀ (k : Nat) (T : List UInt8), L[k]? = some T → T.length ≤ 4800 := fun k T h => by have := hmfit k T h; omega
  replace c1 := Lib.hid (c1 w hL.out)
  replace c3 := Lib.hid c3
  replace cA := Lib.hid cA
  replace hlab := Lib.hid hlab
  replace hF := Lib.hid hF
  replace hdef := Lib.hid hdef
  replace hnew := Lib.hid hnew
  replace hcnt := Lib.hid hcnt
  replace hltl := Lib.hid hltl
  replace hdup := Lib.hid hdup
  replace hsz5 := Lib.hid hsz5
  replace hfit5 := Lib.hid hfit5
  replace hXn2 := Lib.hid hXn2
  replace hall2 := Lib.hid hall2
  replace hn := Lib.hid hn
  clear h1 hx2 hsl hx hwn hLL hSX hXn hmsz hmfit H hLn hall htl hll
  have hmm := @run_makeMap Tryd.prog
  go_enter Tryd.func5, Tryd.ntmps5
  go_wp2_with fail
  refine (c1.out).mono ?_
  rintro e w2 ⟨A2, p2, rfl, hI2, hb2⟩
  replace hI2 := Lib.hid hI2
  replace hb2 := Lib.hid hb2
  go_wp2_with fail
  refine (c3.out _).mono ?_
  rintro e w5 ⟨v5, B5, rfl, hB5, hown5, hb5⟩
  obtain ⟨A5, p5, rfl, hI5⟩ := IsSt.of_own hown5 hn.out
  have hJ2 := hI2.out.below hb5
  have hg1 := Lib.hid (fun (k : Nat) (hk : k < n) => hI5.at hk)
  have hg2 := Lib.hid (fun (k : Nat) (hk : k < ll) => hJ2.at hk)
  have hle1 := hI5.le
  have hle2 := hJ2.le
  have hb5 := Lib.hid (chain hb2.out hb5)
  obtain ⟨B, hB⟩ : ∃ B, w5.heap.size = B := ⟨_, rfl⟩
  have q1 := World.ownsMap_made w5 Tryd.prog 9 (plainElem (H := Unit) Tryd.prog 3)
  rw [hB] at q1
  have q2 : Below B w5 (w5.alloc (.map #[] 0)) := by rw [← hB]; exact (Below.refl _ _).alloc (Nat.le_refl _) _
  replace q1 : Hid ((w5.alloc (.map #[] 0)).ownsMap Tryd.prog 9 (plainElem Tryd.prog 3) B 0 (mpD (metl L 0))) := Lib.hid q1
  replace q2 := Lib.hid q2
  have hB' := Lib.hid hB
  clear hI2 hI5 hJ2 hown5 hB5 c1 c3 hb2
  go_wp2
  go_loopw [10, 11, 52] (fun sv cv iv wr => ∃ (k c : Nat) (SP : ByteArray), sv = .string SP ∧ cv = .int .i64 (c : Int) ∧ iv = .int .i64 (k : Int) ∧ k ≤ n ∧ Hid (SP.data.toList = sj (plw (L.take k))) ∧ Hid (c = (dfs (L.take k)).length) ∧ Hid (wr.ownsMap Tryd.prog 9 (plainElem Tryd.prog 3) B k (mpD (metl L k))) ∧ Hid (Below B w5 wr)) (fun _ _ iv _ => n - (intOf iv).toNat)
  case atStart => exact ⟨0, 0, _, rfl, rfl, rfl, Nat.zero_le _, Lib.hid rfl, Lib.hid rfl, q1, q2⟩
  case round =>
    clear q1 q2 hmm
    obtain ⟨k, c, SP, rfl, rfl, rfl, hk, hSP, hc, hown, hb⟩ := hrel
    have hbw := Lib.hid (hb5.out.trans (hb.out.mono (by have := hb5.out.size; rw [← hB]; exact this)))
    have hLw := Lib.hid (hL.out.below hbw.out)
    have hSPn : SP.size ≤ 4800 := by
      have h1 := hsz5.out k
      rw [← hSP.out] at h1
      have : SP.data.toList.length = SP.size := by simp
      omega
    have hc6 : c ≤ 600 := by have := hcnt.out k; rw [← hc.out] at this; omega
    by_cases hlt : k < n
    · have dk : decide ((k : Int) < (n : Int)) = true := decide_eq_true (by omega)
      have k0 : (0 : Int) ≤ (k : Int) := by omega
      have k1 : (k : Int) < (n : Int) := by omega
      have k2 : (k : Int) ≤ 1000000 := by omega
      obtain ⟨T, b, o, hT, rfl, hbl, g0⟩ := hg1.out k hlt
      obtain ⟨hdT, hTne⟩ := hdef.out k T hT
      have hTf := hfit5.out k T hT
      unfold strV at g0
      obtain ⟨S, hS⟩ : ∃ S : ByteArray, ⟨T.toArray⟩ = S := ⟨_, rfl⟩
      have hST : S.data.toList = T := by rw [← hS]
      have hSz : S.size = T.length := by rw [← hS, str_size]
      rw [hS] at g0
      have g0 : wr.cell? ⟨b, o + k, none⟩ = some (.string S) := (hb.out.cell (p := ⟨b, o + k, none⟩) (by rw [← hB'.out]; exact hbl)).trans g0
      have hTp : 0 < T.length := List.length_pos_iff.2 hTne
      have hp : 0 < S.size := by omega
      have hpI : (0 : Int) < (S.size : Int) := by omega
      have hl := last_get S hp
      obtain ⟨J, hJ⟩ : ∃ J, S.size - 1 = J := ⟨_, rfl⟩
      have hJs : J < S.size := by omega
      have hl : S.data.toList.getLast? = some S[J] := by rw [hl]; simp only [hJ]
      have eJ : (S.size : Int) - 1 = (J : Int) := by omega
      have J0 : (0 : Int) ≤ (J : Int) := by omega
      have J1 : (J : Int) < (S.size : Int) := by omega
      have J2 : (J : Int) ≤ (S.size : Int) := by omega
      have J3 : J ≤ S.size := by omega
      have J4 : (J : Int) ≤ 4800 := by omega
      have z9 : (S.size : Int) ≤ 4800 := by omega
      have t58 := tst S[J] 58 (by decide)
      rw [show ((58 : Nat) : Int) = 58 from rfl, show UInt8.ofNat 58 = 58 from rfl] at t58
      rcases hd : defN T with _ | N
      · have hS2' := plw_no hT hd
        rw [rep_eq hST hp] at hS2'
        have hc2 := Lib.hid (show c = (dfs (L.take (k + 1))).length by rw [dfs_no hT hd]; exact hc.out)
        have hown2 := Lib.hid (show wr.ownsMap Tryd.prog 9 (plainElem Tryd.prog 3) B (k + 1) (mpD (metl L (k + 1))) by rw [metl_no hT hd]; exact hown.out.mono (by omega))
        have hb2 := hb
        rw [hd] at hdT
        have hmp := hdT
        have hcons : T = T.head hTne :: T.tail := (List.cons_head_tail hTne).symm
        have hhd : T.head hTne = S[0] := by
          have := head_get S hp
          rw [hST, List.head?_eq_some_head hTne] at this
          injection this
        rw [hhd] at hcons
        have hways := defT_no hcons (by rw [← hST]; exact hl) hdT
        rw [← hSz] at hways
        clear hhd
        have t38 := tst S[0] 38 (by decide)
        rw [show ((38 : Nat) : Int) = 38 from rfl, show UInt8.ofNat 38 = 38 from rfl] at t38
        have hS0 := Lib.hid (show ∀ q, (S[0] == 38) = q → sj (plw (L.take (k + 1))) = sj (plw (L.take k)) ++ 32 :: (if q = true then [48, 48, 48, 48, 48, 48] else T) from fun q hq => by
          rw [hS2']
          congr 2
          by_cases e : S[0] = 38
          · rw [if_pos e, ← hq, if_pos (by simpa using e)]
          · rw [if_neg e, ← hq, if_neg (by simpa using e)])
        clear hS2'
        have z8 : (SP.size : Int) ≤ 4800 := by omega
        obtain ⟨cj, hcj⟩ : ∃ x, S[J] = x := ⟨_, rfl⟩
        obtain ⟨c0, hc0⟩ : ∃ x, S[0] = x := ⟨_, rfl⟩
        rw [hcj] at t58 hways
        rw [hc0] at t38 hways hS0
        obtain ⟨y0, hy0⟩ : ∃ y, c0.toNat = y := ⟨_, rfl⟩
        rw [hy0] at t38 hways
        rcases h38 : (c0 == 38) with _ | _
        all_goals
          rw [h38] at t38
          have hS0 := hS0.out _ h38
          first
          | (rw [if_neg Bool.false_ne_true] at hS0
             have hS2 := Lib.hid (show (SP ++ (⟨#[32]⟩ ++ S)).data.toList = sj (plw (L.take (k + 1))) by rw [hS0]; exact cat_sp hSP.out hST))
          | (rw [if_pos rfl] at hS0
             have hS2 := Lib.hid (show (SP ++ (⟨#[32]⟩ ++ ⟨#[48, 48, 48, 48, 48, 48]⟩)).data.toList = sj (plw (L.take (k + 1))) by rw [hS0]; exact cat_sp hSP.out rfl))
          clear hS0
          by_cases z1 : 1 < S.size
          · have t1 : decide ((1 : Int) < (S.size : Int)) = true := decide_eq_true (by omega)
            rcases h58 : (cj == 58) with _ | _
            · rw [h58] at t58
              clear hg1 hg2 hlab hF hdef hnew hcnt hltl hdup hsz5 hfit5 cA hT hS hST hSz hTp hl hJ hd hdT hTf hTne hSP hc hown hb hbw hLw hXn2 hall2 hbl hmp h38 hways hcons h58
              go_wp2
              go_roundw
              case rel => exact ⟨k + 1, c, _, rfl, rfl, by go_num, by omega, hS2, hc2, hown2, hb2⟩
              case measure => simp [intOf]; omega
            · rw [h58] at t58
              by_cases z3 : 97 ≤ y0
              · have t3 : decide ((97 : Int) ≤ (y0 : Int)) = true := decide_eq_true (by omega)
                have t4 : decide ((y0 : Int) ≤ 122) = false := by
                  have : cj = 58 := by simpa using h58
                  exact decide_eq_false (by rcases hways with h | h | h | h; · omega
                                            · exact absurd this h
                                            · omega
                                            · omega)
                clear hg1 hg2 hlab hF hdef hnew hcnt hltl hdup hsz5 hfit5 cA hT hS hST hSz hTp hl hJ hd hdT hTf hTne hSP hc hown hb hbw hLw hXn2 hall2 hbl hmp h38 hways hcons h58
                go_wp2
                go_roundw
                case rel => exact ⟨k + 1, c, _, rfl, rfl, by go_num, by omega, hS2, hc2, hown2, hb2⟩
                case measure => simp [intOf]; omega
              · have t3 : decide ((97 : Int) ≤ (y0 : Int)) = false := decide_eq_false (by omega)
                clear hg1 hg2 hlab hF hdef hnew hcnt hltl hdup hsz5 hfit5 cA hT hS hST hSz hTp hl hJ hd hdT hTf hTne hSP hc hown hb hbw hLw hXn2 hall2 hbl hmp h38 hways hcons h58
                go_wp2
                go_roundw
                case rel => exact ⟨k + 1, c, _, rfl, rfl, by go_num, by omega, hS2, hc2, hown2, hb2⟩
                case measure => simp [intOf]; omega
          · have t1 : decide ((1 : Int) < (S.size : Int)) = false := decide_eq_false (by omega)
            clear hg1 hg2 hlab hF hdef hnew hcnt hltl hdup hsz5 hfit5 cA hT hS hST hSz hTp hl hJ hd hdT hTf hTne hSP hc hown hb hbw hLw hXn2 hall2 hbl hmp h38 hways hcons
            go_wp2
            go_roundw
            case rel => exact ⟨k + 1, c, _, rfl, rfl, by go_num, by omega, hS2, hc2, hown2, hb2⟩
            case measure => simp [intOf]; omega
      · obtain ⟨eT, hNm⟩ := def_some hd
        obtain ⟨c0, r0, eN, hlt0, _⟩ := name_parts hNm
        have hJN : J = N.length := by rw [eT, List.length_append] at hSz; simp only [List.length_cons, List.length_nil] at hSz; omega
        have hNp : 1 ≤ N.length := by rw [eN]; simp
        have t1 : decide ((1 : Int) < (S.size : Int)) = true := decide_eq_true (by omega)
        have hlast : S[J] = 58 := by
          rw [hST, eT, List.getLast?_append] at hl
          simp at hl
          exact hl.symm
        rw [show (S[J] == 58) = true by rw [hlast]; rfl] at t58
        have hfst : S[0] = c0 := by
          have := head_get S hp
          rw [hST, eT, eN] at this
          simp at this
          exact this.symm
        have hlt1 := hlt0
        unfold isLt at hlt1
        simp only [Bool.and_eq_true, decide_eq_true_eq] at hlt1
        rw [← hfst] at hlt1
        have t3 : decide ((97 : Int) ≤ (S[0].toNat : Int)) = true := decide_eq_true (by omega)
        have t4 : decide ((S[0].toNat : Int) ≤ 122) = true := decide_eq_true (by omega)
        have hdl : (S.extract 0 J).data.toList = N := by
          rw [ext_list, List.drop_zero, hST, hJN, eT, Nat.sub_zero, List.take_left']
          rfl
        have hlt2 := hltl.out k T N hT hd
        have hlabk := hlab.out k T N hT hd
        rw [← hc.out] at hlt2 hlabk
        have hcI : decide ((ll : Int) ≤ (c : Int)) = false := decide_eq_false (by omega)
        have c0' : (0 : Int) ≤ (c : Int) := by omega
        have c1' : (c : Int) < (ll : Int) := by omega
        obtain ⟨U, z, b1, o1', hU, rfl, hbl1, g1, g2⟩ := hg2.out c hlt2
        rw [hlabk] at hU
        injection hU with hU
        injection hU with hU1 hU2
        subst hU1
        unfold strV at g1
        obtain ⟨SN, hSN⟩ : ∃ SN : ByteArray, ⟨N.toArray⟩ = SN := ⟨_, rfl⟩
        have hSNe : S.extract 0 J = SN := by rw [← hSN]; exact (str_of _ _ hdl).symm
        rw [hSN] at g1
        have s1 : (SN.toList != SN.toList) = false := by simp
        have s2 : (SN.toList == SN.toList) = true := by simp
        have hFk := hF.out k
        have hnm := metl_not hd (hnew.out k T N hT hd)
        have hkey := Go.WideMaps.keyOf_string_mk (P := Tryd.prog) (k := 9) Tryd.underlying9 (s := S) (by unfold maxLen; omega)
        rw [hST] at hkey
        have hput := metl_def hT hd
        have hMs : mpD (metl L (k + 1)) = (mpD (metl L k)).put (.string T) (.lit (.int .i64 1)) := by rw [hput, mpD_snoc]
        have hMI := IsMp.mk hown.out (hdup.out k)
        have hS2 := Lib.hid (show SP.data.toList = sj (plw (L.take (k + 1))) by rw [plw_def hT hd]; exact hSP.out)
        have hc2 := Lib.hid (show c + 1 = (dfs (L.take (k + 1))).length by rw [dfs_def hT hd, ← hc.out])
        have cA := Lib.hid (cA.out k SP hSP.out wr hLw.out)
        have hkey := Lib.hid hkey
        have hMI := Lib.hid hMI
        have hMs := Lib.hid hMs
        have hLK := Lib.hid (show ∀ W, Below wr.heap.size wr W → (Instr.lookup 35 (.map (some B)) (.string S) false).run Tryd.prog W = .ok (.int .i64 0) W from fun W hW => by
          have h := hMI.out.lk W hW S (by omega)
          rwa [hST, look_not hnm] at h)
        obtain ⟨Fk, hFk2⟩ : ∃ f, (bld nul [] (L.take k)).length = f := ⟨_, rfl⟩
        rw [hFk2] at hU2 hFk cA
        have hbB := hb.out.size
        replace hb := Lib.hid hb.out
        clear hSz hJN hNp hSP hc hown hbw hLw hSN hdl hput hnm hlabk hT hd hdT hTf hTne hTp hS hlt0 hlt1 eT eN hNm hl hJ hlast hfst
        go_wp2_with fail
        refine (cA.out).mono ?_
        rintro e w3 ⟨A3, m3, p3, SF, ln3, rfl, hSF, hb3⟩
        have hbB2 : B ≤ wr.heap.size := by rw [← hB'.out]; exact hbB
        have hb1B : b1 < B := by rw [← hB'.out]; exact hbl1
        have g1 : w3.cell? ⟨b1, o1' + c * 2, none⟩ = some (.string SN) := (hb3.cell (p := ⟨b1, o1' + c * 2, none⟩) (by show b1 < _; omega)).trans ((hb.out.cell (p := ⟨b1, o1' + c * 2, none⟩) hb1B).trans g1)
        have g2 : w3.cell? ⟨b1, o1' + c * 2 + 1, none⟩ = some (.int .i64 z) := (hb3.cell (p := ⟨b1, o1' + c * 2 + 1, none⟩) (by show b1 < _; omega)).trans ((hb.out.cell (p := ⟨b1, o1' + c * 2 + 1, none⟩) hb1B).trans g2)
        have hZ : a + (SF.size : Int) = z := by rw [hSF]; exact hU2
        have eZ : IntKind.i64.wrap z = z := by rw [IntKind.wrap_i64]; omega
        have sZ : (z != z) = false := by simp
        have sZ2 : (z == z) = true := by simp
        have hlkq : ∀ q, (Instr.lookup 35 (.map (some B)) (.string S) false).run Tryd.prog (w3.drewN q) = .ok (.int .i64 0) (w3.drewN q) := fun q => hLK.out _ (chainN hb3 q)
        have hM3 := Lib.hid (fun q => (hMI.out.below (chainN hb3 q)).own)
        have hb3w := Lib.hid (fun q => show Below B w5 (w3.drewN q) from chainN' (hb.out.trans (hb3.mono hbB2)) q)
        have hbS3 := Lib.hid (fun q => show B ≤ (w3.drewN q).heap.size from Nat.le_trans hbB2 hb3.size)
        have hlk0 := hlkq 0
        have eWJ : IntKind.i64.wrap (J : Int) = (J : Int) := by rw [IntKind.wrap_i64]; omega
        clear hb3 hU2 hSF hMI hLK hb hdup hnew
        go_wp2
        go_quiet (fail)
        rename_i nq _
        have hownX := hM3.out nq
        have hlkn := hlkq nq
        go_wp2_with (at_mapUpdate; refine wpList_mapUpdate_own _ rfl _ _ _ 35 rfl 9 3 law Tryd.underlying35 _ B k _ rfl hownX (by unfold maxLen; omega) _ _ _ rfl rfl hkey.out _ [] (plainElem_int Tryd.underlying3 (WalkArith.wf_i64 (by omega))) ?_; intro w6 hown6 hgr6)
        have hb6 := Lib.hid ((hb3w.out nq).grown hgr6 (hbS3.out nq) (fun j hj => by cases hj; exact Nat.le_refl _))
        rw [← hMs.out] at hown6
        replace hown6 := Lib.hid hown6
        clear hgr6 hownX hM3 hb3w hbS3 hlkq hlk0 hlkn
        go_wp2
        go_roundw
        case rel => exact ⟨k + 1, c + 1, SP, rfl, by go_num, by go_num, by omega, hS2, hc2, hown6, hb6⟩
        case measure => simp [intOf]; omega
    · obtain rfl : k = n := by omega
      have dk : decide ((k : Int) < (k : Int)) = false := decide_eq_false (by omega)
      have cA := Lib.hid (cA.out k SP hSP.out wr hLw.out)
      obtain rfl : c = ll := hc.out.trans hall2.out.symm
      have tc : ((c : Int) == (c : Int)) = true := by simp
      clear hg1 hg2 hlab hF hdef hnew hcnt hltl hdup hsz5 hfit5 hSP hc hown hb hLw hall2
      go_wp2_with fail
      refine (cA.out).mono ?_
      rintro e w3 ⟨A3, m3, p3, SF, ln3, rfl, hSF, hb3⟩
      have hb4 := Lib.hid (chain hbw.out hb3)
      have t1 : ((SF.size : Int) == (SX.size : Int)) = true := by rw [hSF, hXn2.out]; simp
      have cW4 := Lib.hid (cW.out w3 (hL.out.below hb4.out))
      clear hSF hXn2 hb3 hbw cA
      go_wp2_with fail
      refine (cW4.out).mono ?_
      rintro e w8 ⟨rfl, hb8⟩
      go_wp2
      first | go_ret | skip
      exact ⟨rfl, chain hb4.out hb8⟩
theorem row_labels (s : ByteArray) (a : Int) (w : World) (hL : Laid w) (hs : s.size ≤ 140737488351232) (q1 : (Lit.int .i64 a).wf = true) : Calls Tryd.prog 5 #[.string s, .int .i64 a] w fun e w' => e = .returned (.bool true) ∧ Below w.heap.size w w' := walk_labels s a w hL hs
end Go.Proofs.YthmgocjmfhpafaaDoor.A18
