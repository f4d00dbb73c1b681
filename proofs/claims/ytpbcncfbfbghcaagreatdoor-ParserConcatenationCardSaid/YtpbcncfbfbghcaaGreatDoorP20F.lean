/- The contracts of the landed Keywords, word, signLength, sign, first, gap (layer 19). The contracts of the landed first, gap, Tokens (layer 19). The contract of the landed Tokens (layer 19). The landed reader in memory: what its methods are told and hand back (layer 20). -/
import Derived.Test.YtpbcncfbfbghcaaGreatDoorP20E
import Derived.Lib.SlicesS
import Derived.Test.YtpbcncfbfbghcaaGreatDoorP20C
import Derived.Maps.AppendAt
import Derived.Lib.BufferOwn
import Derived.WalkLawsBesides
namespace Go.Proofs.YtpbcncfbfbghcaaGreatDoor.L19
set_option maxRecDepth 100000
open Go.RowKit Mem
open A18 (ba_get drop_get ext_list str_of)
open M17 (Laid Laid.below)
set_option linter.unusedVariables false
set_option linter.unusedSimpArgs false

/-- The keywords as strings. -/
def kwB : List ByteArray := [⟨#[97, 114, 114, 97, 121]⟩, ⟨#[101, 108, 115, 101]⟩, ⟨#[102, 117, 110, 99]⟩, ⟨#[104, 97, 108, 116]⟩, ⟨#[105, 102]⟩, ⟨#[114, 101, 116, 117, 114, 110]⟩, ⟨#[118, 97, 114]⟩, ⟨#[119, 104, 105, 108, 101]⟩]
def kwV : List Value := [.string ⟨#[97, 114, 114, 97, 121]⟩, .string ⟨#[101, 108, 115, 101]⟩, .string ⟨#[102, 117, 110, 99]⟩, .string ⟨#[104, 97, 108, 116]⟩, .string ⟨#[105, 102]⟩, .string ⟨#[114, 101, 116, 117, 114, 110]⟩, .string ⟨#[118, 97, 114]⟩, .string ⟨#[119, 104, 105, 108, 101]⟩]
theorem kw_has (s : ByteArray) : Lib.containsS (kwB.take 8) s = kws.contains s.data.toList := by
  rw [Bool.eq_iff_iff, Lib.containsS_iff, List.contains_iff_mem]
  have e : kws = kwB.map (fun x => x.data.toList) := rfl
  rw [e, List.mem_map, show kwB.take 8 = kwB from rfl]
  constructor
  · intro h; exact ⟨s, h, rfl⟩
  · rintro ⟨x, hx, e⟩
    have : x = s := by apply ByteArray.ext; exact Array.toList_inj.1 e
    rwa [← this]
set_option maxHeartbeats 4000000 in
theorem Keywords_any (w : World) : Calls Tryz.prog 122 #[] w fun e w' => e = .returned (.slice (some ⟨w.heap.size, 0, none⟩) 8 8) ∧ w' = w.alloc (.cells kwV.toArray 9) := by
  go_enter Tryz.func122, Tryz.ntmps122
  go_wp2
  first | go_ret | skip
  exact ⟨rfl, rfl⟩
theorem kw_cells {W : World} {g : Nat} (h : Blk 9 W g kwV) : ∀ j, j < kwB.length → W.cell? ⟨g, 0 + j, none⟩ = some (.string (kwB.getD j ByteArray.empty)) := by
  intro j hj
  rw [Nat.zero_add, h.cell]
  have hj : j < 8 := hj
  match j, hj with
  | 0, _ | 1, _ | 2, _ | 3, _ | 4, _ | 5, _ | 6, _ | 7, _ => rfl
theorem contains_any (s : ByteArray) {b : Bool} (hb : kws.contains s.data.toList = b) (g : Nat) (W : World) (h : Blk 9 W g kwV) : Calls Tryz.prog 121 #[.slice (some ⟨g, 0, none⟩) 8 8, .string s] W fun e w' => e = .returned (.bool b) ∧ w' = W := by
  have := Tryz.slices_Contains_string g 0 8 8 kwB s W (by decide) (by decide) (kw_cells h)
  rwa [kw_has, hb] at this
theorem kw_new (w : World) (a b : Obj) : Blk 9 (((w.alloc a).alloc b).alloc (.cells kwV.toArray 9)).drew (w.heap.size + 1 + 1) kwV := by
  have := Blk.new ((w.alloc a).alloc b) 9 kwV
  rwa [World.size_alloc, World.size_alloc] at this
theorem three_end (w : World) (l : List Value) (a b : Obj) : Blk 39 (((w.alloc (.cells l.toArray 39)).alloc a).alloc b).drew w.heap.size l ∧ Below w.heap.size w (((w.alloc (.cells l.toArray 39)).alloc a).alloc b).drew := by
  have h0 := Blk.new w 39 l
  have b0 := boxed w (.cells l.toArray 39)
  have b1 := boxed (w.alloc (.cells l.toArray 39)) a
  have b2 := boxed ((w.alloc (.cells l.toArray 39)).alloc a) b
  exact ⟨((h0.below b1).below b2 : Blk _ (((w.alloc (.cells l.toArray 39)).alloc a).alloc b) _ _), chainN (chain (chain b0 b1) b2) 1⟩
set_option maxHeartbeats 8000000 in
theorem word_any (s : ByteArray) (hs : s.size ≤ 1000000) (w : World) : Calls Tryz.prog 85 #[.string s] w fun e w' => e = .returned (fV (wrd s.data.toList)) ∧ Below w.heap.size w w' := by
  have hle := pre_le isNm s.data.toList
  rw [list_len] at hle
  have cP := Lib.hid (fun W => prefix_any word1_any ent_word1 s hs W)
  have hw : wrd s.data.toList = if 24 < pre isNm s.data.toList then bad 7 else good (wkind (s.data.toList.take (pre isNm s.data.toList))) (s.data.toList.take (pre isNm s.data.toList)) (pre isNm s.data.toList) := rfl
  obtain ⟨Z, hZ⟩ : ∃ Z, pre isNm s.data.toList = Z := ⟨_, rfl⟩
  rw [hZ] at cP hle hw
  have hb0 := Lib.hid (boxed w (.cells #[.int .i64 0, .string ⟨#[]⟩, .int .i64 0] 39))
  have hk0 := Lib.hid (Blk.new w 39 [.int .i64 0, .string ⟨#[]⟩, .int .i64 0])
  have Z0 : (0 : Int) ≤ (Z : Int) := by omega
  have Z1 : (Z : Int) ≤ (s.size : Int) := by omega
  clear hZ
  by_cases hbig : 24 < Z
  · rw [if_pos hbig] at hw
    have t1 : decide ((24 : Int) < (Z : Int)) = true := decide_eq_true (by omega)
    rw [hw]
    clear hw hbig
    go_enter Tryz.func85, Tryz.ntmps85
    go_wp2_with fail
    refine (cP.out _).mono ?_
    rintro e w1 ⟨rfl, rfl⟩
    go_wp2
    exact fst_ret (fn := Tryz.f85) (by rfl) rfl rfl rfl hk0.out ⟨rfl, hb0.out⟩
  · rw [if_neg hbig] at hw
    have t1 : decide ((24 : Int) < (Z : Int)) = false := decide_eq_false (by omega)
    have hx : (s.extract 0 Z).data.toList = s.data.toList.take Z := by rw [ext_list, List.drop_zero, Nat.sub_zero]
    have cK := Lib.hid Keywords_any
    rw [← hx] at hw
    have hG : ∀ k : Nat, fV (good k (s.extract 0 Z).data.toList Z) = .tuple #[.agg #[.int .i64 (k : Int), .string (s.extract 0 Z), .int .i64 0], .int .i64 (Z : Int), .int .i64 0] := fun k => by unfold fV good; dsimp only; rw [strV_of rfl]; rfl
    unfold wkind at hw
    obtain ⟨b, hb⟩ : ∃ b, kws.contains (s.extract 0 Z).data.toList = b := ⟨_, rfl⟩
    have cC := Lib.hid (fun g W h => contains_any (s.extract 0 Z) hb g W h)
    rw [hb] at hw
    rw [hw, hG]
    clear hw hG hb hbig hx hle
    cases b
    · go_enter Tryz.func85, Tryz.ntmps85
      go_wp2_with fail
      refine (cP.out _).mono ?_
      rintro e w1 ⟨rfl, rfl⟩
      go_wp2_with fail
      go_region_with (first | (go_at_call 122; (with_reducible refine (cK.out _).mono ?_); rintro e w9 ⟨rfl, rfl⟩) | (go_at_call 121; (refine (cC.out _ _ ?_).mono ?_); (· exact kw_new _ _ _); rintro e w8 ⟨rfl, rfl⟩))
      all_goals
        go_wp2
        exact fst_ret (fn := Tryz.f85) (by rfl) rfl rfl rfl (three_end w [.int .i64 2, .string (s.extract 0 Z), .int .i64 0] _ _).1 ⟨rfl, (three_end w [.int .i64 2, .string (s.extract 0 Z), .int .i64 0] _ _).2⟩
    · go_enter Tryz.func85, Tryz.ntmps85
      go_wp2_with fail
      refine (cP.out _).mono ?_
      rintro e w1 ⟨rfl, rfl⟩
      go_wp2_with fail
      go_region_with (first | (go_at_call 122; (with_reducible refine (cK.out _).mono ?_); rintro e w9 ⟨rfl, rfl⟩) | (go_at_call 121; (refine (cC.out _ _ ?_).mono ?_); (· exact kw_new _ _ _); rintro e w8 ⟨rfl, rfl⟩))
      all_goals
        go_wp2
        exact fst_ret (fn := Tryz.f85) (by rfl) rfl rfl rfl (three_end w [.int .i64 3, .string (s.extract 0 Z), .int .i64 0] _ _).1 ⟨rfl, (three_end w [.int .i64 3, .string (s.extract 0 Z), .int .i64 0] _ _).2⟩
/-! ### signs -/
def onB : ByteArray := ⟨#[60, 62, 94, 43, 45, 42, 47, 37, 33, 61, 40, 41, 123, 125, 91, 93, 44, 59]⟩
theorem idx_one (c : UInt8) : (ones.contains c = true → 0 ≤ Lib.indexByte ones c) ∧ (ones.contains c = false → Lib.indexByte ones c = -1) := by
  have h := all8 (P := fun c => if ones.contains c then decide (0 ≤ Lib.indexByte ones c) else decide (Lib.indexByte ones c = -1)) (by decide +kernel) c
  constructor
  · intro e; rw [e] at h; simpa using h
  · intro e; rw [e] at h; simpa using h
theorem sgl_one {s : ByteArray} (h : 0 < s.size) (h2 : s.size < 2 ∨ two.contains (s.extract 0 2).data.toList = false) : sgl s.data.toList = if ones.contains s[0] then 1 else 0 := by
  have hl := drop_get s 0 h
  rw [List.drop_zero] at hl
  have ht : two.contains (s.data.toList.take 2) = false := by
    rcases h2 with h2 | h2
    · have : ∀ x ∈ two, x.length = 2 := by decide
      rw [Bool.eq_false_iff]
      intro hc
      have := this _ (by simpa using hc)
      have h3 := List.length_take_le' 2 s.data.toList
      rw [list_len] at h3
      omega
    · rwa [ext_list, List.drop_zero, Nat.sub_zero] at h2
  unfold sgl
  rw [ht, if_neg (by simp)]
  conv => lhs; rw [hl]
  rfl
theorem sgl_two {s : ByteArray} (h2 : two.contains (s.extract 0 2).data.toList = true) : sgl s.data.toList = 2 := by
  rw [ext_list, List.drop_zero, Nat.sub_zero] at h2
  unfold sgl
  rw [if_pos h2]
set_option maxHeartbeats 8000000 in
theorem signLength_any (s : ByteArray) (hs : s.size ≤ 1000000) (h0 : 0 < s.size) (w : World) : Calls Tryz.prog 124 #[.string s] w fun e w' => e = .returned (.int .i64 (sgl s.data.toList : Int)) ∧ w = w' := by
  have n0 : (0 : Int) < (s.size : Int) := by omega
  have d0 : decide (0 < s.size) = true := decide_eq_true h0
  have cI := fun W => Tryz.strings_IndexByte ⟨#[60, 62, 94, 43, 45, 42, 47, 37, 33, 61, 40, 41, 123, 125, 91, 93, 44, 59]⟩ (s[0].toNat : Int) W
  rw [show ((s[0].toNat : Int)).toNat.toUInt8 = s[0] by simp] at cI
  rw [show (ByteArray.mk #[60, 62, 94, 43, 45, 42, 47, 37, 33, 61, 40, 41, 123, 125, 91, 93, 44, 59]).data.toList = ones from rfl] at cI
  obtain ⟨i1, i2⟩ := idx_one s[0]
  have hone := fun h2 => sgl_one (s := s) h0 h2
  have htwo := fun h2 => sgl_two (s := s) h2
  obtain ⟨K, hK⟩ : ∃ K, sgl s.data.toList = K := ⟨_, rfl⟩
  rw [hK] at hone htwo ⊢
  obtain ⟨c, hc⟩ : ∃ c, s[0] = c := ⟨_, rfl⟩
  rw [hc] at cI i1 i2 hone
  obtain ⟨x, hx⟩ : ∃ x : Int, Lib.indexByte ones c = x := ⟨_, rfl⟩
  rw [hx] at cI i1 i2
  have cI := Lib.hid cI
  obtain ⟨b, hb⟩ : ∃ b, ones.contains c = b := ⟨_, rfl⟩
  rw [hb] at i1 i2 hone
  have hx2 : decide ((0 : Int) ≤ x) = b := by
    cases b
    · rw [i2 rfl]; rfl
    · exact decide_eq_true (i1 rfl)
  clear i1 i2 hx hb hK
  by_cases h2 : 2 ≤ s.size
  · have t1 : decide ((2 : Int) ≤ (s.size : Int)) = true := decide_eq_true (by omega)
    have t2 : (2 : Int) ≤ (s.size : Int) := by omega
    have hcon : two.contains (s.extract 0 2).data.toList = ((s.extract 0 2).toList == [38, 38] || ((s.extract 0 2).toList == [124, 124] || ((s.extract 0 2).toList == [61, 61] || ((s.extract 0 2).toList == [33, 61] || ((s.extract 0 2).toList == [60, 61] || ((s.extract 0 2).toList == [62, 61] || false)))))) := by
      rw [str_toList]; unfold two; simp only [List.contains_cons, List.contains_nil]
    rw [hcon] at hone htwo
    clear hcon
    rcases q1 : ((s.extract 0 2).toList == [38, 38]) with _ | _
    rotate_left
    · rw [q1] at htwo
      obtain rfl := htwo rfl
      clear hone hx2 cI hc
      go_enter Tryz.func124, Tryz.ntmps124
      go_wp2
      first | go_ret | skip
      exact ⟨rfl, rfl⟩
    rcases q2 : ((s.extract 0 2).toList == [124, 124]) with _ | _
    rotate_left
    · rw [q1, q2] at htwo
      obtain rfl := htwo rfl
      clear hone hx2 cI hc
      go_enter Tryz.func124, Tryz.ntmps124
      go_wp2
      first | go_ret | skip
      exact ⟨rfl, rfl⟩
    rcases q3 : ((s.extract 0 2).toList == [61, 61]) with _ | _
    rotate_left
    · rw [q1, q2, q3] at htwo
      obtain rfl := htwo rfl
      clear hone hx2 cI hc
      go_enter Tryz.func124, Tryz.ntmps124
      go_wp2
      first | go_ret | skip
      exact ⟨rfl, rfl⟩
    rcases q4 : ((s.extract 0 2).toList == [33, 61]) with _ | _
    rotate_left
    · rw [q1, q2, q3, q4] at htwo
      obtain rfl := htwo rfl
      clear hone hx2 cI hc
      go_enter Tryz.func124, Tryz.ntmps124
      go_wp2
      first | go_ret | skip
      exact ⟨rfl, rfl⟩
    rcases q5 : ((s.extract 0 2).toList == [60, 61]) with _ | _
    rotate_left
    · rw [q1, q2, q3, q4, q5] at htwo
      obtain rfl := htwo rfl
      clear hone hx2 cI hc
      go_enter Tryz.func124, Tryz.ntmps124
      go_wp2
      first | go_ret | skip
      exact ⟨rfl, rfl⟩
    rcases q6 : ((s.extract 0 2).toList == [62, 61]) with _ | _
    rotate_left
    · rw [q1, q2, q3, q4, q5, q6] at htwo
      obtain rfl := htwo rfl
      clear hone hx2 cI hc
      go_enter Tryz.func124, Tryz.ntmps124
      go_wp2
      first | go_ret | skip
      exact ⟨rfl, rfl⟩
    rw [q1, q2, q3, q4, q5, q6] at hone
    replace hone := hone (.inr rfl)
    clear htwo
    cases b
    all_goals
      obtain rfl := hone
      go_enter Tryz.func124, Tryz.ntmps124
      go_wp2_with fail
      refine (cI.out _).mono ?_
      rintro e w1 ⟨rfl, rfl⟩
      go_wp2
      first | go_ret | skip
      exact ⟨rfl, rfl⟩
  · have t1 : decide ((2 : Int) ≤ (s.size : Int)) = false := decide_eq_false (by omega)
    replace hone := hone (.inl (by omega))
    clear htwo
    cases b
    · obtain rfl := hone
      go_enter Tryz.func124, Tryz.ntmps124
      go_wp2_with fail
      refine (cI.out _).mono ?_
      rintro e w1 ⟨rfl, rfl⟩
      go_wp2
      first | go_ret | skip
      exact ⟨rfl, rfl⟩
    · obtain rfl := hone
      go_enter Tryz.func124, Tryz.ntmps124
      go_wp2_with fail
      refine (cI.out _).mono ?_
      rintro e w1 ⟨rfl, rfl⟩
      go_wp2
      first | go_ret | skip
      exact ⟨rfl, rfl⟩
set_option maxHeartbeats 8000000 in
theorem sign_any (s : ByteArray) (hs : s.size ≤ 1000000) (h0 : 0 < s.size) (w : World) : Calls Tryz.prog 87 #[.string s] w fun e w' => e = .returned (fV (sgn s.data.toList)) ∧ Below w.heap.size w w' := by
  have cS := Lib.hid (fun W => signLength_any s hs h0 W)
  have hK : sgl s.data.toList = 0 ∨ (0 < sgl s.data.toList ∧ sgl s.data.toList ≤ s.size) := by
    by_cases h : sgl s.data.toList = 0
    · exact .inl h
    · refine .inr ⟨by omega, ?_⟩
      have hl := drop_get s 0 h0
      rw [List.drop_zero] at hl
      rw [hl] at h ⊢
      rcases sgl_cases s[0] (s.data.toList.drop 1) with ⟨d, r', e1, _, e⟩ | ⟨_, e⟩ | e
      · rw [e]
        have := congrArg List.length e1
        rw [List.length_drop, list_len, List.length_cons] at this
        omega
      · rw [e]; omega
      · exact absurd e h
  have hg : sgn s.data.toList = if sgl s.data.toList = 0 then bad 3 else good 4 (s.data.toList.take (sgl s.data.toList)) (sgl s.data.toList) := rfl
  obtain ⟨K, hKK⟩ : ∃ K, sgl s.data.toList = K := ⟨_, rfl⟩
  rw [hKK] at cS hK hg
  have hb0 := Lib.hid (boxed w (.cells #[.int .i64 0, .string ⟨#[]⟩, .int .i64 0] 39))
  have hk0 := Lib.hid (Blk.new w 39 [.int .i64 0, .string ⟨#[]⟩, .int .i64 0])
  clear hKK
  rcases hK with rfl | ⟨k0, k1⟩
  · rw [if_pos rfl] at hg
    rw [hg]
    clear hg
    go_enter Tryz.func87, Tryz.ntmps87
    go_wp2_with fail
    refine (cS.out _).mono ?_
    rintro e w1 ⟨rfl, rfl⟩
    go_wp2
    exact fst_ret (fn := Tryz.f87) (by rfl) rfl rfl rfl hk0.out ⟨rfl, hb0.out⟩
  · rw [if_neg (by omega)] at hg
    have t1 : ((K : Int) == 0) = false := beq_eq_false_iff_ne.2 (by omega)
    have K0 : (0 : Int) ≤ (K : Int) := by omega
    have K1 : (K : Int) ≤ (s.size : Int) := by omega
    have hx : (s.extract 0 K).data.toList = s.data.toList.take K := by rw [ext_list, List.drop_zero, Nat.sub_zero]
    rw [← hx] at hg
    have hG : fV (good 4 (s.extract 0 K).data.toList K) = .tuple #[.agg #[.int .i64 4, .string (s.extract 0 K), .int .i64 0], .int .i64 (K : Int), .int .i64 0] := by unfold fV good; dsimp only; rw [strV_of rfl]; rfl
    rw [hg, hG]
    have hbf := Lib.hid (boxed w (.cells #[.int .i64 4, .string (s.extract 0 K), .int .i64 0] 39))
    have hkf := Lib.hid (Blk.new w 39 [.int .i64 4, .string (s.extract 0 K), .int .i64 0])
    clear hg hG hx
    go_enter Tryz.func87, Tryz.ntmps87
    go_wp2_with fail
    refine (cS.out _).mono ?_
    rintro e w1 ⟨rfl, rfl⟩
    go_wp2
    exact fst_ret (fn := Tryz.f87) (by rfl) rfl rfl rfl hkf.out ⟨rfl, hbf.out⟩
end Go.Proofs.YtpbcncfbfbghcaaGreatDoor.L19
namespace Go.Proofs.YtpbcncfbfbghcaaGreatDoor.L19
set_option maxRecDepth 100000
open Go.RowKit Mem
open A18 (ba_get drop_get ext_list str_of)
open M17 (Laid Laid.below)
set_option linter.unusedVariables false
set_option linter.unusedSimpArgs false

theorem fst_at {s : ByteArray} (h : 0 < s.size) : fst s.data.toList = if isDg s[0] then num s.data.toList else if isLt s[0] then wrd s.data.toList else if s[0] == 39 then chr s.data.toList else sgn s.data.toList := by
  have hl := drop_get s 0 h
  rw [List.drop_zero] at hl
  rw [hl]
  rfl
set_option maxHeartbeats 8000000 in
theorem first_any (s : ByteArray) (hs : s.size ≤ 1000000) (h0 : 0 < s.size) (w : World) (hL : Laid w) : Calls Tryz.prog 56 #[.string s] w fun e w' => e = .returned (fV (fst s.data.toList)) ∧ Below w.heap.size w w' := by
  have n0 : (0 : Int) < (s.size : Int) := by omega
  have d0 : decide (0 < s.size) = true := decide_eq_true h0
  have hf := fst_at h0
  have c1 := isDigit_any s[0]
  have c2 := isSmall_any s[0]
  have t3 := tst s[0] 39 (by decide)
  rw [show ((39 : Nat) : Int) = 39 from rfl, show UInt8.ofNat 39 = 39 from rfl] at t3
  have hb0 := Lib.hid (boxed w (.cells #[.int .i64 0, .string ⟨#[]⟩, .int .i64 0] 39))
  have hk0 := Lib.hid (Blk.new w 39 [.int .i64 0, .string ⟨#[]⟩, .int .i64 0])
  have cN := number_any s hs (w.alloc (.cells #[.int .i64 0, .string ⟨#[]⟩, .int .i64 0] 39))
  have cW := word_any s hs (w.alloc (.cells #[.int .i64 0, .string ⟨#[]⟩, .int .i64 0] 39))
  have cC := character_any s hs h0 (w.alloc (.cells #[.int .i64 0, .string ⟨#[]⟩, .int .i64 0] 39)) (hL.below hb0.out)
  have cS := sign_any s hs h0 (w.alloc (.cells #[.int .i64 0, .string ⟨#[]⟩, .int .i64 0] 39))
  obtain ⟨c, hc⟩ : ∃ c, s[0] = c := ⟨_, rfl⟩
  rw [hc] at c1 c2 t3 hf
  obtain ⟨f, hff⟩ : ∃ f, fst s.data.toList = f := ⟨_, rfl⟩
  rw [hff] at hf ⊢
  have hfV : fV f = .tuple #[.agg #[.int .i64 (f.k : Int), .string ⟨f.T.toArray⟩, .int .i64 0], .int .i64 (f.m : Int), .int .i64 (f.e : Int)] := rfl
  clear hff hL
  rcases q1 : isDg c with _ | _ <;> rw [q1] at c1 hf <;> replace c1 := Lib.hid c1
  · rw [if_neg (by decide)] at hf
    rcases q2 : isLt c with _ | _ <;> rw [q2] at c2 hf <;> replace c2 := Lib.hid c2
    · rw [if_neg (by decide)] at hf
      rcases q3 : (c == 39) with _ | _ <;> rw [q3] at t3 hf
      · rw [if_neg (by decide)] at hf
        subst hf
        clear cN cW cC
        obtain ⟨k, m, e0, S, hV⟩ : ∃ (k m e0 : Int) (S : ByteArray), fV (sgn s.data.toList) = .tuple #[.agg #[.int .i64 k, .string S, .int .i64 0], .int .i64 m, .int .i64 e0] := ⟨_, _, _, _, hfV⟩
        clear hfV
        rw [hV] at cS ⊢
        replace cS := Lib.hid cS
        clear hV
        go_enter Tryz.func56, Tryz.ntmps56
        go_wp2_with fail
        refine (c1.out _).mono ?_
        rintro e w1 ⟨rfl, rfl⟩
        go_wp2_with fail
        refine (c2.out _).mono ?_
        rintro e w1 ⟨rfl, rfl⟩
        go_wp2_with fail
        refine (cS.out).mono ?_
        rintro e w1 ⟨rfl, hb1⟩
        have hk1 := hk0.out.below hb1
        have hb2 := hb0.out.trans (hb1.mono (by have := hk0.out.lt; omega))
        have hfin := Lib.hid (show Below w.heap.size w (((w1.setCell ⟨w.heap.size, 0, none⟩ (.int .i64 k)).setCell ⟨w.heap.size, 1, none⟩ (.string S)).setCell ⟨w.heap.size, 2, none⟩ (.int .i64 0)) from ((hb2.setCell (p := ⟨w.heap.size, 0, none⟩) (Nat.le_refl _) _).setCell (p := ⟨w.heap.size, 1, none⟩) (Nat.le_refl _) _).setCell (p := ⟨w.heap.size, 2, none⟩) (Nat.le_refl _) _)
        have hbk := Lib.hid (((hk1.set 0 (.int .i64 k)).set 1 (.string S)).set 2 (.int .i64 0))
        have k0 := hk1.frz 0
        have k1 := hk1.frz 1
        have k2 := hk1.frz 2
        have j0 := hk1.cell 0
        have j1 := hk1.cell 1
        have j2 := hk1.cell 2
        simp only [List.getElem?_cons_zero, List.getElem?_cons_succ] at j0 j1 j2
        clear hb1 hk1 hb2 hb0 hk0
        go_wp2
        exact fst_ret (fn := Tryz.f56) (by rfl) rfl rfl rfl hbk.out ⟨rfl, hfin.out⟩
      · rw [if_pos rfl] at hf
        subst hf
        clear cN cW cS
        obtain ⟨k, m, e0, S, hV⟩ : ∃ (k m e0 : Int) (S : ByteArray), fV (chr s.data.toList) = .tuple #[.agg #[.int .i64 k, .string S, .int .i64 0], .int .i64 m, .int .i64 e0] := ⟨_, _, _, _, hfV⟩
        clear hfV
        rw [hV] at cC ⊢
        replace cC := Lib.hid cC
        clear hV
        go_enter Tryz.func56, Tryz.ntmps56
        go_wp2_with fail
        refine (c1.out _).mono ?_
        rintro e w1 ⟨rfl, rfl⟩
        go_wp2_with fail
        refine (c2.out _).mono ?_
        rintro e w1 ⟨rfl, rfl⟩
        go_wp2_with fail
        refine (cC.out).mono ?_
        rintro e w1 ⟨rfl, hb1⟩
        have hk1 := hk0.out.below hb1
        have hb2 := hb0.out.trans (hb1.mono (by have := hk0.out.lt; omega))
        have hfin := Lib.hid (show Below w.heap.size w (((w1.setCell ⟨w.heap.size, 0, none⟩ (.int .i64 k)).setCell ⟨w.heap.size, 1, none⟩ (.string S)).setCell ⟨w.heap.size, 2, none⟩ (.int .i64 0)) from ((hb2.setCell (p := ⟨w.heap.size, 0, none⟩) (Nat.le_refl _) _).setCell (p := ⟨w.heap.size, 1, none⟩) (Nat.le_refl _) _).setCell (p := ⟨w.heap.size, 2, none⟩) (Nat.le_refl _) _)
        have hbk := Lib.hid (((hk1.set 0 (.int .i64 k)).set 1 (.string S)).set 2 (.int .i64 0))
        have k0 := hk1.frz 0
        have k1 := hk1.frz 1
        have k2 := hk1.frz 2
        have j0 := hk1.cell 0
        have j1 := hk1.cell 1
        have j2 := hk1.cell 2
        simp only [List.getElem?_cons_zero, List.getElem?_cons_succ] at j0 j1 j2
        clear hb1 hk1 hb2 hb0 hk0
        go_wp2
        exact fst_ret (fn := Tryz.f56) (by rfl) rfl rfl rfl hbk.out ⟨rfl, hfin.out⟩
    · rw [if_pos rfl] at hf
      subst hf
      clear cN cC cS
      obtain ⟨k, m, e0, S, hV⟩ : ∃ (k m e0 : Int) (S : ByteArray), fV (wrd s.data.toList) = .tuple #[.agg #[.int .i64 k, .string S, .int .i64 0], .int .i64 m, .int .i64 e0] := ⟨_, _, _, _, hfV⟩
      clear hfV
      rw [hV] at cW ⊢
      replace cW := Lib.hid cW
      clear hV
      go_enter Tryz.func56, Tryz.ntmps56
      go_wp2_with fail
      refine (c1.out _).mono ?_
      rintro e w1 ⟨rfl, rfl⟩
      go_wp2_with fail
      refine (c2.out _).mono ?_
      rintro e w1 ⟨rfl, rfl⟩
      go_wp2_with fail
      refine (cW.out).mono ?_
      rintro e w1 ⟨rfl, hb1⟩
      have hk1 := hk0.out.below hb1
      have hb2 := hb0.out.trans (hb1.mono (by have := hk0.out.lt; omega))
      have hfin := Lib.hid (show Below w.heap.size w (((w1.setCell ⟨w.heap.size, 0, none⟩ (.int .i64 k)).setCell ⟨w.heap.size, 1, none⟩ (.string S)).setCell ⟨w.heap.size, 2, none⟩ (.int .i64 0)) from ((hb2.setCell (p := ⟨w.heap.size, 0, none⟩) (Nat.le_refl _) _).setCell (p := ⟨w.heap.size, 1, none⟩) (Nat.le_refl _) _).setCell (p := ⟨w.heap.size, 2, none⟩) (Nat.le_refl _) _)
      have hbk := Lib.hid (((hk1.set 0 (.int .i64 k)).set 1 (.string S)).set 2 (.int .i64 0))
      have k0 := hk1.frz 0
      have k1 := hk1.frz 1
      have k2 := hk1.frz 2
      have j0 := hk1.cell 0
      have j1 := hk1.cell 1
      have j2 := hk1.cell 2
      simp only [List.getElem?_cons_zero, List.getElem?_cons_succ] at j0 j1 j2
      clear hb1 hk1 hb2 hb0 hk0
      go_wp2
      exact fst_ret (fn := Tryz.f56) (by rfl) rfl rfl rfl hbk.out ⟨rfl, hfin.out⟩
  · rw [if_pos rfl] at hf
    subst hf
    clear cW cC cS
    obtain ⟨k, m, e0, S, hV⟩ : ∃ (k m e0 : Int) (S : ByteArray), fV (num s.data.toList) = .tuple #[.agg #[.int .i64 k, .string S, .int .i64 0], .int .i64 m, .int .i64 e0] := ⟨_, _, _, _, hfV⟩
    clear hfV
    rw [hV] at cN ⊢
    replace cN := Lib.hid cN
    clear hV
    go_enter Tryz.func56, Tryz.ntmps56
    go_wp2_with fail
    refine (c1.out _).mono ?_
    rintro e w1 ⟨rfl, rfl⟩
    go_wp2_with fail
    refine (cN.out).mono ?_
    rintro e w1 ⟨rfl, hb1⟩
    have hk1 := hk0.out.below hb1
    have hb2 := hb0.out.trans (hb1.mono (by have := hk0.out.lt; omega))
    have hfin := Lib.hid (show Below w.heap.size w (((w1.setCell ⟨w.heap.size, 0, none⟩ (.int .i64 k)).setCell ⟨w.heap.size, 1, none⟩ (.string S)).setCell ⟨w.heap.size, 2, none⟩ (.int .i64 0)) from ((hb2.setCell (p := ⟨w.heap.size, 0, none⟩) (Nat.le_refl _) _).setCell (p := ⟨w.heap.size, 1, none⟩) (Nat.le_refl _) _).setCell (p := ⟨w.heap.size, 2, none⟩) (Nat.le_refl _) _)
    have hbk := Lib.hid (((hk1.set 0 (.int .i64 k)).set 1 (.string S)).set 2 (.int .i64 0))
    have k0 := hk1.frz 0
    have k1 := hk1.frz 1
    have k2 := hk1.frz 2
    have j0 := hk1.cell 0
    have j1 := hk1.cell 1
    have j2 := hk1.cell 2
    simp only [List.getElem?_cons_zero, List.getElem?_cons_succ] at j0 j1 j2
    clear hb1 hk1 hb2 hb0 hk0
    go_wp2
    exact fst_ret (fn := Tryz.f56) (by rfl) rfl rfl rfl hbk.out ⟨rfl, hfin.out⟩
-- END first
theorem slashes (l : List UInt8) : Lib.hasPrefix l [47, 47] = decide (l.take 2 = [47, 47]) := by
  unfold Lib.hasPrefix
  rw [Bool.eq_iff_iff, decide_eq_true_eq, List.isPrefixOf_iff_prefix, List.prefix_iff_eq_take]
  exact eq_comm
set_option maxHeartbeats 8000000 in
theorem gap_any (s : ByteArray) (hs : s.size ≤ 1000000) (w : World) : Calls Tryz.prog 54 #[.string s] w fun e w' => e = .returned (.int .i64 (gp s.data.toList : Int)) ∧ w = w' := by
  have cH := fun W => Tryz.strings_HasPrefix s ⟨#[47, 47]⟩ W
  rw [show (ByteArray.mk #[47, 47]).data.toList = [47, 47] from rfl, slashes] at cH
  have c1 := Lib.hid (fun W => prefix_any gap1_any ent_gap1 s hs W)
  have c2 := Lib.hid (fun W => prefix_any gap2_any ent_gap2 s hs W)
  unfold gp
  by_cases h : s.data.toList.take 2 = [47, 47]
  · rw [if_pos h]
    rw [decide_eq_true h] at cH
    obtain ⟨Z, hZ⟩ : ∃ Z, pre isLn s.data.toList = Z := ⟨_, rfl⟩
    rw [hZ] at c1 ⊢
    replace cH := Lib.hid cH
    clear h hZ c2
    go_enter Tryz.func54, Tryz.ntmps54
    go_wp2_with fail
    refine (cH.out _).mono ?_
    rintro e w1 ⟨rfl, rfl⟩
    go_wp2_with fail
    refine (c1.out _).mono ?_
    rintro e w1 ⟨rfl, rfl⟩
    go_wp2
    first | go_ret | skip
    exact ⟨rfl, rfl⟩
  · rw [if_neg h]
    rw [decide_eq_false h] at cH
    obtain ⟨Z, hZ⟩ : ∃ Z, pre isBl s.data.toList = Z := ⟨_, rfl⟩
    rw [hZ] at c2 ⊢
    replace cH := Lib.hid cH
    clear h hZ c1
    go_enter Tryz.func54, Tryz.ntmps54
    go_wp2_with fail
    refine (cH.out _).mono ?_
    rintro e w1 ⟨rfl, rfl⟩
    go_wp2_with fail
    refine (c2.out _).mono ?_
    rintro e w1 ⟨rfl, rfl⟩
    go_wp2
    first | go_ret | skip
    exact ⟨rfl, rfl⟩
end Go.Proofs.YtpbcncfbfbghcaaGreatDoor.L19
namespace Go.Proofs.YtpbcncfbfbghcaaGreatDoor.L19
set_option maxRecDepth 100000
open Go.RowKit Mem
open A18 (ba_get drop_get ext_list str_of own_none list_new)
open M17 (Laid Laid.below)
set_option linter.unusedVariables false
set_option linter.unusedSimpArgs false

theorem info_token : (Tryz.prog.info? 39).map (fun i => (i.zero, i.size, i.bytes)) = some (some (.agg #[.int .i64 0, .string ⟨#[]⟩, .int .i64 0]), 3, 32) := by kernel_rfl
set_option maxHeartbeats 8000000 in
theorem Tokens_any (s : ByteArray) (w : World) (hL : Laid w) : Calls Tryz.prog 19 #[.string s] w (TkP 39 (ans s.data.toList) w) := by
  have hn := list_len s
  by_cases hbig : 60000 < s.size
  · have t1 : decide ((60000 : Int) < (s.size : Int)) = true := decide_eq_true (by omega)
    have ha : ans s.data.toList = ([], 0, 6) := by unfold ans; rw [if_pos (by omega)]
    rw [ha]
    have hfin : TkP 39 ([], 0, 6) w (.returned (.tuple #[.slice none 0 0, .int .i64 0, .int .i64 6])) w := ⟨_, rfl, own_none w _ _ _, Below.refl _ _⟩
    replace hfin := Lib.hid hfin
    clear hL ha hn
    go_enter Tryz.func19, Tryz.ntmps19
    go_wp2
    exact bodyPost_ret (v := .tuple #[.slice none 0 0, .int .i64 0, .int .i64 6]) (by simp [results, Tryz.results19, go_sem]) rfl hfin.out
  · have t1 : decide ((60000 : Int) < (s.size : Int)) = false := decide_eq_false (by omega)
    have hsz : s.size ≤ 60000 := by omega
    obtain ⟨i0, hi, hz0, hz1, hz2⟩ := info_parts info_token
    have ha : ans s.data.toList = if (tk 1 s.data.toList).2.2 = 0 then ((tk 1 s.data.toList).1, 0, 0) else ([], (tk 1 s.data.toList).2) := by unfold ans; rw [if_neg (by omega)]
    rw [ha]
    obtain ⟨L, hLL⟩ : ∃ L, tk 1 s.data.toList = L := ⟨_, rfl⟩
    have hstart : L = addL [] (tk 1 (s.data.toList.drop 0)) := by rw [← hLL]; rfl
    rw [hLL]
    have cG := Lib.hid (fun (x : ByteArray) (hx : x.size ≤ 1000000) W => gap_any x hx W)
    have cF := Lib.hid (fun (x : ByteArray) (hx : x.size ≤ 1000000) (h0 : 0 < x.size) W (hL : Laid W) => first_any x hx h0 W hL)
    obtain ⟨P, hP⟩ : ∃ P, TkP 39 (if L.2.2 = 0 then (L.1, 0, 0) else ([], L.2)) w = P := ⟨_, rfl⟩
    have hgood : ∀ (v : Value) (acc : List Tok) (w' : World), w'.ownsRow w.heap.size 39 3 v acc.length (acc.flatMap enc3) → Below w.heap.size w w' → L = addL acc ([], 0, 0) → P (.returned (.tuple #[v, .int .i64 0, .int .i64 0])) w' := fun v acc w' h1 h2 h3 => by
      rw [← hP, h3]
      show TkP _ (if (0 : Nat) = 0 then (acc ++ [], 0, 0) else _) _ _ _
      rw [if_pos rfl, List.append_nil]
      exact ⟨v, rfl, h1, h2⟩
    have hbad : ∀ (acc : List Tok) (n e : Nat) (w' : World), Below w.heap.size w w' → L = addL acc ([], n, e) → e ≠ 0 → P (.returned (.tuple #[.slice none 0 0, .int .i64 (n : Int), .int .i64 (e : Int)])) w' := fun acc n e w' h2 h3 he => by
      rw [← hP, h3]
      show TkP _ (if e = 0 then _ else ([], n, e)) _ _ _
      rw [if_neg he]
      exact ⟨_, rfl, own_none w' _ _ _, h2⟩
    rw [hP]
    have o1 := own_none w w.heap.size 39 3
    replace hgood := Lib.hid hgood
    replace hbad := Lib.hid hbad
    replace hn := Lib.hid hn
    replace hstart := Lib.hid hstart
    replace o1 := Lib.hid o1
    replace hL := Lib.hid hL
    clear hP hLL ha hbig
    show Calls _ _ _ _ (fun e w' => P e w')
    go_enter Tryz.func19, Tryz.ntmps19
    go_wp2
    go_loopw [5, 6, 7] (fun tv nv iv wr => ∃ (k n : Nat) (v : Value) (acc : List Tok), v = tv ∧ nv = .int .i64 (n : Int) ∧ iv = .int .i64 (k : Int) ∧ k ≤ s.size ∧ acc.length ≤ k ∧ n ≤ k + 1 ∧ Hid (L = addL acc (tk n (s.data.toList.drop k))) ∧ Hid (wr.ownsRow w.heap.size 39 3 v acc.length (acc.flatMap enc3)) ∧ Hid (Below w.heap.size w wr)) (fun _ _ iv _ => s.size - (intOf iv).toNat)
    case atStart => exact ⟨0, 1, _, [], rfl, rfl, rfl, Nat.zero_le _, Nat.zero_le _, by omega, hstart, o1, Lib.hid (Below.refl _ _)⟩
    case round =>
      clear o1 hstart
      obtain ⟨k, n, v, acc, rfl, rfl, rfl, hk, hac, hnk, hrest, hrow, hb⟩ := hrel
      by_cases hlt : k < s.size
      · have dk : decide ((k : Int) < (s.size : Int)) = true := decide_eq_true (by omega)
        have k0 : (0 : Int) ≤ (k : Int) := by omega
        have k1 : (k : Int) ≤ (s.size : Int) := by omega
        have n0 : (0 : Int) ≤ (n : Int) := by omega
        have n1 : (n : Int) ≤ 60001 := by omega
        have k3 : (k : Int) ≤ 60000 := by omega
        have hxs : (s.extract k s.size).data.toList = s.data.toList.drop k := by
          rw [ext_list]
          exact List.take_of_length_le (by rw [List.length_drop, hn.out]; exact Nat.le_refl _)
        have hxz : (s.extract k s.size).size ≤ 1000000 := by rw [ByteArray.size_extract]; omega
        have hx0 : 0 < (s.extract k s.size).size := by rw [ByteArray.size_extract]; omega
        have c1 := cG.out (s.extract k s.size) hxz
        rw [hxs] at c1
        have hz2' : gp (s.data.toList.drop k) ≤ s.size - k := by have := gp_le (s.data.toList.drop k); rw [List.length_drop, hn.out] at this; exact this
        have hgap := tk_gap n (s.data.toList.drop k)
        have hdr := drop_get s k hlt
        obtain ⟨c, hcc⟩ : ∃ c, s[k] = c := ⟨_, rfl⟩
        rw [hcc] at hdr
        obtain ⟨Z, hZ⟩ : ∃ Z, gp (s.data.toList.drop k) = Z := ⟨_, rfl⟩
        rw [hZ] at c1 hz2' hgap
        by_cases hz : Z = 0
        · subst hz
          have hsta := gp_zero (c := c) (r := s.data.toList.drop (k + 1)) (by rw [← hdr]; exact hZ)
          have c2 := Lib.hid (fun W => Tryz.strings_Count_one ByteArray.empty 10 W)
          rw [show ByteArray.empty.data.toList = [] from rfl] at c2
          rw [show ((Lib.countByte [] 10 : Nat) : Int) = 0 from rfl] at c2
          have c3 := cF.out (s.extract k s.size) hxz hx0
          rw [hxs] at c3
          have c3 := c3 wr (hL.out.below hb.out)
          rw [hdr] at c3 hrest
          have hfl := fun h => fst_len (l := c :: s.data.toList.drop (k + 1)) h
          have hok := fun h => tk_tok n hsta h
          have hno := fun h => tk_bad n hsta h
          rw [← hdr, List.length_drop, hn.out] at hfl
          rw [← hdr] at hok hno c3 hrest
          obtain ⟨f, hff⟩ : ∃ f, fst (s.data.toList.drop k) = f := ⟨_, rfl⟩
          rw [hff] at c3 hfl hok hno
          obtain ⟨kd, S, T, hV, hST, hkd⟩ : ∃ (kd : Int) (S : ByteArray) (T : List UInt8), fV f = .tuple #[.agg #[.int .i64 kd, .string S, .int .i64 0], .int .i64 (f.m : Int), .int .i64 (f.e : Int)] ∧ (strV f.T = .string S) ∧ kd = (f.k : Int) := ⟨_, _, f.T, rfl, rfl, rfl⟩
          rw [hV] at c3
          replace c1 := Lib.hid c1
          replace c3 := Lib.hid c3
          clear hcc hZ hxs hgap cG cF hz2' hxz hx0 hL hdr hff hV hsta
          by_cases he : f.e = 0
          · obtain ⟨m1, m2⟩ := hfl he
            have hr2 : L = addL (acc ++ [(f.k, f.T, n)]) (tk n (s.data.toList.drop (k + f.m))) := by
              rw [hrest.out, hok he, addL_addL, List.drop_drop]
            rw [he] at c3
            have hsn := enc3_snoc acc (f.k, f.T, n)
            dsimp only at hsn
            rw [hST, ← hkd] at hsn
            have hal : (acc ++ [(f.k, f.T, n)]).length = acc.length + 1 := by rw [List.length_append]; rfl
            obtain ⟨acc2, hacc2⟩ : ∃ x, acc ++ [(f.k, f.T, n)] = x := ⟨_, rfl⟩
            rw [hacc2] at hr2 hsn hal
            obtain ⟨Z, hZ⟩ : ∃ Z, f.m = Z := ⟨_, rfl⟩
            rw [hZ] at hr2 c3 m1 m2
            obtain ⟨J, hJ⟩ : ∃ J, k + Z = J := ⟨_, rfl⟩
            rw [hJ] at hr2
            have eJ : (k : Int) + (Z : Int) = (J : Int) := by omega
            have hJs : J ≤ s.size := by omega
            have hJk : k < J := by omega
            have J0 : (0 : Int) ≤ (J : Int) := by omega
            have J1 : (J : Int) ≤ 60000 := by omega
            have Z0 : (0 : Int) ≤ (Z : Int) := by omega
            have Z1 : (Z : Int) ≤ 60000 := by omega
            rw [show ((0 : Nat) : Int) = 0 from rfl] at c3
            obtain ⟨acl, hacl⟩ : ∃ x, acc.length = x := ⟨_, rfl⟩
            rw [hacl] at hrow hac hal
            replace hr2 := Lib.hid hr2
            replace hsn := Lib.hid hsn
            replace hal := Lib.hid hal
            clear hno hok hfl hgood hbad hST hkd hrest hJ hZ hacc2 he hacl
            go_wp2_with fail
            refine (c1.out _).mono ?_
            rintro e w3 ⟨rfl, rfl⟩
            go_wp2_with fail
            refine (c2.out _).mono ?_
            rintro e w3 ⟨rfl, rfl⟩
            go_wp2_with fail
            refine (c3.out).mono ?_
            rintro e w4 ⟨rfl, hb4⟩
            have hro := own_below hrow.out hb4
            have hbo := chain hb.out hb4
            have hbs := hbo.size
            obtain ⟨X, hX⟩ : ∃ X, w4.heap.size = X := ⟨_, rfl⟩
            obtain ⟨wX, hwX⟩ : ∃ W, w4.alloc (.cells #[.int .i64 kd, .string S, .int .i64 (n : Int)] 39) = W := ⟨_, rfl⟩
            have hroX : wX.ownsRow w.heap.size 39 3 v acl (acc.flatMap enc3) := by rw [← hwX]; exact hro.alloc _
            have hboX : Below w.heap.size w wX := by rw [← hwX]; exact hbo.alloc hbs _
            have hkX : Blk 39 wX X [.int .i64 kd, .string S, .int .i64 (n : Int)] := by rw [← hwX, ← hX]; exact Blk.new w4 _ _
            have hbsX := hboX.size
            have j0 := hkX.cell 0
            have j1 := hkX.cell 1
            have j2 := hkX.cell 2
            simp only [List.getElem?_cons_zero, List.getElem?_cons_succ] at j0 j1 j2
            clear hrow hb hb4 hro hbo hbs hkX
            go_wp2_with (at_builtin; refine wpList_append_own _ rfl _ _ 35 rfl w.heap.size 39 i0 (.agg #[.int .i64 0, .string ⟨#[]⟩, .int .i64 0]) 3 32 Tryz.underlying35 hi hz0 hz1 hz2 rfl (by decide) _ _ _ rfl (hroX.alloc _) ⟨wX.heap.size, 0, none⟩ 1 1 [.int .i64 kd, .string S, .int .i64 (n : Int)] rfl rfl (list_new _ _ _) (three_tok _ _ _) (by unfold maxLen; omega) (by omega) (by simp; omega) ?_; intro v' w6 hown' hgrow _)
            have hb6 := (hboX.alloc hbsX _).grown hgrow (by simp; omega) (fun j hj => (hroX.lt j hj).1)
            rw [← hsn.out] at hown'
            clear hgrow hroX hboX
            go_wp2
            go_roundw
            case rel => exact ⟨J, n, _, acc2, rfl, rfl, by go_num, hJs, by rw [hal.out]; omega, by omega, hr2, Lib.hid (by rw [hal.out]; exact hown'), Lib.hid hb6⟩
            case measure => simp [intOf]; omega
          · have hend := hbad.out acc n f.e
            rw [hrest.out, hno he] at hend
            have t5 : ((f.e : Int) != 0) = true := bne_iff_ne.2 (by omega)
            obtain ⟨e0, he0⟩ : ∃ e0 : Int, (f.e : Int) = e0 := ⟨_, rfl⟩
            obtain ⟨m0, hm0⟩ : ∃ m0 : Int, (f.m : Int) = m0 := ⟨_, rfl⟩
            rw [he0] at t5 hend c3
            rw [hm0] at c3
            replace hend := Lib.hid (fun W h => hend W h rfl he)
            clear he0 hm0 hno hok hfl hgood hbad hST hkd hrest hrow
            go_wp2_with fail
            refine (c1.out _).mono ?_
            rintro e w3 ⟨rfl, rfl⟩
            go_wp2_with fail
            refine (c2.out _).mono ?_
            rintro e w3 ⟨rfl, rfl⟩
            go_wp2_with fail
            refine (c3.out).mono ?_
            rintro e w4 ⟨rfl, hb4⟩
            have hfin := Lib.hid (hend.out ((w4.alloc (.cells #[.int .i64 kd, .string S, .int .i64 0] 39))) (chain (chain hb.out hb4) (boxed _ _)))
            clear hend hb hb4
            go_wp2
            exact bodyPost_ret (v := .tuple #[.slice none 0 0, .int .i64 (n : Int), .int .i64 e0]) (by simp [results, Tryz.results19, go_sem]) rfl hfin.out
        · have hJ0 := ext_list s k (k + Z)
          rw [show k + Z - k = Z by omega] at hJ0
          have c2 := fun W => Tryz.strings_Count_one (s.extract k (k + Z)) 10 W
          rw [hJ0, show Lib.countByte ((s.data.toList.drop k).take Z) 10 = ((s.data.toList.drop k).take Z).count 10 from rfl] at c2
          have hC : ((s.data.toList.drop k).take Z).count 10 ≤ Z := Nat.le_trans List.count_le_length (List.length_take_le _ _)
          obtain ⟨C, hCC⟩ : ∃ C, ((s.data.toList.drop k).take Z).count 10 = C := ⟨_, rfl⟩
          rw [hCC] at c2 hC hgap
          obtain ⟨J, hJ⟩ : ∃ J, k + Z = J := ⟨_, rfl⟩
          obtain ⟨M, hM⟩ : ∃ M, n + C = M := ⟨_, rfl⟩
          rw [hJ] at c2
          rw [List.drop_drop, hJ, hM] at hgap
          have hr2 := Lib.hid (hrest.out.trans (by rw [hgap]) : L = addL acc (tk M (s.data.toList.drop J)))
          have t2 : ((Z : Int) == 0) = false := beq_eq_false_iff_ne.2 (by omega)
          have eJ : (k : Int) + (Z : Int) = (J : Int) := by omega
          have eM : (n : Int) + (C : Int) = (M : Int) := by omega
          have J0 : (0 : Int) ≤ (J : Int) := by omega
          have J1 : (J : Int) ≤ (s.size : Int) := by omega
          have J2 : (k : Int) ≤ (J : Int) := by omega
          have Z0 : (0 : Int) ≤ (Z : Int) := by omega
          have Z1 : (Z : Int) ≤ 60000 := by omega
          have C0 : (0 : Int) ≤ (C : Int) := by omega
          have C1 : (C : Int) ≤ 60000 := by omega
          have hJs : J ≤ s.size := by omega
          have hJk : k < J := by omega
          have hMJ : M ≤ J + 1 := by omega
          replace c1 := Lib.hid c1
          replace c2 := Lib.hid c2
          clear hcc hZ hxs hxz hx0 hgap cG cF hz2' hJ hM hCC hJ0 hC hdr hrest hL hgood hbad hz
          go_wp2_with fail
          refine (c1.out _).mono ?_
          rintro e w3 ⟨rfl, rfl⟩
          go_wp2_with fail
          refine (c2.out _).mono ?_
          rintro e w3 ⟨rfl, rfl⟩
          go_wp2
          go_roundw
          case rel => exact ⟨J, M, v, acc, rfl, by go_num, by go_num, hJs, by omega, hMJ, hr2, hrow, hb⟩
          case measure => simp [intOf]; omega
      · obtain rfl : k = s.size := by omega
        have dk : decide ((s.size : Int) < (s.size : Int)) = false := decide_eq_false (by omega)
        have hfin := Lib.hid (hgood.out v acc wr hrow.out hb.out (by rw [hrest.out, List.drop_of_length_le (by rw [hn.out]; exact Nat.le_refl _), tk_nil]))
        clear hrest hgood hbad cG cF hrow hb hL
        go_wp2
        exact bodyPost_ret (v := .tuple #[v, .int .i64 0, .int .i64 0]) (by simp [results, Tryz.results19, go_sem]) rfl hfin.out
end Go.Proofs.YtpbcncfbfbghcaaGreatDoor.L19
namespace Go.Proofs.YtpbcncfbfbghcaaGreatDoor.L20
set_option maxRecDepth 100000
open Go.RowKit Mem L19
set_option linter.unusedVariables false
set_option linter.unusedSimpArgs false

/-! ### Texts and kinds -/
theorem tk1_fun {k j : Nat} {T : Str} (h : Tk1 k T) (h' : Tk1 j T) : k = j := by
  have a := (form_fst h []).1
  have b := (form_fst h' []).1
  rw [a] at b
  exact congrArg F.k b
/-- A keyword or a sign. -/
def Ks (s : Str) : Prop := ∃ j, (j = 3 ∨ j = 4) ∧ Tk1 j s
theorem ks_one (c : UInt8) (h : ones.contains c = true) : Ks [c] := ⟨4, .inr rfl, .one c h⟩
theorem Ks.ne {s : Str} (h : Ks s) : s ≠ [] := by
  obtain ⟨j, _, h⟩ := h
  obtain ⟨c, q, rfl⟩ := tk1_ne h
  simp
theorem sg_text {s : Str} {ts : List Tk} (hg : Good ts) (hs : Ks s) : sg s ts = (tx ts == s) := by
  cases ts with
  | nil =>
    have := hs.ne
    cases s with
    | nil => exact absurd rfl this
    | cons c r => rfl
  | cons t r =>
    obtain ⟨k, T⟩ := t
    have ht := hg _ List.mem_cons_self
    obtain ⟨j, hj, h⟩ := hs
    show ((k == 4 || k == 3) && T == s) = (T == s)
    by_cases e : T = s
    · subst e
      have : k = j := tk1_fun ht h
      rcases hj with rfl | rfl <;> simp [this]
    · rw [show (T == s) = false from beq_eq_false_iff_ne.2 e, Bool.and_false]
/-- The token at a place; behind the last one an impossible one on its line. -/
def tokAt (l : List L19.Tok) (k : Nat) : L19.Tok := (l[k]?).getD (0, [], (l.getLast?.map (·.2.2)).getD 0)
theorem tokAt_tx (l : List L19.Tok) (k : Nat) : tx (at_ l k) = (tokAt l k).2.1 := by
  unfold tokAt
  cases e : l[k]? with
  | none => rw [at_end (List.getElem?_eq_none_iff.1 e)]; rfl
  | some t => obtain ⟨a, T, z⟩ := t; rw [at_cons e]; rfl
theorem tokAt_kd (l : List L19.Tok) (k : Nat) {j : Nat} (hj : j ≠ 0) : kd j (at_ l k) = ((tokAt l k).1 == j) := by
  unfold tokAt
  cases e : l[k]? with
  | none =>
    rw [at_end (List.getElem?_eq_none_iff.1 e)]
    exact (beq_eq_false_iff_ne.2 (by show (0 : Nat) ≠ j; omega)).symm
  | some t => obtain ⟨a, T, z⟩ := t; rw [at_cons e]; rfl
/-- The line that an error at a place is given. -/
def lnAt (l : List L19.Tok) (ts : List Tk) : Nat := lineAt l ts.length
theorem tokAt_line {l : List L19.Tok} {k : Nat} (h : k ≤ l.length) : (tokAt l k).2.2 = lnAt l (at_ l k) := by
  unfold lnAt
  rw [at_len l h, lineAt_at h]
  unfold tokAt
  cases l[k]? <;> rfl
theorem at_ne {l : List L19.Tok} {k : Nat} (h : at_ l k ≠ []) : k < l.length := by
  rcases Nat.lt_or_ge k l.length with h' | h'
  · exact h'
  · exact absurd (at_end h') h

theorem sg_nnil {s : Str} {ts : List Tk} (h : sg s ts = true) : ts ≠ [] := by rintro rfl; cases h
theorem kd_nnil {k : Nat} {ts : List Tk} (h : kd k ts = true) : ts ≠ [] := by rintro rfl; cases h

/-! ### The reader in memory -/
structure Lok (l : List L19.Tok) : Prop where
  good : Good (pairs l)
  ne : l ≠ []
  len : l.length ≤ 60000
  line : ∀ t ∈ l, t.2.2 ≤ 60001
theorem Lok.goodAt {l : List L19.Tok} (h : Lok l) (k : Nat) : Good (at_ l k) := h.good.suf (List.drop_suffix _ _)
structure RdS (base B : Nat) (l : List L19.Tok) (k o : Nat) (w : World) : Prop where
  box : ∃ (A : Option Addr) (n cap : Nat), Blk 63 w B [.slice A n cap, .int .i64 (k : Int), .int .i64 (o : Int)] ∧ IsTk w A n cap l ∧ ∀ a, A = some a → a.block ≠ B ∧ a.block < base
  low : B < base
  big : base ≤ w.heap.size
  ok : Lok l
  kn : k ≤ l.length
  o1 : o ≤ 100
/-- What a reading leaves alone: all blocks but the reader's. -/
abbrev Gr (B : Nat) (w w' : World) : Prop := w.grownBy w' (some B)
theorem Gr.refl (B : Nat) (w : World) : Gr B w w := World.grownBy.refl w _
theorem Gr.of_below {B : Nat} {w w' : World} (h : Below w.heap.size w w') : Gr B w w' := Lib.grownBy_below (World.grownBy.refl w _) h
theorem Gr.below {B : Nat} {w w1 w' : World} (h : Gr B w w1) (k : Below w1.heap.size w1 w') : Gr B w w' := Lib.grownBy_below h k
theorem below_drewB {n : Nat} {w w1 : World} (h : Below n w w1) : Below n w w1.drew := ⟨h.os, h.tape, h.output, h.size, h.block⟩
theorem Gr.drew {B : Nat} {w w1 : World} (h : Gr B w w1) : Gr B w w1.drew := ⟨h.os, h.tape, h.output, h.size, h.block⟩
theorem Gr.drewN {B : Nat} {w w1 : World} (h : Gr B w w1) (n : Nat) : Gr B w (w1.drewN n) := ⟨h.os, h.tape, h.output, h.size, h.block⟩
/-- A store into a block made since. -/
theorem Gr.set {B g i : Nat} {w w' : World} (h : Gr B w w') (hg : w.heap.size ≤ g) (v : Value) : Gr B w (w'.setCell ⟨g, i, none⟩ v) := by
  refine ⟨h.os, h.tape, h.output, by simpa using h.size, fun j hj hn => ?_⟩
  rw [Below.heap_setCell _ _ _ _ (by show j ≠ g; omega)]
  exact h.block j hj hn
theorem Gr.setB {B i : Nat} {w w' : World} (h : Gr B w w') (v : Value) : Gr B w (w'.setCell ⟨B, i, none⟩ v) := Lib.grownBy_setB h i v
theorem Gr.grow {B : Nat} {w w1 w' : World} (h : Gr B w w1) {row : Option Nat} (g : w1.grownBy w' row) (hr : ∀ j, row = some j → w.heap.size ≤ j) : Gr B w w' := by
  refine ⟨g.os.trans h.os, g.tape.trans h.tape, g.output.trans h.output, Nat.le_trans h.size g.size, fun j hj hn => ?_⟩
  rw [g.block j (Nat.lt_of_lt_of_le hj h.size) (fun e => by have := hr j e.symm; omega)]
  exact h.block j hj hn
theorem Gr.kept {B : Nat} {w w' : World} (h : Gr B w w') {F : Nat → Prop} (hF : ∀ b, F b → b ≠ B) : Kept F w w' := ⟨h.size, fun b hb hl => h.block b hl (fun e => hF b hb (by injection e))⟩
theorem Gr.keptN {B : Nat} {w w' : World} (h : Gr B w w') {n : Nat} (hn : B < n) : Kept (fun b => n ≤ b) w w' := h.kept fun b hb e => by omega
theorem Kept.set {F : Nat → Prop} (w : World) {g i : Nat} (h : ¬ F g) (v : Value) : Kept F w (w.setCell ⟨g, i, none⟩ v) := ⟨by simp, fun b hb hl => Below.heap_setCell _ _ _ _ (by show b ≠ g; rintro rfl; exact h hb)⟩
theorem Gr.blk {B : Nat} {w w' : World} (h : Gr B w w') {T : TypeId} {g : Nat} {cs : List Value} (hb : Blk T w g cs) (hg : g ≠ B) : Blk T w' g cs := (h.block g hb.lt (fun e => hg (by injection e))).trans hb
theorem Blk.other {T : TypeId} {W : World} {g : Nat} {cs : List Value} (h : Blk T W g cs) {g' i : Nat} (hg : g ≠ g') (v : Value) : Blk T (W.setCell ⟨g', i, none⟩ v) g cs := (Below.heap_setCell _ _ _ _ (by show g ≠ g'; exact hg)).trans h
section
variable {base B k o : Nat} {l : List L19.Tok} {w w' : World}
theorem RdS.lt (h : RdS base B l k o w) : B < w.heap.size := Nat.lt_of_lt_of_le h.low h.big
theorem RdS.below (h : RdS base B l k o w) (b : Below w.heap.size w w') : RdS base B l k o w' := by
  obtain ⟨A, n, cap, h1, h2, h3⟩ := h.box
  exact ⟨⟨A, n, cap, h1.below b, h2.below b, h3⟩, h.low, Nat.le_trans h.big b.size, h.ok, h.kn, h.o1⟩
theorem RdS.alloc (h : RdS base B l k o w) (x : Obj) : RdS base B l k o (w.alloc x) := h.below (boxed w x)
theorem RdS.set (h : RdS base B l k o w) {g : Nat} (hg : base ≤ g) (i : Nat) (v : Value) : RdS base B l k o (w.setCell ⟨g, i, none⟩ v) := by
  obtain ⟨A, n, cap, h1, h2, h3⟩ := h.box
  have hb := h.low
  refine ⟨⟨A, n, cap, Blk.other h1 (by omega) v, ⟨h2.len, h2.le, h2.capm, h2.nil, fun j hj => ?_⟩, h3⟩, h.low, by simpa using h.big, h.ok, h.kn, h.o1⟩
  obtain ⟨b, o', e, e1, e2⟩ := h2.rd j hj
  have := (h3 _ e).2
  exact ⟨b, o', e, by simpa using e1, (World.cell?_setCell_other _ _ _ _ (fun x => by injection x with x; have : b < base := this; omega)).trans e2⟩
/-- Another row grows. -/
theorem RdS.grow (h : RdS base B l k o w) {row : Option Nat} (g : w.grownBy w' row) (hr : ∀ j, row = some j → base ≤ j) : RdS base B l k o w' := by
  obtain ⟨A, n, cap, h1, h2, h3⟩ := h.box
  have hlow := h.low
  refine ⟨⟨A, n, cap, (g.block B h1.lt (fun e => by have := hr B e.symm; omega)).trans h1, ⟨h2.len, h2.le, h2.capm, h2.nil, fun j hj => ?_⟩, h3⟩, h.low, Nat.le_trans h.big g.size, h.ok, h.kn, h.o1⟩
  obtain ⟨b, o', e, e1, e2⟩ := h2.rd j hj
  have := (h3 _ e).2
  exact ⟨b, o', e, Nat.lt_of_lt_of_le e1 g.size, g.cell e2 (fun x => by have h5 := hr b x.symm; have : b < base := this; omega)⟩
theorem RdS.put (h : RdS base B l k o w) {j p : Nat} (hj : j ≤ l.length) (hp : p ≤ 100) (hw : ∀ A n cap, Blk 63 w B [.slice A n cap, .int .i64 (k : Int), .int .i64 (o : Int)] → Blk 63 w' B [.slice A n cap, .int .i64 (j : Int), .int .i64 (p : Int)]) (g : Gr B w w') : RdS base B l j p w' := by
  obtain ⟨A, n, cap, h1, h2, h3⟩ := h.box
  refine ⟨⟨A, n, cap, hw _ _ _ h1, ⟨h2.len, h2.le, h2.capm, h2.nil, fun i hi => ?_⟩, h3⟩, h.low, Nat.le_trans h.big g.size, h.ok, hj, hp⟩
  obtain ⟨b, o', e, e1, e2⟩ := h2.rd i hi
  have hne := (h3 _ e).1
  exact ⟨b, o', e, Nat.lt_of_lt_of_le e1 g.size, g.cell e2 (fun x => hne (by injection x))⟩
/-- The place, the depth are written. -/
theorem RdS.setAt (h : RdS base B l k o w) {j : Nat} (hj : j ≤ l.length) : RdS base B l j o (w.setCell ⟨B, 1, none⟩ (.int .i64 (j : Int))) := h.put hj h.o1 (fun A n cap hb => hb.set 1 _) (Lib.grownBy_setCell w B 1 _)
theorem RdS.setOpen (h : RdS base B l k o w) {p : Nat} (hp : p ≤ 100) : RdS base B l k p (w.setCell ⟨B, 2, none⟩ (.int .i64 (p : Int))) := h.put h.kn hp (fun A n cap hb => hb.set 2 _) (Lib.grownBy_setCell w B 2 _)
end

/-! ### How a reading ends -/
def fl (z e : Nat) : PanicEntry := { v := .iface 60 (.agg #[.int .i64 (z : Int), .int .i64 (e : Int)]), recovered := false }
/-- R tells of the value that is handed back. -/
def Ae {α : Type} (base B : Nat) (l : List L19.Tok) (o : Nat) (w0 : World) (R : α → Value → World → Prop) (r : Rs α) (e : Ending) (w' : World) : Prop :=
  (∃ (a : α) (k : Nat) (v : Value), r = .ok a (at_ l k) ∧ e = .returned v ∧ R a v w' ∧ RdS base B l k o w' ∧ Gr B w0 w') ∨ (∃ (c : Nat) (ts : List Tk), r = .bad c ts ∧ e = .panicked [fl (lnAt l ts) c] ∧ Gr B w0 w')
theorem Ae.ok {α : Type} {base B : Nat} {l : List L19.Tok} {o : Nat} {w0 : World} {R : α → Value → World → Prop} {r : Rs α} {a : α} {k : Nat} {v : Value} {w' : World} (hr : r = .ok a (at_ l k)) (h : R a v w') (hs : RdS base B l k o w') (hg : Gr B w0 w') : Ae base B l o w0 R r (.returned v) w' := .inl ⟨a, k, v, hr, rfl, h, hs, hg⟩
theorem Ae.bad {α : Type} {base B : Nat} {l : List L19.Tok} {o : Nat} {w0 : World} {R : α → Value → World → Prop} {r : Rs α} {c : Nat} {ts : List Tk} {w' : World} (hr : r = .bad c ts) (hg : Gr B w0 w') : Ae base B l o w0 R r (.panicked [fl (lnAt l ts) c]) w' := .inr ⟨c, ts, hr, rfl, hg⟩
end Go.Proofs.YtpbcncfbfbghcaaGreatDoor.L20
