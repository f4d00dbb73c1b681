/- The contracts of the landed Keywords, word, signLength, sign, first, gap (layer 19). -/
import Derived.Test.YtpnnkdgoaeibbaaDoorL19Own2
import Derived.Lib.SlicesS
namespace Go.Proofs.YtpnnkdgoaeibbaaDoor.L19
set_option maxRecDepth 100000
open Go.RowKit Mem
open A18 (ba_get drop_get ext_list str_of)
open M17 (Laid Laid.below)
set_option linter.unusedVariables false
set_option linter.unusedSimpArgs false

/-- The keywords as strings. -/
def kwB : List ByteArray := [⟨#[97, 114, 114, 97, 121]⟩, ⟨#[101, 108, 115, 101]⟩, ⟨#[102, 117, 110, 99]⟩, ⟨#[104, 97, 108, 116]⟩, ⟨#[105, 102]⟩, ⟨#[114, 101, 116, 117, 114, 110]⟩, ⟨#[118, 97, 114]⟩, ⟨#[119, 104, 105, 108, 101]⟩]
def kwV : List Value := [.string ⟨#[97, 114, 114, 97, 121]⟩, .string ⟨#[101, 108, 115, 101]⟩, .string ⟨#[102, 117, 110, 99]⟩, .string ⟨#[104, 97, 108, 116]⟩, .string ⟨#[105, 102]⟩, .string ⟨#[114, 101, 116, 117, 114, 110]⟩, .string ⟨#[118, 97, 114]⟩, .string ⟨#[119, 104, 105, 108, 101]⟩]
theorem kw_has (s : ByteArray) : Lib.containsS (kwB.take 8) s = kws.contains s.data.toList := by
  rw [Bool.eq_iff_iff, Lib.containsS_iff, List.contains_iff_mem]
  have e : kws = kwB.map (fun x => x.data.toList) := rfl
  rw [e, List.mem_map, show kwB.take 8 = kwB from rfl]
  constructor
  · intro h; exact ⟨s, h, rfl⟩
  · rintro ⟨x, hx, e⟩
    have : x = s := by apply ByteArray.ext; exact Array.toList_inj.1 e
    rwa [← this]
set_option maxHeartbeats 4000000 in
theorem Keywords_any (w : World) : Calls Tryd.prog 11 #[] w fun e w' => e = .returned (.slice (some ⟨w.heap.size, 0, none⟩) 8 8) ∧ w' = w.alloc (.cells kwV.toArray 9) := by
  go_enter Tryd.func11, Tryd.ntmps11
  go_wp2
  first | go_ret | skip
  exact ⟨rfl, rfl⟩
theorem kw_cells {W : World} {g : Nat} (h : Blk 9 W g kwV) : ∀ j, j < kwB.length → W.cell? ⟨g, 0 + j, none⟩ = some (.string (kwB.getD j ByteArray.empty)) := by
  intro j hj
  rw [Nat.zero_add, h.cell]
  have hj : j < 8 := hj
  match j, hj with
  | 0, _ | 1, _ | 2, _ | 3, _ | 4, _ | 5, _ | 6, _ | 7, _ => rfl
theorem contains_any (s : ByteArray) {b : Bool} (hb : kws.contains s.data.toList = b) (g : Nat) (W : World) (h : Blk 9 W g kwV) : Calls Tryd.prog 37 #[.slice (some ⟨g, 0, none⟩) 8 8, .string s] W fun e w' => e = .returned (.bool b) ∧ w' = W := by
  have := Tryd.slices_Contains_string g 0 8 8 kwB s W (by decide) (by decide) (kw_cells h)
  rwa [kw_has, hb] at this
theorem kw_new (w : World) (a b : Obj) : Blk 9 (((w.alloc a).alloc b).alloc (.cells kwV.toArray 9)).drew (w.heap.size + 1 + 1) kwV := by
  have := Blk.new ((w.alloc a).alloc b) 9 kwV
  rwa [World.size_alloc, World.size_alloc] at this
theorem three_end (w : World) (l : List Value) (a b : Obj) : Blk 33 (((w.alloc (.cells l.toArray 33)).alloc a).alloc b).drew w.heap.size l ∧ Below w.heap.size w (((w.alloc (.cells l.toArray 33)).alloc a).alloc b).drew := by
  have h0 := Blk.new w 33 l
  have b0 := boxed w (.cells l.toArray 33)
  have b1 := boxed (w.alloc (.cells l.toArray 33)) a
  have b2 := boxed ((w.alloc (.cells l.toArray 33)).alloc a) b
  exact ⟨((h0.below b1).below b2 : Blk _ (((w.alloc (.cells l.toArray 33)).alloc a).alloc b) _ _), chainN (chain (chain b0 b1) b2) 1⟩
set_option maxHeartbeats 8000000 in
theorem word_any (s : ByteArray) (hs : s.size ≤ 1000000) (w : World) : Calls Tryd.prog 28 #[.string s] w fun e w' => e = .returned (fV (wrd s.data.toList)) ∧ Below w.heap.size w w' := by
  have hle := pre_le isNm s.data.toList
  rw [list_len] at hle
  have cP := Lib.hid (fun W => prefix_any word1_any ent_word1 s hs W)
  have hw : wrd s.data.toList = if 24 < pre isNm s.data.toList then bad 7 else good (wkind (s.data.toList.take (pre isNm s.data.toList))) (s.data.toList.take (pre isNm s.data.toList)) (pre isNm s.data.toList) := rfl
  obtain ⟨Z, hZ⟩ : ∃ Z, pre isNm s.data.toList = Z := ⟨_, rfl⟩
  rw [hZ] at cP hle hw
  have hb0 := Lib.hid (boxed w (.cells #[.int .i64 0, .string ⟨#[]⟩, .int .i64 0] 33))
  have hk0 := Lib.hid (Blk.new w 33 [.int .i64 0, .string ⟨#[]⟩, .int .i64 0])
  have Z0 : (0 : Int) ≤ (Z : Int) := by omega
  have Z1 : (Z : Int) ≤ (s.size : Int) := by omega
  clear hZ
  by_cases hbig : 24 < Z
  · rw [if_pos hbig] at hw
    have t1 : decide ((24 : Int) < (Z : Int)) = true := decide_eq_true (by omega)
    rw [hw]
    clear hw hbig
    go_enter Tryd.func28, Tryd.ntmps28
    go_wp2_with fail
    refine (cP.out _).mono ?_
    rintro e w1 ⟨rfl, rfl⟩
    go_wp2
    exact fst_ret (fn := Tryd.f28) (by rfl) rfl rfl rfl hk0.out ⟨rfl, hb0.out⟩
  · rw [if_neg hbig] at hw
    have t1 : decide ((24 : Int) < (Z : Int)) = false := decide_eq_false (by omega)
    have hx : (s.extract 0 Z).data.toList = s.data.toList.take Z := by rw [ext_list, List.drop_zero, Nat.sub_zero]
    have cK := Lib.hid Keywords_any
    rw [← hx] at hw
    have hG : ∀ k : Nat, fV (good k (s.extract 0 Z).data.toList Z) = .tuple #[.agg #[.int .i64 (k : Int), .string (s.extract 0 Z), .int .i64 0], .int .i64 (Z : Int), .int .i64 0] := fun k => by unfold fV good; dsimp only; rw [strV_of rfl]; rfl
    unfold wkind at hw
    obtain ⟨b, hb⟩ : ∃ b, kws.contains (s.extract 0 Z).data.toList = b := ⟨_, rfl⟩
    have cC := Lib.hid (fun g W h => contains_any (s.extract 0 Z) hb g W h)
    rw [hb] at hw
    rw [hw, hG]
    clear hw hG hb hbig hx hle
    cases b
    · go_enter Tryd.func28, Tryd.ntmps28
      go_wp2_with fail
      refine (cP.out _).mono ?_
      rintro e w1 ⟨rfl, rfl⟩
      go_wp2_with fail
      go_region_with (first | (go_at_call 11; (with_reducible refine (cK.out _).mono ?_); rintro e w9 ⟨rfl, rfl⟩) | (go_at_call 37; (refine (cC.out _ _ ?_).mono ?_); (· exact kw_new _ _ _); rintro e w8 ⟨rfl, rfl⟩))
      all_goals
        go_wp2
        exact fst_ret (fn := Tryd.f28) (by rfl) rfl rfl rfl (three_end w [.int .i64 2, .string (s.extract 0 Z), .int .i64 0] _ _).1 ⟨rfl, (three_end w [.int .i64 2, .string (s.extract 0 Z), .int .i64 0] _ _).2⟩
    · go_enter Tryd.func28, Tryd.ntmps28
      go_wp2_with fail
      refine (cP.out _).mono ?_
      rintro e w1 ⟨rfl, rfl⟩
      go_wp2_with fail
      go_region_with (first | (go_at_call 11; (with_reducible refine (cK.out _).mono ?_); rintro e w9 ⟨rfl, rfl⟩) | (go_at_call 37; (refine (cC.out _ _ ?_).mono ?_); (· exact kw_new _ _ _); rintro e w8 ⟨rfl, rfl⟩))
      all_goals
        go_wp2
        exact fst_ret (fn := Tryd.f28) (by rfl) rfl rfl rfl (three_end w [.int .i64 3, .string (s.extract 0 Z), .int .i64 0] _ _).1 ⟨rfl, (three_end w [.int .i64 3, .string (s.extract 0 Z), .int .i64 0] _ _).2⟩
/-! ### signs -/
def onB : ByteArray := ⟨#[60, 62, 94, 43, 45, 42, 47, 37, 33, 61, 40, 41, 123, 125, 91, 93, 44, 59]⟩
theorem idx_one (c : UInt8) : (ones.contains c = true → 0 ≤ Lib.indexByte ones c) ∧ (ones.contains c = false → Lib.indexByte ones c = -1) := by
  have h := all8 (P := fun c => if ones.contains c then decide (0 ≤ Lib.indexByte ones c) else decide (Lib.indexByte ones c = -1)) (by decide +kernel) c
  constructor
  · intro e; rw [e] at h; simpa using h
  · intro e; rw [e] at h; simpa using h
theorem sgl_one {s : ByteArray} (h : 0 < s.size) (h2 : s.size < 2 ∨ two.contains (s.extract 0 2).data.toList = false) : sgl s.data.toList = if ones.contains s[0] then 1 else 0 := by
  have hl := drop_get s 0 h
  rw [List.drop_zero] at hl
  have ht : two.contains (s.data.toList.take 2) = false := by
    rcases h2 with h2 | h2
    · have : ∀ x ∈ two, x.length = 2 := by decide
      rw [Bool.eq_false_iff]
      intro hc
      have := this _ (by simpa using hc)
      have h3 := List.length_take_le' 2 s.data.toList
      rw [list_len] at h3
      omega
    · rwa [ext_list, List.drop_zero, Nat.sub_zero] at h2
  unfold sgl
  rw [ht, if_neg (by simp)]
  conv => lhs; rw [hl]
  rfl
theorem sgl_two {s : ByteArray} (h2 : two.contains (s.extract 0 2).data.toList = true) : sgl s.data.toList = 2 := by
  rw [ext_list, List.drop_zero, Nat.sub_zero] at h2
  unfold sgl
  rw [if_pos h2]
set_option maxHeartbeats 8000000 in
theorem signLength_any (s : ByteArray) (hs : s.size ≤ 1000000) (h0 : 0 < s.size) (w : World) : Calls Tryd.prog 40 #[.string s] w fun e w' => e = .returned (.int .i64 (sgl s.data.toList : Int)) ∧ w = w' := by
  have n0 : (0 : Int) < (s.size : Int) := by omega
  have d0 : decide (0 < s.size) = true := decide_eq_true h0
  have cI := fun W => Tryd.strings_IndexByte ⟨#[60, 62, 94, 43, 45, 42, 47, 37, 33, 61, 40, 41, 123, 125, 91, 93, 44, 59]⟩ (s[0].toNat : Int) W
  rw [show ((s[0].toNat : Int)).toNat.toUInt8 = s[0] by simp] at cI
  rw [show (ByteArray.mk #[60, 62, 94, 43, 45, 42, 47, 37, 33, 61, 40, 41, 123, 125, 91, 93, 44, 59]).data.toList = ones from rfl] at cI
  obtain ⟨i1, i2⟩ := idx_one s[0]
  have hone := fun h2 => sgl_one (s := s) h0 h2
  have htwo := fun h2 => sgl_two (s := s) h2
  obtain ⟨K, hK⟩ : ∃ K, sgl s.data.toList = K := ⟨_, rfl⟩
  rw [hK] at hone htwo ⊢
  obtain ⟨c, hc⟩ : ∃ c, s[0] = c := ⟨_, rfl⟩
  rw [hc] at cI i1 i2 hone
  obtain ⟨x, hx⟩ : ∃ x : Int, Lib.indexByte ones c = x := ⟨_, rfl⟩
  rw [hx] at cI i1 i2
  have cI := Lib.hid cI
  obtain ⟨b, hb⟩ : ∃ b, ones.contains c = b := ⟨_, rfl⟩
  rw [hb] at i1 i2 hone
  have hx2 : decide ((0 : Int) ≤ x) = b := by
    cases b
    · rw [i2 rfl]; rfl
    · exact decide_eq_true (i1 rfl)
  clear i1 i2 hx hb hK
  by_cases h2 : 2 ≤ s.size
  · have t1 : decide ((2 : Int) ≤ (s.size : Int)) = true := decide_eq_true (by omega)
    have t2 : (2 : Int) ≤ (s.size : Int) := by omega
    have hcon : two.contains (s.extract 0 2).data.toList = ((s.extract 0 2).toList == [38, 38] || ((s.extract 0 2).toList == [124, 124] || ((s.extract 0 2).toList == [61, 61] || ((s.extract 0 2).toList == [33, 61] || ((s.extract 0 2).toList == [60, 61] || ((s.extract 0 2).toList == [62, 61] || false)))))) := by
      rw [str_toList]; unfold two; simp only [List.contains_cons, List.contains_nil]
    rw [hcon] at hone htwo
    clear hcon
    rcases q1 : ((s.extract 0 2).toList == [38, 38]) with _ | _
    rotate_left
    · rw [q1] at htwo
      obtain rfl := htwo rfl
      clear hone hx2 cI hc
      go_enter Tryd.func40, Tryd.ntmps40
      go_wp2
      first | go_ret | skip
      exact ⟨rfl, rfl⟩
    rcases q2 : ((s.extract 0 2).toList == [124, 124]) with _ | _
    rotate_left
    · rw [q1, q2] at htwo
      obtain rfl := htwo rfl
      clear hone hx2 cI hc
      go_enter Tryd.func40, Tryd.ntmps40
      go_wp2
      first | go_ret | skip
      exact ⟨rfl, rfl⟩
    rcases q3 : ((s.extract 0 2).toList == [61, 61]) with _ | _
    rotate_left
    · rw [q1, q2, q3] at htwo
      obtain rfl := htwo rfl
      clear hone hx2 cI hc
      go_enter Tryd.func40, Tryd.ntmps40
      go_wp2
      first | go_ret | skip
      exact ⟨rfl, rfl⟩
    rcases q4 : ((s.extract 0 2).toList == [33, 61]) with _ | _
    rotate_left
    · rw [q1, q2, q3, q4] at htwo
      obtain rfl := htwo rfl
      clear hone hx2 cI hc
      go_enter Tryd.func40, Tryd.ntmps40
      go_wp2
      first | go_ret | skip
      exact ⟨rfl, rfl⟩
    rcases q5 : ((s.extract 0 2).toList == [60, 61]) with _ | _
    rotate_left
    · rw [q1, q2, q3, q4, q5] at htwo
      obtain rfl := htwo rfl
      clear hone hx2 cI hc
      go_enter Tryd.func40, Tryd.ntmps40
      go_wp2
      first | go_ret | skip
      exact ⟨rfl, rfl⟩
    rcases q6 : ((s.extract 0 2).toList == [62, 61]) with _ | _
    rotate_left
    · rw [q1, q2, q3, q4, q5, q6] at htwo
      obtain rfl := htwo rfl
      clear hone hx2 cI hc
      go_enter Tryd.func40, Tryd.ntmps40
      go_wp2
      first | go_ret | skip
      exact ⟨rfl, rfl⟩
    rw [q1, q2, q3, q4, q5, q6] at hone
    replace hone := hone (.inr rfl)
    clear htwo
    cases b
    all_goals
      obtain rfl := hone
      go_enter Tryd.func40, Tryd.ntmps40
      go_wp2_with fail
      refine (cI.out _).mono ?_
      rintro e w1 ⟨rfl, rfl⟩
      go_wp2
      first | go_ret | skip
      exact ⟨rfl, rfl⟩
  · have t1 : decide ((2 : Int) ≤ (s.size : Int)) = false := decide_eq_false (by omega)
    replace hone := hone (.inl (by omega))
    clear htwo
    cases b
    · obtain rfl := hone
      go_enter Tryd.func40, Tryd.ntmps40
      go_wp2_with fail
      refine (cI.out _).mono ?_
      rintro e w1 ⟨rfl, rfl⟩
      go_wp2
      first | go_ret | skip
      exact ⟨rfl, rfl⟩
    · obtain rfl := hone
      go_enter Tryd.func40, Tryd.ntmps40
      go_wp2_with fail
      refine (cI.out _).mono ?_
      rintro e w1 ⟨rfl, rfl⟩
      go_wp2
      first | go_ret | skip
      exact ⟨rfl, rfl⟩
set_option maxHeartbeats 8000000 in
theorem sign_any (s : ByteArray) (hs : s.size ≤ 1000000) (h0 : 0 < s.size) (w : World) : Calls Tryd.prog 30 #[.string s] w fun e w' => e = .returned (fV (sgn s.data.toList)) ∧ Below w.heap.size w w' := by
  have cS := Lib.hid (fun W => signLength_any s hs h0 W)
  have hK : sgl s.data.toList = 0 ∨ (0 < sgl s.data.toList ∧ sgl s.data.toList ≤ s.size) := by
    by_cases h : sgl s.data.toList = 0
    · exact .inl h
    · refine .inr ⟨by omega, ?_⟩
      have hl := drop_get s 0 h0
      rw [List.drop_zero] at hl
      rw [hl] at h ⊢
      rcases sgl_cases s[0] (s.data.toList.drop 1) with ⟨d, r', e1, _, e⟩ | ⟨_, e⟩ | e
      · rw [e]
        have := congrArg List.length e1
        rw [List.length_drop, list_len, List.length_cons] at this
        omega
      · rw [e]; omega
      · exact absurd e h
  have hg : sgn s.data.toList = if sgl s.data.toList = 0 then bad 3 else good 4 (s.data.toList.take (sgl s.data.toList)) (sgl s.data.toList) := rfl
  obtain ⟨K, hKK⟩ : ∃ K, sgl s.data.toList = K := ⟨_, rfl⟩
  rw [hKK] at cS hK hg
  have hb0 := Lib.hid (boxed w (.cells #[.int .i64 0, .string ⟨#[]⟩, .int .i64 0] 33))
  have hk0 := Lib.hid (Blk.new w 33 [.int .i64 0, .string ⟨#[]⟩, .int .i64 0])
  clear hKK
  rcases hK with rfl | ⟨k0, k1⟩
  · rw [if_pos rfl] at hg
    rw [hg]
    clear hg
    go_enter Tryd.func30, Tryd.ntmps30
    go_wp2_with fail
    refine (cS.out _).mono ?_
    rintro e w1 ⟨rfl, rfl⟩
    go_wp2
    exact fst_ret (fn := Tryd.f30) (by rfl) rfl rfl rfl hk0.out ⟨rfl, hb0.out⟩
  · rw [if_neg (by omega)] at hg
    have t1 : ((K : Int) == 0) = false := beq_eq_false_iff_ne.2 (by omega)
    have K0 : (0 : Int) ≤ (K : Int) := by omega
    have K1 : (K : Int) ≤ (s.size : Int) := by omega
    have hx : (s.extract 0 K).data.toList = s.data.toList.take K := by rw [ext_list, List.drop_zero, Nat.sub_zero]
    rw [← hx] at hg
    have hG : fV (good 4 (s.extract 0 K).data.toList K) = .tuple #[.agg #[.int .i64 4, .string (s.extract 0 K), .int .i64 0], .int .i64 (K : Int), .int .i64 0] := by unfold fV good; dsimp only; rw [strV_of rfl]; rfl
    rw [hg, hG]
    have hbf := Lib.hid (boxed w (.cells #[.int .i64 4, .string (s.extract 0 K), .int .i64 0] 33))
    have hkf := Lib.hid (Blk.new w 33 [.int .i64 4, .string (s.extract 0 K), .int .i64 0])
    clear hg hG hx
    go_enter Tryd.func30, Tryd.ntmps30
    go_wp2_with fail
    refine (cS.out _).mono ?_
    rintro e w1 ⟨rfl, rfl⟩
    go_wp2
    exact fst_ret (fn := Tryd.f30) (by rfl) rfl rfl rfl hkf.out ⟨rfl, hbf.out⟩
end Go.Proofs.YtpnnkdgoaeibbaaDoor.L19
