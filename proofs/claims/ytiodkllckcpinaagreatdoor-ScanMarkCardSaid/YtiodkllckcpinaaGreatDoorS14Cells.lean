/- The contract of the laws' helper cells of layer 14. -/
import Derived.Test.YtiodkllckcpinaaGreatDoorS14Dmg
import Derived.Test.YtiodkllckcpinaaGreatDoorM14AU
import Derived.Test.YtiodkllckcpinaaGreatDoorM14AX
import Derived.Deep.RegionHeld3
set_option linter.unusedVariables false
set_option linter.unusedSimpArgs false
set_option maxRecDepth 100000
namespace Go.Proofs.YtiodkllckcpinaaGreatDoor
namespace S14
open Go.RowKit Mem F13

theorem part_bounds {p : Pt} (h : PtB p) : (0 ≤ p.reel ∧ p.reel ≤ 255) ∧ (0 ≤ p.idx ∧ p.idx ≤ 65535) ∧ (0 ≤ p.at_ ∧ p.at_ ≤ 65535) ∧ (0 ≤ p.len ∧ p.len ≤ 65535) ∧ (0 ≤ p.by_ ∧ p.by_ ≤ 255) :=
 ⟨(Lit.wf_int_iff .u8 _).1 h.reel, (Lit.wf_int_iff .u16 _).1 h.idx, (Lit.wf_int_iff .u16 _).1 h.at_, (Lit.wf_int_iff .u16 _).1 h.len, (Lit.wf_int_iff .u8 _).1 h.by_⟩
theorem add_eq (a b : ByteArray) (h : a.size + b.size ≤ 9223372036854775807) : ∀ W, (Op.stringOp .add a b).run Tryz.prog W = .ok (.string (a ++ b)) W := fun W => Go.run_string_add_sum _ _ _ h
structure Cells7 (W : World) (B : Nat) (v0 v1 v2 v3 v4 v5 v6 : Value) : Prop where
 c0 : W.cell? ⟨B, 0, none⟩ = some v0
 c1 : W.cell? ⟨B, 1, none⟩ = some v1
 c2 : W.cell? ⟨B, 2, none⟩ = some v2
 c3 : W.cell? ⟨B, 3, none⟩ = some v3
 c4 : W.cell? ⟨B, 4, none⟩ = some v4
 c5 : W.cell? ⟨B, 5, none⟩ = some v5
 c6 : W.cell? ⟨B, 6, none⟩ = some v6
theorem cells7 {W : World} {B : Nat} {v0 v1 v2 v3 v4 v5 v6 : Value} (h : VAt W B [v0, v1, v2, v3, v4, v5, v6]) : Cells7 W B v0 v1 v2 v3 v4 v5 v6 :=
 ⟨(h 0 (show 0 < 7 by decide)).1, (h 1 (show 1 < 7 by decide)).1, (h 2 (show 2 < 7 by decide)).1, (h 3 (show 3 < 7 by decide)).1, (h 4 (show 4 < 7 by decide)).1, (h 5 (show 5 < 7 by decide)).1, (h 6 (show 6 < 7 by decide)).1⟩
def CeP (w : World) (e : Ending) (w' : World) : Prop := ∃ (S : ByteArray) (B : Bool), (B = true → S.size ≤ 4000) ∧ e = .returned (.tuple #[.string S, .bool B]) ∧ Below w.heap.size w w'
set_option maxHeartbeats 16000000 in
theorem cells_any (ps : List Pt) (A : Option Addr) (cap : Nat) (w : World) (hps : IsParts w A ps.length cap ps) (hn : ps.length * 48 ≤ 140737488355328) : Calls Tryz.prog 11 #[.slice A ps.length cap] w (CeP w) := by
 have hgoal : ∀ (S : ByteArray) (B : Bool) (w' : World), (B = true → S.size ≤ 4000) → Below w.heap.size w w' → CeP w (.returned (.tuple #[.string S, .bool B])) w' := fun S B w' h hb => ⟨S, B, h, rfl, hb⟩
 have hget := fun (k : Nat) (hk : k < ps.length) => hps.get hk
 have hfit : ∀ (k : Nat) (hk : k < ps.length), PtB ps[k] := fun k hk => hps.fit _ (List.getElem_mem hk)
 obtain ⟨P, hP⟩ : ∃ P, CeP w = P := ⟨_, rfl⟩
 rw [hP] at hgoal ⊢
 replace hgoal := Lib.hid hgoal
 replace hget := Lib.hid hget
 replace hfit := Lib.hid hfit
 replace hn := Lib.hid hn
 clear hP hps
 show Calls _ _ _ _ (fun e w' => P e w')
 go_enter Tryz.func11, Tryz.ntmps11
 go_wp2
 go_loopw [4, 11] (fun sv iv wr => ∃ (k : Nat) (out : ByteArray), iv = .int .i64 (k : Int) ∧ sv = .string out ∧ k ≤ ps.length ∧ out.size ≤ 1052 * k ∧ Below w.heap.size w wr) (fun _ iv _ => ps.length - (intOf iv).toNat)
 case atStart => exact ⟨0, ⟨#[]⟩, rfl, rfl, Nat.zero_le _, Nat.le_refl _, Below.refl _ _⟩
 case round =>
  obtain ⟨k, out, rfl, rfl, hk, ho, hB⟩ := hrel
  by_cases hlt : k < ps.length
  ·obtain ⟨b, o, rfl, hbs, h7⟩ := hget.out k hlt
   have hpb := hfit.out k hlt
   obtain ⟨p, hp⟩ : ∃ p, ps[k] = p := ⟨_, rfl⟩
   rw [hp] at h7 hpb
   obtain ⟨b1, b2, b3, b4, b5⟩ := part_bounds hpb
   have hfs := hpb.front
   have hds := hpb.data
   unfold maxLen at hfs hds
   obtain ⟨g0, g1, g2, g3, g4, g5, g6⟩ := h7.below hB hbs
   obtain ⟨front, reel, idx, data, at_, len, by_⟩ := p
   dsimp only at g0 g1 g2 g3 g4 g5 g6 b1 b2 b3 b4 b5 hfs hds
   have dk : decide ((k : Int) < (ps.length : Int)) = true := decide_eq_true (by omega)
   have dk' : decide (k < ps.length) = true := decide_eq_true hlt
   have k0 : (0 : Int) ≤ (k : Int) := by omega
   have k1 : (k : Int) < (ps.length : Int) := by omega
   have kk : (k : Int) ≤ 3000000000000 := by have := hn.out; omega
   have hoI : (out.size : Int) ≤ 4000000000000000 := by have := hn.out; omega
   have hB1 := hB.alloc hB.size (.cells #[.string front, .int .u8 reel, .int .u16 idx, .string data, .int .u16 at_, .int .u16 len, .int .u8 by_] 65)
   have hfl := fun W (hb : Below w.heap.size w W) => hgoal.out ⟨#[]⟩ false W (fun e => by cases e) hb
   replace hfl := Lib.hid hfl
   have hkl := Lib.hid hlt
   have hoh := Lib.hid ho
   clear hp h7 hpb hget hfit hlt hk ho
   by_cases hf2 : 200 < front.size
   ·have d1 : decide ((200 : Int) < (front.size : Int)) = true := decide_eq_true (by omega)
    have d1' : decide (200 < front.size) = true := decide_eq_true hf2
    have hfin := Lib.hid (hfl.out _ hB1)
    clear hf2 hB hB1 hgoal hfl
    go_wp2
    first | go_ret2 | skip
    exact hfin.out
   ·have d1 : decide ((200 : Int) < (front.size : Int)) = false := decide_eq_false (by omega)
    have d1' : decide (200 < front.size) = false := decide_eq_false hf2
    have hf3 : (front.size : Int) ≤ 200 := by omega
    by_cases hd2 : 40 < data.size
    ·have d2 : decide ((40 : Int) < (data.size : Int)) = true := decide_eq_true (by omega)
     have d2' : decide (40 < data.size) = true := decide_eq_true hd2
     have hfin := Lib.hid (hfl.out _ hB1)
     clear hf2 hd2 hB hB1 hgoal hfl
     go_wp2
     first | go_ret2 | skip
     exact hfin.out
    ·have d2 : decide ((40 : Int) < (data.size : Int)) = false := decide_eq_false (by omega)
     have d2' : decide (40 < data.size) = false := decide_eq_false hd2
     obtain ⟨r3, hr3⟩ : ∃ r : Int, reel % 3 = r := ⟨_, rfl⟩
     have r3t : reel.tmod 3 = r3 := by rw [Int.tmod_eq_emod_of_nonneg b1.1]; exact hr3
     have r3b : 0 ≤ r3 ∧ r3 < 3 := by omega
     have cM := fun W => rmake_any r3 1 idx 2 1 7#32 data W (by omega)
     have hv : Valid (mkF r3 1 idx 2 1 7#32 (data.data.toList.take 28)) := mkF_valid (by omega) (by omega) (by omega) (by omega) b2 (by rw [List.length_take]; omega)
     obtain ⟨f, hf⟩ : ∃ f, mkF r3 1 idx 2 1 7#32 (data.data.toList.take 28) = f := ⟨_, rfl⟩
     rw [hf] at cM hv
     rw [show ((7#32).toNat : Int) = 7 from rfl] at cM
     have cE := fun W => rencode_any f W (by have := hv.size; omega)
     have h0 := (valid_iff f).2 hv
     have henc : ∀ S, EncQ f S → S.size = 852 := fun S h => by
      obtain ⟨W, h1, rfl⟩ := h.1 h0
      rw [ByteArray.size_append, bodyC_size (h1.size hv)]
      rfl
     unfold EncP at cE
     rw [h0] at cE
     obtain ⟨Q, hQ⟩ : ∃ Q, EncQ f = Q := ⟨_, rfl⟩
     rw [hQ] at cE henc
     obtain ⟨kind, freel, fsess, fidx, flen, fdata, fspare, farch, fpay⟩ := f
     unfold Fr.val Fr.cells at cM cE
     dsimp only at cM cE
     obtain ⟨FV, hFV⟩ : ∃ v : Value, (.agg #[.int .i64 kind, .int .i64 freel, .int .i64 fsess, .int .i64 fidx, .int .i64 flen, .int .i64 fdata, .int .i64 fspare, .int .u32 (farch.toNat : Int), .string fpay] : Value) = v := ⟨_, rfl⟩
     rw [hFV] at cM cE
     clear hFV
     obtain ⟨a, rfl⟩ := Int.eq_ofNat_of_zero_le b3.1
     obtain ⟨ln, rfl⟩ := Int.eq_ofNat_of_zero_le b4.1
     obtain ⟨y, rfl⟩ := Int.eq_ofNat_of_zero_le b5.1
     obtain ⟨q, hq⟩ : ∃ q : Nat, q = ln % 200 := ⟨_, rfl⟩
     have q1 : (ln : Int) % 200 = (q : Int) := by omega
     have q2 : (ln : Int).tmod 200 = (q : Int) := by rw [Int.tmod_eq_emod_of_nonneg (by omega)]; exact q1
     have a1 : (a : Int) ≤ 65535 := b3.2
     have l1 : (ln : Int) ≤ 65535 := b4.2
     have y1 : (y : Int) ≤ 255 := b5.2
     have x1 : (0 : Int) ≤ reel := b1.1
     have x2 : reel ≤ 255 := b1.2
     have x3 : (0 : Int) ≤ idx := b2.1
     have x4 : idx ≤ 65535 := b2.2
     have cD := fun (C : ByteArray) (hC : C.size = 852) W => damaged_any C a q y W (by omega) (by omega) (by omega) (by omega) (by omega)
     replace cM := Lib.hid cM
     replace cE := Lib.hid cE
     replace cD := Lib.hid cD
     replace henc := Lib.hid henc
     obtain ⟨WB, hWB⟩ : ∃ W, wr.alloc (.cells #[.string front, .int .u8 reel, .int .u16 idx, .string data, .int .u16 (a : Int), .int .u16 (ln : Int), .int .u8 (y : Int)] 65) = W := ⟨_, rfl⟩
     have hvP := vat_alloc wr 65 [.string front, .int .u8 reel, .int .u16 idx, .string data, .int .u16 (a : Int), .int .u16 (ln : Int), .int .u8 (y : Int)]
     have hsP : wr.heap.size < WB.heap.size := by rw [← hWB]; simp
     rw [show wr.alloc (.cells ([.string front, .int .u8 reel, .int .u16 idx, .string data, .int .u16 (a : Int), .int .u16 (ln : Int), .int .u8 (y : Int)] : List Value).toArray 65) = WB from hWB] at hvP
     rw [hWB] at hB1
     have rule := fun (W : World) (h : Below WB.heap.size WB W) => cells7 (hvP.below h hsP)
     replace rule := Lib.hid rule
     obtain ⟨p0, p1, p2, p3, p4, p5, p6⟩ := rule.out WB (Below.refl _ _)
     have hff : front.size ≤ 200 := by omega
     clear hvP hsP
     clear hf hQ hv h0 hr3 hq hf2 hd2 hB hfs hds hfl b1 b2 b3 b4 b5
     go_wp2_with fail
     with_reducible refine (cM.out _).mono ?_
     rintro e w1 ⟨rfl, hb1⟩
     have hB1h := Lib.hid hb1
     clear hb1
     go_wp2_with fail
     refine (cE.out _).mono ?_
     rintro e w2 ⟨C, hC, rfl, hb2⟩
     have hCs := henc.out C hC
     have cDC := fun W => cD.out C hCs W
     replace cDC := Lib.hid cDC
     have hB2 := chain hB1h.out hb2
     have kf0 := fun (W : World) (h : Below w2.heap.size w2 W) => (rule.out W (chain hB2 h)).c0
     have kf4 := fun (W : World) (h : Below w2.heap.size w2 W) => (rule.out W (chain hB2 h)).c4
     have kf5 := fun (W : World) (h : Below w2.heap.size w2 W) => (rule.out W (chain hB2 h)).c5
     have kf6 := fun (W : World) (h : Below w2.heap.size w2 W) => (rule.out W (chain hB2 h)).c6
     have keep0 := Below.refl w2.heap.size w2
     have keep1 : ∀ W, Below w2.heap.size w2 W → Below w2.heap.size w2 (World.drew W) := fun W h => chainN h 1
     have hB2h := Lib.hid (chain hB1 hB2)
     clear hb2 hB2 hC hB1 hB1h p0 p1 p2 p3 p4 p5 p6 rule cM cE cD henc
     have hDs : ∀ X : ByteArray, Dm C.data.toList X.data.toList (a % C.size) q → X.size = 852 := by
      intro X h
      have h1 := h.len
      have e1 : X.data.toList.length = X.size := by simp
      have e2 : C.data.toList.length = C.size := by simp
      omega
     have hDsh := Lib.hid hDs
     clear hDs hCs
     have v1 : IntKind.i64.wrap (a : Int) = (a : Int) := IntWalk.i64_in _ (by omega)
     have v2 : IntKind.i64.wrap (ln : Int) = (ln : Int) := IntWalk.i64_in _ (by omega)
     go_wp2
     go_region_held3 (fun W => Below w2.heap.size w2 W) (first | exact keep0 | exact keep1 _ keep0 | exact chain ‹_› ‹_› | assumption) (first | (go_at_call 22; (with_reducible refine (cDC.out _).mono ?_); rintro e3 w10 ⟨X, hX, rfl, hb3⟩; have hXs := hDsh.out X hX; clear hX; have ad1 := add_eq front X (by omega); have ad2 := add_eq out (front ++ X) (by rw [ByteArray.size_append]; omega)))
     have hBX : Below w2.heap.size w2 w10 := by assumption
     have hfin := Lib.hid (chain hB2h.out hBX)
     have hsz : (out ++ (front ++ X)).size ≤ 1052 * (k + 1) := by
      rw [ByteArray.size_append, ByteArray.size_append]
      have := hoh.out
      omega
     have hszh := Lib.hid hsz
     clear hBX hB2h hsz kf0 kf4 kf5 kf6 keep0 keep1 hDsh hWB v1 v2 ad1 ad2 cDC hb3
     go_wp2
     go_roundw
     case rel => exact ⟨k + 1, _, by go_num, rfl, hkl.out, hszh.out, hfin.out⟩
     case measure => have := hkl.out; simp [intOf]; omega
  ·obtain rfl : k = ps.length := by omega
   have dk : decide ((ps.length : Int) < (ps.length : Int)) = false := decide_eq_false (by omega)
   have dk' : decide (ps.length < ps.length) = false := decide_eq_false (by omega)
   have hnn : (ps.length : Int) ≤ 3000000000000 := by have := hn.out; omega
   have hfin := fun (B : Bool) (hb : B = true → ps.length ≤ 3) => hgoal.out out B wr (fun h => by have := hb h; omega) hB
   replace hfin := Lib.hid hfin
   clear hB hget hfit ho hgoal hk hlt
   by_cases h3 : ps.length ≤ 3
   ·have d3 : decide ((ps.length : Int) ≤ 3) = true := decide_eq_true (by omega)
    have d3' : decide (ps.length ≤ 3) = true := decide_eq_true h3
    have hf2 := Lib.hid (hfin.out true (fun _ => h3))
    clear hfin h3
    go_wp2
    first | go_ret2 | skip
    exact hf2.out
   ·have d3 : decide ((ps.length : Int) ≤ 3) = false := decide_eq_false (by omega)
    have d3' : decide (ps.length ≤ 3) = false := decide_eq_false h3
    have hf2 := Lib.hid (hfin.out false (fun h => by cases h))
    clear hfin h3
    go_wp2
    first | go_ret2 | skip
    exact hf2.out
end S14
end Go.Proofs.YtiodkllckcpinaaGreatDoor
