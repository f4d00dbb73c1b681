/- The contracts of the landed Pieces and Piece of layer 14 (written by gen/s14own3.py). -/
import Derived.Test.YtiodkllckcpinaaGreatDoorM14AT
import Derived.Test.YtiodkllckcpinaaGreatDoorM14AU
set_option linter.unusedVariables false
set_option linter.unusedSimpArgs false
set_option maxRecDepth 100000
namespace Go.Proofs.YtiodkllckcpinaaGreatDoor
namespace S14
open Go.RowKit Go.Shelf Mem F13
attribute [local go_sem] Oper.semAt_some

set_option maxHeartbeats 16000000 in
theorem pieces_own (cs : List ByteArray) (A : Option Addr) (cap : Nat) (w : World) (hn : cs.length ≤ 10) (hcs : ∀ c ∈ cs, c.size ≤ 1000000) (hrd : Rd w A (cs.map Value.string)) :
  Calls Tryz.prog 15 #[.slice A cs.length cap] w (PsP cs w) := by
 obtain ⟨i0, hi, hz0, hz1, hz2⟩ := info_parts infoS
 have hgoal : ∀ (L : List (Nat × Sg)) (v : Value) (w' : World), Scans 0 cs L → L.length ≤ 10000010 → w'.ownsRow w.heap.size 48 14 v L.length (sgsC L) → Below w.heap.size w w' → PsP cs w (.returned v) w' := fun L v w' h1 h2 h3 h4 => ⟨L, v, h1, h2, rfl, h3, h4⟩
 have hstart := UptoS.start cs
 have hstep := fun (k : Nat) (pre : List (Nat × Sg)) (l : List Sg) (h : UptoS cs k pre) (hk : k < cs.length) hl => h.step hk hl (l := l)
 have hdone := fun (pre : List (Nat × Sg)) (h : UptoS cs cs.length pre) => h.done
 have hone : ∀ k (h : k < cs.length), (cs[k]).size ≤ 1000000 := fun k h => hcs _ (List.getElem_mem h)
 have hread : ∀ k (h : k < cs.length), ∃ b o : Nat, A = some ⟨b, o, none⟩ ∧ b < w.heap.size ∧ w.cell? ⟨b, o + k, none⟩ = some (.string cs[k]) := fun k h => by
  obtain ⟨b, o, e, hb, hc⟩ := hrd k (by simpa using h)
  exact ⟨b, o, e, hb, by rw [hc]; simp⟩
 obtain ⟨P, hP⟩ : ∃ P, PsP cs w = P := ⟨_, rfl⟩
 rw [hP] at hgoal ⊢
 replace hgoal := Lib.hid hgoal
 replace hstart := Lib.hid hstart
 replace hstep := Lib.hid hstep
 replace hdone := Lib.hid hdone
 replace hone := Lib.hid hone
 replace hread := Lib.hid hread
 replace hn := Lib.hid hn
 clear hP hcs hrd
 refine (callsIn_wide (n := 3)).1 ?_
 show CallsIn _ _ _ _ _ _ (fun e w' => P e w')
 refine callsIn_of_wp_marks Tryz.func15 rfl trivial ?_ rfl
 simp only [Tryz.ntmps15, List.size_toArray, List.length_cons, List.length_nil, Nat.reduceAdd, Nat.reduceSub, Array.replicate_succ, Array.replicate_zero, List.push_toArray, List.append_toArray, List.nil_append, List.cons_append]
 gi_wp2
 have bx0 := Boxed.new w 30 (.slice none 0 0)
 have hb0 : Below w.heap.size w (w.alloc (.cells #[.slice none 0 0] 30)) := (Below.refl _ _).alloc (Nat.le_refl _) _
 refine wpIn_loop (fun a wr => ∃ (k : Nat) (ds : List Deferred) (pre : List (Nat × Sg)) (v : Value) (u4 u5 u6 u10 u11 u12 u13 u14 u15 u16 u17 u18 u19 u20 u21 u22 : Value), a = { tmps := #[.slice A cs.length cap, undef, .slice none 0 0, .pointer (some ⟨w.heap.size, 0, none⟩), u4, u5, u6, .slice A cs.length cap, .int .i64 (cs.length : Int), .int .i64 (k : Int), u10, u11, u12, u13, u14, u15, u16, u17, u18, u19, u20, u21, u22, undef], defers := ds } ∧ k ≤ cs.length ∧ UptoS cs k pre ∧ pre.length ≤ k * 1000001 ∧ Boxed wr w.heap.size 30 v ∧ wr.ownsRow w.heap.size 48 14 v pre.length (sgsC pre) ∧ Marks w.heap.size wr.heap.size wr ds ∧ Below w.heap.size w wr)
  (fun a _ => cs.length - (intOf (a.tmps.getD 9 undef)).toNat) ?start ?round
 case start =>
  exact ⟨0, [], [], .slice none 0 0, undef, undef, undef, undef, undef, undef, undef, undef, undef, undef, undef, undef, undef, undef, undef, undef, rfl, Nat.zero_le _, hstart.out, Nat.zero_le _, bx0, World.ownsRow_nil _ _ _ _, trivial, hb0⟩
 case round =>
  rintro a wr ⟨k, ds, pre, v, u4, u5, u6, u10, u11, u12, u13, u14, u15, u16, u17, u18, u19, u20, u21, u22, rfl, hk, hU, hpl, hbx, hrow, hmk, hB⟩
  clear bx0 hb0 hstart
  by_cases hlt : k < cs.length
  ·obtain ⟨b, o, rfl, hbs, hce⟩ := hread.out k hlt
   have hcc := (hB.cell (p := ⟨b, o + k, none⟩) hbs).trans hce
   have hck := hone.out k hlt
   have hst := fun l hl => hstep.out k pre l hU hlt hl
   obtain ⟨c, hc⟩ : ∃ c, cs[k] = c := ⟨_, rfl⟩
   rw [hc] at hcc hck hst
   have cS := Lib.hid (fun W => sightings_own c k W)
   have dk : decide ((k : Int) < (cs.length : Int)) = true := decide_eq_true (by omega)
   have dk' : decide (k < cs.length) = true := decide_eq_true hlt
   have k0 : (0 : Int) ≤ (k : Int) := by omega
   have k1 : (k : Int) < (cs.length : Int) := by omega
   have kk : (k : Int) ≤ 10 := by have := hn.out; omega
   have hk10 := Lib.hid (show k ≤ 10 by have := hn.out; omega)
   have hSlt := hbx.lt
   have hklt := Lib.hid hlt
   replace hst := Lib.hid hst
   replace hpl := Lib.hid hpl
   replace hck := Lib.hid hck
   clear hc hce hU hk hlt
   gi_wp2_with (refine ⟨trivial, ?_⟩; gi_at_call 30; refine (callsIn_wide.2 (cS.out _)).mono ?_; rintro e w' ⟨rfl, rfl⟩)
   have hBs := hB.size
   have y2 := (Boxed.new wr 3 (.int .i64 (k : Int))).alloc (.cells #[.string c] 9)
   have y1 := Boxed.new (wr.alloc (.cells #[.int .i64 (k : Int)] 3)) 9 (.string c)
   rw [World.size_alloc] at y1
   obtain ⟨S, hS⟩ : ∃ S, wr.heap.size = S := ⟨_, rfl⟩
   obtain ⟨Wk, hWk⟩ : ∃ W, (wr.alloc (.cells #[.int .i64 (k : Int)] 3)).alloc (.cells #[.string c] 9) = W := ⟨_, rfl⟩
   have hal : Below wr.heap.size wr Wk := by rw [← hWk]; exact two_made wr _ _
   have hbx1 := boxed_below hbx hal
   have hrow1 := own_below hrow hal
   have hmk1 := hmk.below hal
   have hB1 := hB.trans (hal.mono hBs)
   have hsz : Wk.heap.size = S + 2 := by rw [← hWk, ← hS]; simp
   rw [hWk] at y1 y2 ⊢
   rw [hS] at y1 y2 hmk1 hBs hSlt ⊢
   clear hWk hal hbx hrow hmk hB hcc
   refine wpIn_rangeFunc_ownH rfl (by omega) (gf := 64) (lb := #[.pointer (some ⟨S + 1, 0, none⟩), .pointer (some ⟨S, 0, none⟩)]) rfl trivial (enters_of Tryz.func64 (by kernel_rfl) rfl)
    (sightings_stops c hck.out k (S + 1) S Wk y1 y2) kpS_t (kpS_b (by omega) (by omega)) (Below.refl _ _) (fun _ => rfl)
    (fun qre W => ((∃ v, Boxed W w.heap.size 30 v ∧ W.ownsRow w.heap.size 48 14 v (pre.length + qre.length) (sgsC (pre ++ qre.map fun s => (k, s))) ∧ True) ∧ (Boxed W (S + 1) 9 (.string c) ∧ Boxed W S 3 (.int .i64 (k : Int)))) ∧ (Marks w.heap.size S W ds ∧ Below w.heap.size w W))
    (fun _ _ _ => False)
    (OwnFrom.and (OwnFrom.and (Own.from (holdsRow_own w.heap.size w.heap.size 30 48 14 (fun qre : List Sg => pre.length + qre.length) (fun qre => sgsC (pre ++ qre.map fun s => (k, s))) (fun _ _ => True)) _) (OwnFrom.and (Own.from (boxed_own _ _ _) _) (Own.from (boxed_own _ _ _) _))) (OwnFrom.and (fun _ X Y row hs hg hr => marks_own (by omega) hs hg hr) (ownFrom_below (Nat.le_refl _) (by omega))))
    (fun _ _ _ _ _ hs _ _ => hs)
    ⟨⟨⟨v, hbx1, by simpa using hrow1, trivial⟩, y1, y2⟩, hmk1, hB1⟩
    (fun x a' W => ∃ Bx, BoxS W Bx 48 (sgC (k, x)) ∧ a' = { tmps := #[.slice (some ⟨b, o, none⟩) cs.length cap, undef, .slice none 0 0, .pointer (some ⟨w.heap.size, 0, none⟩), .int .i64 (k : Int), .string c, .pointer (some ⟨Bx, 0, none⟩), .slice (some ⟨b, o, none⟩) cs.length cap, .int .i64 (cs.length : Int), .int .i64 (k : Int), .bool true, .int .i64 (k : Int), .pointer (some ⟨b, o + k, none⟩), .string c, .int .i64 (k : Int), .string c, .func (.func 64) #[] #[.pointer (some ⟨S + 1, 0, none⟩), .pointer (some ⟨S, 0, none⟩)], sgV (k, x), u18, u19, u20, u21, u22, undef], defers := [] })
    (fun x a' _ X Y row hs hg hr => by obtain ⟨Bx, h1, h2⟩ := hs; exact ⟨Bx, BoxS.own _ _ _ _ h1 hg hr, h2⟩)
    ?assign ?body ?done ?stop
   case assign =>
    rintro l qre x W K ⟨⟨⟨v, bv, rv, -⟩, z1, z2⟩, mk, hBW⟩ hK
    have hnew : BoxS (W.alloc (.cells (sgC (k, x)).toArray 48)) W.heap.size 48 (sgC (k, x)) := World.alloc_heap_new W _
    have hkk := hK _ (W.alloc (.cells (sgC (k, x)).toArray 48)) ((KeepsOthers.alloc _ _).from _) ⟨Below.heap_alloc W _ _ z1.lt, Below.heap_alloc W _ _ z2.lt⟩
     ⟨⟨⟨v, bv.alloc _, rv.alloc _, trivial⟩, z1.alloc _, z2.alloc _⟩, mk.others (KeepsOthers.alloc _ _), hBW.alloc hBW.size _⟩ ⟨W.heap.size, hnew, rfl⟩
    obtain ⟨at_, ⟨kind, reel, sess, idx, len, data, spare, arch, pay⟩, d, u, n⟩ := x
    simp only [sgV, sgC, Fr.cells, List.cons_append, List.nil_append] at hkk ⊢
    clear hK hnew bv rv z1 z2 mk hBW
    gi_wp2
    exact hkk
   case body =>
    rintro l qre x a' W hl ⟨r, hr⟩ ⟨⟨⟨v, bv, rv, -⟩, z1, z2⟩, mk, hBW⟩ ⟨Bx, hx, rfl⟩ hlt
    have e1 : pre.length + qre.length + 1 ≤ maxLen := by have := hpl.out; have := hck.out; have := hk10.out; unfold maxLen; omega
    have e2 : (pre.length + qre.length + 1) * 120 ≤ 140737488355328 := by have := hpl.out; have := hck.out; have := hk10.out; omega
    have e3 : ∀ o, w.heap.size ≤ (W.alloc o).heap.size := fun o => by have := hBW.size; simp; omega
    have hone := sgC_one (k, x)
    have hsn := sgs_snoc pre qre x k
    obtain ⟨at_, ⟨kind, reel, sess, idx, len, data, spare, arch, pay⟩, d, u, n⟩ := x
    have hv14 : VAt W Bx [.int .i64 (k : Int), .int .i64 (at_ : Int), .int .i64 kind, .int .i64 reel, .int .i64 sess, .int .i64 idx, .int .i64 len, .int .i64 data, .int .i64 spare, .int .u32 (arch.toNat : Int), .string pay, .int .i64 d, .int .i64 u, .int .i64 n] := vat_of_block hx
    obtain ⟨c0, c1, c2, c3, c4, c5, c6, c7, c8, c9, ca, cb, cc, cd⟩ := cells14 hv14
    have cv := bv.cell
    have kp1 : ∀ {w1 : World} {o : Obj} (v' : Value), (W.alloc o).grownBy w1 v.ownBlock → KpS (S + 1) S W (w1.setCell ⟨w.heap.size, 0, none⟩ v') := fun {w1 o} v' hg =>
     ⟨(Below.heap_setCell _ _ _ _ (by show S + 1 ≠ w.heap.size; omega)).trans ((hg.block (S + 1) (by have := z1.lt; simp; omega) (z1.not_row (by decide) rv)).trans (Below.heap_alloc W _ _ z1.lt)),
      (Below.heap_setCell _ _ _ _ (by show S ≠ w.heap.size; omega)).trans ((hg.block S (by have := z2.lt; simp; omega) (z2.not_row (by decide) rv)).trans (Below.heap_alloc W _ _ z2.lt))⟩
    simp only [sgV, sgC, Fr.cells, List.cons_append, List.nil_append] at hone hsn ⊢
    replace hsn := Lib.hid hsn
    replace kp1 := Lib.hid (fun (w1 : World) (o : Obj) (v' : Value) (h : (W.alloc o).grownBy w1 v.ownBlock) => kp1 v' h)
    clear hx hv14 hr hlt
    gi_wp2_with (gi_at_builtin; refine wpListIn_append_own _ rfl _ _ 30 rfl w.heap.size 48 i0 (.agg #[.int .i64 0, .int .i64 0, .int .i64 0, .int .i64 0, .int .i64 0, .int .i64 0, .int .i64 0, .int .i64 0, .int .i64 0, .int .u32 0, .string ⟨#[]⟩, .int .i64 0, .int .i64 0, .int .i64 0]) 14 120 Tryz.underlying30 hi hz0 hz1 hz2 rfl (by decide) _ _ _ rfl (rv.alloc _) ⟨W.heap.size, 0, none⟩ 1 1 [.int .i64 (k : Int), .int .i64 (at_ : Int), .int .i64 kind, .int .i64 reel, .int .i64 sess, .int .i64 idx, .int .i64 len, .int .i64 data, .int .i64 spare, .int .u32 (arch.toNat : Int), .string pay, .int .i64 d, .int .i64 u, .int .i64 n] rfl rfl (list_new _ _ _) hone e1 e2 (e3 _) ?_; intro v' w1 hown' hgrow _; obtain ⟨g', cap', rfl⟩ := ownsRow_succ hown'; obtain ⟨hv1, hv2, hr2, hk2, hb2⟩ := bv.appended (by decide) rv hBW.size (Nat.le_refl _) hown' hgrow; have hc1 := hv1.cell; have hf1 := hv1.frozen)
    have hkp := kp1.out _ _ (.slice (some ⟨g', 0, none⟩) (pre.length + qre.length + 1) cap') hgrow
    refine ⟨hk2.from _, hkp, ⟨⟨⟨_, hv2, ?_, trivial⟩, kpS_box hkp z1, kpS_box2 hkp z2⟩, mk.others hk2, hBW.trans hb2⟩⟩
    rw [hsn.out, List.length_append, List.length_singleton, ← Nat.add_assoc]
    exact hr2
   case done =>
    rintro D ys W hD hS2 ⟨⟨⟨v, bv, rv, -⟩, z1, z2⟩, mk, hBW⟩ hK
    have hlen := hS2.len
    have hDl := (Array.getElem?_eq_some_iff.1 hK).1
    have hmk2 := (mk.push (D := D) (by omega) (by omega) hK #[]).more (show D + 1 ≤ W.heap.size by omega)
    have hpl2 : (pre ++ ys.map fun s => (k, s)).length ≤ (k + 1) * 1000001 := by
     rw [List.length_append, List.length_map]
     have := hpl.out
     have := hck.out
     omega
    have hrv2 : W.ownsRow w.heap.size 48 14 v (pre ++ ys.map fun s => (k, s)).length (sgsC (pre ++ ys.map fun s => (k, s))) := by
     rw [List.length_append, List.length_map]
     exact rv
    have hU2 := hst.out ys hS2
    have hk2 := hklt.out
    replace hU2 := Lib.hid hU2
    replace hmk2 := Lib.hid hmk2
    replace hpl2 := Lib.hid hpl2
    replace hrv2 := Lib.hid hrv2
    replace hk2 := Lib.hid hk2
    clear hlen hDl rv z1 z2 mk hK hS2
    gi_wp2
    exact ⟨⟨k + 1, _, _, v, _, _, _, _, _, _, _, _, _, _, _, _, _, _, _, _, rfl, hk2.out, hU2.out, hpl2.out, bv, hrv2.out, hmk2.out, hBW⟩, by simp [intOf]; have := hk2.out; omega⟩
   case stop =>
    rintro D cc qre W _ _ h _
    exact h.elim
  ·obtain rfl : k = cs.length := by omega
   have dk : decide ((cs.length : Int) < (cs.length : Int)) = false := decide_eq_false (by omega)
   have dk' : decide (cs.length < cs.length) = false := decide_eq_false (by omega)
   have cv := hbx.cell
   have hpl2 : pre.length ≤ 10000010 := by have := hn.out; omega
   have hfin := Lib.hid (fun (W' : World) hr hb => hgoal.out pre v W' (hdone.out pre hU) hpl2 hr hb)
   obtain ⟨Av, nv, cv2, rfl⟩ : ∃ A n c, v = .slice A n c := by
    obtain ⟨A, c, e, _⟩ := own_rd hrow
    exact ⟨A, _, c, e⟩
   clear hgoal hdone hstep hone hread hk hU hpl hlt hpl2
   gi_wp2
   refine leaves_marks (Nat.le_refl _) ds _ wr (by simp) hmk hB (fun W' hb hcl => ?_)
   refine ⟨_, results_tmp rfl _ _ _, ?_⟩
   exact hfin.out W' (own_cells hrow hcl) hb
theorem piece_own (c : ByteArray) (w : World) (hc : c.size ≤ 1000000) : Calls Tryz.prog 17 #[.string c] w (PcP c w) := by
 have hal : Below w.heap.size w (w.alloc (.cells #[.string c] 9)) := (Below.refl _ _).alloc (Nat.le_refl _) _
 have hrd : Rd (w.alloc (.cells #[.string c] 9)) (some ⟨w.heap.size, 0, none⟩) ([c].map Value.string) := fun j hj => by
  have h0 : j = 0 := by simpa using hj
  subst h0
  refine ⟨w.heap.size, 0, rfl, by simp, ?_⟩
  rw [World.cell?_alloc_new]
  rfl
 have cP := Lib.hid (pieces_own [c] (some ⟨w.heap.size, 0, none⟩) 1 _ (by show 1 ≤ 10; omega) (fun x hx => by rw [List.mem_singleton.1 hx]; exact hc) hrd)
 have hgoal : ∀ (L : List (Nat × Sg)) (v : Value) (w' : World), Scans 0 [c] L → w'.ownsRow (w.alloc (.cells #[.string c] 9)).heap.size 48 14 v L.length (sgsC L) → Below (w.alloc (.cells #[.string c] 9)).heap.size (w.alloc (.cells #[.string c] 9)) w' → PcP c w (.returned v) w' := fun L v w' h1 h2 h3 => by
  obtain ⟨l, hl, rfl⟩ := h1.one
  refine ⟨l, v, hl, rfl, ?_, chain hal h3⟩
  rw [List.length_map] at h2
  refine ⟨h2.1, ?_⟩
  rcases h2.2 with h0 | ⟨g, cap, cur, rfl, hg, hh⟩
  ·exact .inl h0
  ·exact .inr ⟨g, cap, cur, rfl, by simp at hg; omega, hh⟩
 unfold PsP at cP
 rw [show [c].length = 1 from rfl] at cP
 obtain ⟨P, hP⟩ : ∃ P, PcP c w = P := ⟨_, rfl⟩
 rw [hP] at hgoal ⊢
 replace hgoal := Lib.hid hgoal
 clear hP hrd hal hc
 show Calls _ _ _ _ (fun e w' => P e w')
 go_enter Tryz.func17, Tryz.ntmps17
 go_wp2_with fail
 refine cP.out.mono ?_
 rintro e w1 ⟨L, v, h1, _, rfl, h2, h3⟩
 have hfin := Lib.hid (hgoal.out L v w1 h1 h2 h3)
 clear hgoal h1 h2 h3 cP
 go_wp2
 first | go_ret | skip
 exact hfin.out
end S14
end Go.Proofs.YtiodkllckcpinaaGreatDoor
