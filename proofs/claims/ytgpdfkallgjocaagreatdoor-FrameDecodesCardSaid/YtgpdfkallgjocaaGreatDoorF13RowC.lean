/- The walk of the law Decodes at what the reading says of its arguments. -/
import Derived.Test.YtgpdfkallgjocaaGreatDoorM13AC
import Derived.Test.YtgpdfkallgjocaaGreatDoorM13AX
import Derived.Test.YtgpdfkallgjocaaGreatDoorF13Law5
import Derived.ChangeSlices
namespace Go.Proofs.YtgpdfkallgjocaaGreatDoor.F13
set_option maxRecDepth 100000
open Go.RowKit Mem Go.ChangeShapes Go.WideShapes Go.ChangeAt
set_option linter.unusedVariables false
set_option linter.unusedSimpArgs false

theorem cells_change : Tryz.prog.cellsOf 40 = 3 := by kernel_rfl
theorem cells_sl16 : Tryz.prog.cellsOf 36 = 1 := by kernel_rfl
theorem cells_sl8 : Tryz.prog.cellsOf 37 = 1 := by kernel_rfl
theorem cells_u16 : Tryz.prog.cellsOf 38 = 1 := by kernel_rfl
theorem cells_u8 : Tryz.prog.cellsOf 5 = 1 := by kernel_rfl
theorem three_cells (cs : Array Value) (h : cs.size = 3) : ∃ c0 c1 c2, cs.toList = [c0, c1, c2] := by
  have hl : cs.toList.length = 3 := by simpa using h
  match hc : cs.toList, hl with
  | [c0, c1, c2], _ => exact ⟨_, _, _, rfl⟩
section
variable {H : Type} {enc : TypeId × Value → H} {w : World} {r : Reach} {b0 : Nat}
theorem row_of {k : IntKind} {t e : TypeId} {fuel : Nat} {c : Value} {x : DataW H × List MemPlace} (ht : Tryz.prog.underlying t = some (.slice e)) (he : Tryz.prog.underlying e = some (.int k)) (hc : Tryz.prog.cellsOf e = 1)
    (h : DataW.trod enc Tryz.prog w 0 (fun _ => true) true fuel t [c] = some x) : ∃ a n cap zs, c = .slice a n cap ∧ IsRow k w a n cap zs := by
  rcases open_ints ht he hc h with ⟨hcs, _⟩ | ⟨x, l, cc, zs, hcs, _, hl, hm, hz, _, hcell, hwz⟩
  · injection hcs with hcs _
    exact ⟨none, 0, 0, [], hcs, .inl ⟨rfl, rfl, rfl, rfl⟩⟩
  · injection hcs with hcs _
    exact ⟨some x, l, cc, zs, hcs, .inr ⟨_, rfl, hl, hm, by simpa using hz, hcell, hwz⟩⟩
theorem open_change {v : Value} {d : DataW H} {ps : List MemPlace} (hval : Value.okWide Tryz.prog w r b0 40 v) (hd : DataW.Trod enc Tryz.prog w 0 (fun _ => true) true 40 v d ps) :
    ∃ a1 n1 c1 z1 a2 n2 c2 z2 kp, v = .agg #[.slice a1 n1 c1, .slice a2 n2 c2, .int .u16 kp] ∧ IsRow .u16 w a1 n1 c1 z1 ∧ IsRow .u8 w a2 n2 c2 z2 ∧ (Lit.int .u16 kp).wf = true := by
  unfold Value.okWide at hval
  rw [Tryz.underlying40] at hval
  obtain ⟨cs, rfl, hsz, _⟩ := hval
  rw [cells_change] at hsz
  obtain ⟨c0, c1, c2, hcs⟩ := three_cells cs hsz
  obtain ⟨fuel, hf⟩ := hd
  have hcl : (Value.agg cs).cells.toList = cs.toList := rfl
  rw [hcl, hcs] at hf
  obtain ⟨xs, n, _, hx, _, hlen, hel⟩ := DataW.trod_struct Tryz.underlying40 hf
  match xs, hlen with
  | [y0, y1, y2], _ =>
    have e0 : DataW.trod enc Tryz.prog w 0 (fun _ => true) true n 36 (([c0, c1, c2].drop 0).take (Tryz.prog.cellsOf 36)) = some y0 := hel 0 _ rfl
    have e1 : DataW.trod enc Tryz.prog w 0 (fun _ => true) true n 37 (([c0, c1, c2].drop 1).take (Tryz.prog.cellsOf 37)) = some y1 := hel 1 _ rfl
    have e2 : DataW.trod enc Tryz.prog w 0 (fun _ => true) true n 38 (([c0, c1, c2].drop 2).take (Tryz.prog.cellsOf 38)) = some y2 := hel 2 _ rfl
    simp only [cells_sl16, cells_sl8, cells_u16, List.drop_zero, List.drop_succ_cons, List.take_succ_cons, List.take_zero] at e0 e1 e2
    obtain ⟨a1, n1, k1, z1, rfl, r1⟩ := row_of Tryz.underlying36 Tryz.underlying38 cells_u16 e0
    obtain ⟨a2, n2, k2, z2, rfl, r2⟩ := row_of Tryz.underlying37 Tryz.underlying5 cells_u8 e1
    obtain ⟨kp, h2, _, w2⟩ := DataW.trod_int Tryz.underlying38 e2
    injection h2 with h2 _
    subst h2
    refine ⟨a1, n1, k1, z1, a2, n2, k2, z2, kp, ?_, r1, r2, w2⟩
    congr 1
    apply Array.toList_inj.1
    rw [hcs]
end
theorem row_decodes (D : Dev) (f : Fr) (a1 : Option Addr) (n1 c1 : Nat) (z1 : List Int) (a2 : Option Addr) (n2 c2 : Nat) (z2 : List Int) (kp : Int) (s : ByteArray) (w : World) (h : FitB f) (r1 : IsRow .u16 w a1 n1 c1 z1) (r2 : IsRow .u8 w a2 n2 c2 z2) (hk : (Lit.int .u16 kp).wf = true) (hs : s.size ≤ 140737488351232) :
    Calls Tryz.prog 5 #[f.val, .agg #[.slice a1 n1 c1, .slice a2 n2 c2, .int .u16 kp], .string s] w fun e w' => e = .returned (.bool true) ∧ Below w.heap.size w w' := by
  obtain ⟨l1, h1⟩ := IsHw.of_row r1
  obtain ⟨l2, h2⟩ := IsBy.of_row r2
  have hkp : 0 ≤ kp ∧ kp ≤ 65535 := (Lit.wf_int_iff .u16 _).1 hk
  obtain ⟨k, rfl⟩ := Int.eq_ofNat_of_zero_le hkp.1
  exact walk_decodes D f a1 n1 c1 l1 a2 n2 c2 l2 k s w h1 h2 (by omega) (by omega) (fit_of h) (size_of h)
end Go.Proofs.YtgpdfkallgjocaaGreatDoor.F13
