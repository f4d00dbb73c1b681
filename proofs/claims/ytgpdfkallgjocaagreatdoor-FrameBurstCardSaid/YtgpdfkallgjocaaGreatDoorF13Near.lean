/- What Decode hands back for a frame's cells in a burst (F = f and no error), and for erased and inverted cells (the quality too). No walk here. -/
import Derived.Test.YtgpdfkallgjocaaGreatDoorF13Law1
import Derived.Test.YtgpdfkallgjocaaGreatDoorF13More
namespace Go.Proofs.YtgpdfkallgjocaaGreatDoor.F13
set_option maxRecDepth 100000
open Go.RowKit Mem
set_option linter.unusedVariables false
set_option linter.unusedSimpArgs false

theorem bxr8 (x y : UInt8) : bits .xor .u8 (x.toNat : Int) (y.toNat : Int) = ((x ^^^ y).toNat : Int) := by
  rw [UInt8.toNat_xor]
  exact u8_xor_nat _ _ x.toNat_lt y.toNat_lt
theorem dS_body (W : ByteArray) : I11.dS (bodyC W) 8 = C9.sb (C9.enc (bitsOf W)) := by
  show (⟨(I11.dl 8 (I11.il 8 (C9.cs (C9.enc (bitsOf W))))).toArray⟩ : ByteArray) = _
  rw [I11.dl_il (by decide)]
  rfl
theorem body_ok (W : ByteArray) : (bodyC W).data.toList.all C9.okC = true := by
  rw [bodyC_list, List.all_eq_true]
  exact fun x hx => List.all_eq_true.1 (C9.okC_sb (C9.enc (bitsOf W))) x ((I11.perm_il (by decide) _).mem_iff.1 hx)
theorem body_bits (W : ByteArray) : ∀ x ∈ (bodyC W).data.toList, x = 48 ∨ x = 49 := by
  rw [bodyC_list]
  intro x hx
  have h := (I11.perm_il (r := 8) (by decide) _).mem_iff.1 hx
  unfold C9.cs at h
  obtain ⟨b, _, rfl⟩ := List.mem_map.1 h
  cases b
  · exact .inl rfl
  · exact .inr rfl
theorem Bu.flip {C c : List UInt8} {a k : Nat} (h : Bu C a c k) (hC : ∀ x ∈ C, x = 48 ∨ x = 49) (hk : k < c.length) : C9.okC (c[k] ^^^ 1) = true := by
  have hkC : k < C.length := by rw [← h.len]; exact hk
  have h1 : c.getD k 0 = C.getD k 0 := by
    by_cases e : c.getD k 0 = C.getD k 0
    · exact e
    · have := (h.rest k e).2
      omega
  rw [getD_lt hk, getD_lt hkC] at h1
  rw [h1]
  rcases hC _ (List.getElem_mem hkC) with e | e <;> rw [e] <;> rfl
theorem body_len {W : ByteArray} (h : W.size = 52) : (bodyC W).data.toList.length = 836 := by have := bodyC_size h; simpa using this
theorem dec_near {f : Fr} {W c : ByteArray} (hv : Valid f) (hW : Word f W) (hs : c.size ≤ 836) (hc : c.data.toList.all C9.okC = true) (a : Nat)
    (h : ∀ p, p < 836 → (padL c.data.toList).getD p 0 ≠ (bodyC W).data.toList.getD p 0 → a ≤ p ∧ p < a + 90) {F : Fr} {d u n k : Int} (hD : DcQ c F d u n k) : F = f ∧ k = 0 := by
  have hck : C1.chk c.data.toList = 0 := chk_okC.2 hc
  have hI := (hD.2 hck).2 hs
  have ha : Apart (xB c).data.toList (C9.enc (bitsOf W)) := by
    rw [xB_list]
    exact burst (encL W (hW.size hv)) (padL_len (by simpa using hs)) a h
  obtain ⟨e1, _, _, _, e5⟩ := inner hv hW (xB_size hs) (xB_ok hck) ha hI
  exact ⟨e1, e5⟩
theorem dec_bu {f : Fr} {W : ByteArray} {X : List UInt8} {a e : Nat} (hv : Valid f) (hW : Word f W) (h : Bu (bodyC W).data.toList a X e) (he : e ≤ a + 90) {F : Fr} {d u n k : Int} (hD : DcQ ⟨X.toArray⟩ F d u n k) : F = f ∧ k = 0 := by
  have hl : X.length = 836 := by rw [h.len]; exact body_len (hW.size hv)
  refine dec_near (c := ⟨X.toArray⟩) hv hW (by show X.length ≤ 836; omega) h.ok a (fun p hp hne => ?_) hD
  rw [show (⟨X.toArray⟩ : ByteArray).data.toList = X from rfl, padL_full hl] at hne
  have := h.rest p hne
  omega
theorem dec_first {f : Fr} {W c O : ByteArray} (hv : Valid f) (hW : Word f W) (hO : O.data.toList = List.replicate 90 63) (hc : c.data.toList = O.data.toList ++ (bodyC W).data.toList.drop 90) {F : Fr} {d u n k : Int} (hD : DcQ c F d u n k) : F = f ∧ k = 0 := by
  have hb := body_len (hW.size hv)
  have hl : c.data.toList.length = 836 := by rw [hc, hO, List.length_append, List.length_replicate, List.length_drop]; omega
  refine dec_near (c := c) hv hW (by have : c.size = 836 := by simpa using hl
                                     omega) ?_ 0 (fun p hp hne => ?_) hD
  · rw [hc, hO, List.all_append, Bool.and_eq_true]
    refine ⟨by decide, ?_⟩
    rw [List.all_eq_true]
    exact fun x hx => List.all_eq_true.1 (body_ok W) x (List.mem_of_mem_drop hx)
  · by_cases h90 : p < 90
    · omega
    · refine absurd ?_ hne
      rw [padL_full hl, hc, hO, List.getD_eq_getElem?_getD, List.getD_eq_getElem?_getD, List.getElem?_append_right (by rw [List.length_replicate]; omega), List.length_replicate, List.getElem?_drop]
      congr 2
      omega
theorem dec_last {f : Fr} {W c : ByteArray} (hv : Valid f) (hW : Word f W) (hc : c.data.toList = (bodyC W).data.toList.take 746) {F : Fr} {d u n k : Int} (hD : DcQ c F d u n k) : F = f ∧ k = 0 := by
  have hb := body_len (hW.size hv)
  have hl : c.data.toList.length = 746 := by rw [hc, List.length_take]; omega
  refine dec_near (c := c) hv hW (by have : c.size = 746 := by simpa using hl
                                     omega) ?_ 746 (fun p hp hne => ?_) hD
  · rw [hc, List.all_eq_true]
    exact fun x hx => List.all_eq_true.1 (body_ok W) x (List.mem_of_mem_take hx)
  · by_cases h7 : p < 746
    · refine absurd ?_ hne
      unfold padL
      rw [hc, List.getD_eq_getElem?_getD, List.getD_eq_getElem?_getD, List.getElem?_append_left (by rw [List.length_take]; omega), List.getElem?_take_of_lt h7]
    · omega
theorem dec_sc {f : Fr} {W c : ByteArray} {X : List UInt8} {m e : Nat} (hv : Valid f) (hW : Word f W) (h : Sc (C9.enc (bitsOf W)) X m e) (hc : c = I11.iS ⟨X.toArray⟩ 8) {F : Fr} {d u n k : Int} (hD : DcQ c F d u n k) : F = f ∧ d = (m : Int) ∧ u = 0 ∧ n = 0 ∧ k = 0 := by
  subst hc
  have hl : X.length = 836 := by rw [h.len]; exact encL W (hW.size hv)
  have := dec_il (X := X) hv hW rfl hl h.ok h.apart hD
  rw [h.mis, show C1.unr X = 0 from h.unr] at this
  exact this
theorem dec_er {f : Fr} {W c : ByteArray} {X : List UInt8} {a m e : Nat} (hv : Valid f) (hW : Word f W) (h : Er (C9.enc (bitsOf W)) a X m e) (hc : c = I11.iS ⟨X.toArray⟩ 8) {F : Fr} {d u n k : Int} (hD : DcQ c F d u n k) : F = f ∧ d = 0 ∧ u = (m : Int) ∧ n = 0 ∧ k = 0 := by
  subst hc
  have hl : X.length = 836 := by rw [h.len]; exact encL W (hW.size hv)
  have := dec_il (X := X) hv hW rfl hl h.ok h.apart hD
  rw [h.mis, show C1.unr X = m from h.unr] at this
  exact this
end Go.Proofs.YtgpdfkallgjocaaGreatDoor.F13
