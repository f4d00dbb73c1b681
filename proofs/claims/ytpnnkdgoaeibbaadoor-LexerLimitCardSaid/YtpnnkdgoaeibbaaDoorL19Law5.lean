/- LexerLimit, walked. -/
import Derived.Test.YtpnnkdgoaeibbaaDoorL19Awake
import Derived.Test.YtpnnkdgoaeibbaaDoorI11Mk
namespace Go.Proofs.YtpnnkdgoaeibbaaDoor.L19
set_option maxRecDepth 100000
open Go.RowKit Mem
open M17 (Laid Laid.below)
set_option linter.unusedVariables false
set_option linter.unusedSimpArgs false

/-- The row while it is filled. -/
def fil (n k : Nat) : List UInt8 := List.replicate k 32 ++ List.replicate (n - k) 0
theorem fil_len {n k : Nat} (h : k ≤ n) : (fil n k).length = n := by
  unfold fil; rw [List.length_append, List.length_replicate, List.length_replicate]; omega
theorem fil_zero (n : Nat) : fil n 0 = List.replicate n 0 := by unfold fil; rw [List.replicate_zero, List.nil_append, Nat.sub_zero]
theorem fil_all (n : Nat) : fil n n = List.replicate n 32 := by unfold fil; rw [Nat.sub_self, List.replicate_zero, List.append_nil]
theorem fil_set {n k : Nat} (h : k < n) : (fil n k).set k 32 = fil n (k + 1) := by
  unfold fil
  rw [List.set_append_right _ _ (by rw [List.length_replicate]; exact Nat.le_refl _), List.length_replicate, Nat.sub_self]
  obtain ⟨m, hm⟩ : ∃ m, n - k = m + 1 := ⟨n - k - 1, by omega⟩
  rw [hm, show n - (k + 1) = m by omega, List.replicate_succ, List.set_cons_zero, List.replicate_succ' (n := k), List.append_assoc]
  rfl
set_option maxHeartbeats 16000000 in
theorem walk_limit (v : Int) (n : Nat) (hv : 60000 + v = (n : Int)) (hn : n ≤ 60127) (hn0 : 59872 ≤ n) (hv0 : -128 ≤ v) (hv1 : v ≤ 127) (c : UInt8) (w : World) (hL : Laid w) :
    Calls Tryd.prog 3 #[.int .i8 v, .int .u8 (c.toNat : Int)] w fun e w' => e = .returned (.bool true) ∧ Below w.heap.size w w' := by
  have cW := Lib.hid awake_any
  have hL := Lib.hid hL
  have wv : IntKind.i64.wrap v = v := by rw [IntKind.wrap_i64]; omega
  have N0 : (0 : Int) ≤ (n : Int) := by omega
  have N1 : (n : Int) ≤ 60127 := by omega
  have wn : IntKind.i64.wrap (n : Int) = (n : Int) := by rw [IntKind.wrap_i64]; omega
  obtain ⟨l0, hl0, hmk⟩ := I11.make_bytesI w n (by omega)
  have hB0 : BAt (w.alloc (.cells l0.toArray 5)) w.heap.size (fil n 0) := by
    rw [hl0, fil_zero]
    exact I11.made_at w _ _
  have hb0 : Below w.heap.size w (w.alloc (.cells l0.toArray 5)) := (Below.refl _ w).alloc (Nat.le_refl _) _
  have hs0 : w.heap.size < (w.alloc (.cells l0.toArray 5)).heap.size := by simp
  obtain ⟨W0, hW0⟩ : ∃ W0, w.alloc (.cells l0.toArray 5) = W0 := ⟨_, rfl⟩
  obtain ⟨G, hG⟩ : ∃ G, w.heap.size = G := ⟨_, rfl⟩
  rw [hW0, hG] at hmk hB0 hb0 hs0
  have c1 := Lib.hid (fun (S : ByteArray) (hS : S.data.toList = List.replicate n 32) (h : n ≤ 60000) W hL => Tokens_use S (by rw [hS]; exact blank_ans h) (len := 0) rfl (ni := 0) (ei := 0) rfl rfl W hL)
  have c2 := Lib.hid (fun (S : ByteArray) (hS : S.data.toList.length = n) (h : 60000 < n) W hL => Tokens_use S (ts := []) (n := 0) (e0 := 6) (by unfold ans; rw [if_pos (by omega)]) (len := 0) rfl (ni := 0) (ei := 6) rfl rfl W hL)
  have hset := Lib.hid (fun (k : Nat) (hk : k < n) (W : World) (h : BAt W G (fil n k)) => show BAt (W.setCell ⟨G, k, none⟩ (.int .u8 32)) G (fil n (k + 1)) by
    have := BAt.set h (k := k) (by rw [fil_len (by omega)]; exact hk) 32
    rw [fil_set hk] at this
    exact this)
  have hget := Lib.hid (fun (k : Nat) (hk : k < n) (W : World) (h : BAt W G (fil n k)) => show ∃ b : UInt8, W.cell? ⟨G, k, none⟩ = some (.int .u8 (b.toNat : Int)) ∧ W.frozen? ⟨G, k, none⟩ = false from
    ⟨_, h k (by rw [fil_len (by omega)]; exact hk)⟩)
  have hconv := Lib.hid (fun (W : World) (l : List UInt8) (h : BAt W G l) (hl : l.length = n) => h.conv (P := Tryd.prog) (cap := n) (n := n) (dst := 9) hl Tryd.underlying23 Tryd.underlying5 Tryd.underlying9)
  replace hB0 := Lib.hid hB0
  replace hs0 := Lib.hid hs0
  replace hb0 := Lib.hid hb0
  replace hG := Lib.hid hG
  clear hl0 hW0
  go_enter Tryd.func3, Tryd.ntmps3
  go_wp2
  go_loopw [21] (fun iv wr => ∃ k : Nat, k ≤ n ∧ iv = .int .i64 (k : Int) ∧ Hid (BAt wr G (fil n k)) ∧ Hid (G < wr.heap.size) ∧ Hid (Below G w wr)) (fun iv _ => n - (intOf iv).toNat)
  case atStart => exact ⟨0, Nat.zero_le _, rfl, hB0, hs0, hb0⟩
  case round =>
    clear hB0 hs0 hb0 hmk
    obtain ⟨k, hk, rfl, hg, hsz, hb⟩ := hrel
    by_cases hlt : k < n
    · have dk : decide ((k : Int) < (n : Int)) = true := decide_eq_true (by omega)
      have k0 : (0 : Int) ≤ (k : Int) := by omega
      have k1 : (k : Int) < (n : Int) := by omega
      obtain ⟨x, hn1, hf1⟩ := hget.out k hlt wr hg.out
      have hg2 := Lib.hid (hset.out k hlt wr hg.out)
      have hb2 := Lib.hid (hb.out.setCell (p := ⟨G, k, none⟩) (Nat.le_refl _) (.int .u8 32))
      have hs2 := Lib.hid (show G < (wr.setCell ⟨G, k, none⟩ (.int .u8 32)).heap.size by simpa using hsz.out)
      clear hg hb hsz hset hget hconv c1 c2
      go_wp2
      go_roundw
      case rel => exact ⟨k + 1, by omega, by go_num, hg2, hs2, hb2⟩
      case measure => simp [intOf]; omega
    · obtain rfl : k = n := by omega
      have dk : decide ((k : Int) < (k : Int)) = false := decide_eq_false (by omega)
      by_cases hbig : 60000 < k
      · have d2 : decide ((k : Int) ≤ 60000) = false := decide_eq_false (by omega)
        obtain ⟨x, hn1, hf1⟩ : ∃ b : UInt8, wr.cell? ⟨G, 0, none⟩ = some (.int .u8 (b.toNat : Int)) ∧ wr.frozen? ⟨G, 0, none⟩ = false := ⟨_, hg.out 0 (by rw [fil_len (Nat.le_refl _)]; omega)⟩
        have hg2 := BAt.set hg.out (k := 0) (by rw [fil_len (Nat.le_refl _)]; omega) c
        have hl2 : ((fil k k).set 0 c).length = k := by rw [List.length_set, fil_len (Nat.le_refl _)]
        have hcv := hconv.out _ _ hg2 hl2
        obtain ⟨S, hS⟩ : ∃ S : ByteArray, ⟨((fil k k).set 0 c).toArray⟩ = S := ⟨_, rfl⟩
        rw [hS] at hcv
        have hSl : S.data.toList.length = k := by rw [← hS]; exact hl2
        have hb2 := hb.out.setCell (p := ⟨G, 0, none⟩) (Nat.le_refl _) (.int .u8 (c.toNat : Int))
        obtain ⟨W1, hW1⟩ : ∃ W, wr.setCell ⟨G, 0, none⟩ (.int .u8 (c.toNat : Int)) = W := ⟨_, rfl⟩
        rw [hW1] at hcv hb2
        have k0 : (0 : Int) < (k : Int) := by omega
        have hb3 := Lib.hid (show Below w.heap.size w W1 by rw [hG.out]; exact hb2)
        have c3 := Lib.hid (c2.out S hSl hbig W1 (hL.out.below hb3.out))
        clear hg hb hsz hset hget hconv c1 c2 hg2 hl2 hS hSl hb2
        go_wp2_with fail
        refine (c3.out).mono ?_
        rintro e w2 ⟨A2, p2, rfl, hI2, hb4⟩
        have hbx := Lib.hid (chain hb3.out hb4)
        clear hI2 hb4 hb3 c3
        have cW9 := Lib.hid (cW.out _ (hL.out.below hbx.out))
        go_wp2_with fail
        refine (cW9.out).mono ?_
        rintro e w9 ⟨rfl, hb9⟩
        go_wp2
        first | go_ret | skip
        exact ⟨rfl, chain hbx.out hb9⟩
      · have d2 : decide ((k : Int) ≤ 60000) = true := decide_eq_true (by omega)
        have hcv := hconv.out wr _ hg.out (fil_len (Nat.le_refl _))
        rw [fil_all] at hcv
        obtain ⟨S, hS⟩ : ∃ S : ByteArray, ⟨(List.replicate k 32).toArray⟩ = S := ⟨_, rfl⟩
        rw [hS] at hcv
        have hSl : S.data.toList = List.replicate k 32 := by rw [← hS]
        have hb3 := Lib.hid (show Below w.heap.size w wr by rw [hG.out]; exact hb.out)
        have c3 := Lib.hid (c1.out S hSl (by omega) wr (hL.out.below hb3.out))
        clear hg hb hsz hset hget hconv c1 c2 hS hSl
        go_wp2_with fail
        refine (c3.out).mono ?_
        rintro e w2 ⟨A2, p2, rfl, hI2, hb4⟩
        have hbx := Lib.hid (chain hb3.out hb4)
        clear hI2 hb4 hb3 c3
        have cW9 := Lib.hid (cW.out _ (hL.out.below hbx.out))
        go_wp2_with fail
        refine (cW9.out).mono ?_
        rintro e w9 ⟨rfl, hb9⟩
        go_wp2
        first | go_ret | skip
        exact ⟨rfl, chain hbx.out hb9⟩
theorem row_limit (v c : Int) (w : World) (hL : Laid w) (q0 : (Lit.int .i8 v).wf = true) (q1 : (Lit.int .u8 c).wf = true) : Calls Tryd.prog 3 #[.int .i8 v, .int .u8 c] w fun e w' => e = .returned (.bool true) ∧ Below w.heap.size w w' := by
  obtain ⟨a0, a1⟩ : -128 ≤ v ∧ v ≤ 127 := (Lit.wf_int_iff .i8 _).1 q0
  obtain ⟨b0, b1⟩ : 0 ≤ c ∧ c ≤ 255 := (Lit.wf_int_iff .u8 _).1 q1
  have e : c = ((UInt8.ofNat c.toNat).toNat : Int) := by
    rw [UInt8.toNat_ofNat_of_lt' (by show c.toNat < 256; omega)]
    omega
  rw [e]
  exact walk_limit v (60000 + v).toNat (by omega) (by omega) (by omega) a0 a1 _ w hL
end Go.Proofs.YtpnnkdgoaeibbaaDoor.L19
