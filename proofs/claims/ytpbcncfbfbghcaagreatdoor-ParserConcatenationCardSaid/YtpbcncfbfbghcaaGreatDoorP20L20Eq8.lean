/- Equal statements, as the reference finds out: the one way (layer 20). -/
import Derived.Test.YtpbcncfbfbghcaaGreatDoorP20O
import Derived.Laws.StructEq
import Derived.BigQuiet
import Derived.Deep.QuietTactic
namespace Go.Proofs.YtpbcncfbfbghcaaGreatDoor.L20
set_option maxRecDepth 100000
open Go.RowKit Mem L19
set_option linter.unusedVariables false
set_option linter.unusedSimpArgs false

set_option maxHeartbeats 16000000 in
theorem refStmtsT : ∀ (d : Nat) {A B : Option Addr} {ca cb : Nat} {F G : Nat → Prop} {l : List Sta} {w : World} (hd : szT l < d) (hA : Sts w F l A ca) (hB : Sts w G l B cb) (wl : WfT l) {n : Nat} (hn : l.length = n),
    Calls Tryz.prog 41 #[.slice A n ca, .slice B n cb] w fun e w' => e = .returned (.bool true) ∧ ∃ q, w' = w.drewN q := by
  intro d
  induction d with
  | zero => intro A B ca cb F G l w hd; omega
  | succ d ih =>
  intro A B ca cb F G l w hd hA hB wl n hn
  have hml : maxLen = 9223372036854775807 := rfl
  have hle := hA.le
  have hle3 := hB.le
  rw [hml] at hle hle3
  have hga := Lib.hid (fun (k : Nat) (x : Sta) (hk : l[k]? = some x) => hA.at hk)
  have hgb := Lib.hid (fun (k : Nat) (x : Sta) (hk : l[k]? = some x) => hB.at hk)
  have d0 : ((n : Int) != (n : Int)) = false := by simp
  clear hA hB
  go_enter Tryz.func41, Tryz.ntmps41
  go_wp2
  go_loopw [5] (fun iv wr => ∃ (k : Nat), iv = .int .i64 (k : Int) ∧ k ≤ n ∧ Hid (∃ q, wr = w.drewN q)) (fun iv _ => n - (intOf iv).toNat)
  case atStart => exact ⟨0, rfl, Nat.zero_le _, Lib.hid ⟨0, rfl⟩⟩
  case round =>
    obtain ⟨k, rfl, hk, hw⟩ := hrel
    by_cases hlt : k < n
    case pos =>
        have dk : decide ((k : Int) < (n : Int)) = true := decide_eq_true (by omega)
        have k0 : (0 : Int) ≤ (k : Int) := by omega
        have k1 : (k : Int) < (n : Int) := by omega
        have k2 : (k : Int) + 1 ≤ 9223372036854775807 := by omega
        obtain ⟨x, hT⟩ : ∃ x, l[k]? = some x := ⟨_, List.getElem?_eq_getElem (by omega)⟩
        obtain ⟨b1, o1, I, V, T, E, ci, cv, ct, ce, rfl, _, _, kI, kV, kT, kE, g⟩ := hga.out k _ hT
        obtain ⟨b2, o2, I2, V2, T2, E2, ci2, cv2, ct2, ce2, rfl, _, _, kI2, kV2, kT2, kE2, q⟩ := hgb.out k _ hT
        have hx := wf_sub (wl x (List.mem_of_getElem? hT))
        have hsz := sz_smem l k x hT
        have hsk := sz_sub x
        obtain ⟨lxI, hlxI⟩ : ∃ lx, x.idx.length = lx := ⟨_, rfl⟩
        obtain ⟨lxV, hlxV⟩ : ∃ lx, x.val.length = lx := ⟨_, rfl⟩
        obtain ⟨lxT, hlxT⟩ : ∃ lx, x.thn.length = lx := ⟨_, rfl⟩
        obtain ⟨lxE, hlxE⟩ : ∃ lx, x.els.length = lx := ⟨_, rfl⟩
        have kp : ∀ F j, Kept F w (wr.drewN j) := fun F j => by obtain ⟨q, e⟩ := hw.out; rw [e, World.drewN_drewN]; exact ⟨Nat.le_refl _, fun _ _ _ => rfl⟩
        have cI : Hid (∀ j, Calls Tryz.prog 70 #[.slice I lxI ci, .slice I2 lxI ci2] (wr.drewN j) fun e w' => e = .returned (.bool true) ∧ ∃ q, w' = (wr.drewN j).drewN q) := Lib.hid fun j => refExprs _ (Nat.lt_succ_self _) (kI.keep (kp _ j)) (kI2.keep (kp _ j)) hx.1 hx.1 hlxI hlxI (by simp)
        have cV : Hid (∀ j, Calls Tryz.prog 70 #[.slice V lxV cv, .slice V2 lxV cv2] (wr.drewN j) fun e w' => e = .returned (.bool true) ∧ ∃ q, w' = (wr.drewN j).drewN q) := Lib.hid fun j => refExprs _ (Nat.lt_succ_self _) (kV.keep (kp _ j)) (kV2.keep (kp _ j)) hx.2.1 hx.2.1 hlxV hlxV (by simp)
        have cT : Hid (∀ j, Calls Tryz.prog 41 #[.slice T lxT ct, .slice T2 lxT ct2] (wr.drewN j) fun e w' => e = .returned (.bool true) ∧ ∃ q, w' = (wr.drewN j).drewN q) := Lib.hid fun j => ih (by omega) (kT.keep (kp _ j)) (kT2.keep (kp _ j)) hx.2.2.1 hlxT
        have cE : Hid (∀ j, Calls Tryz.prog 41 #[.slice E lxE ce, .slice E2 lxE ce2] (wr.drewN j) fun e w' => e = .returned (.bool true) ∧ ∃ q, w' = (wr.drewN j).drewN q) := Lib.hid fun j => ih (by omega) (kE.keep (kp _ j)) (kE2.keep (kp _ j)) hx.2.2.2 hlxE
        have mv : ∀ (b o : Nat) (v : Value), w.cell? ⟨b, o, none⟩ = some v → wr.cell? ⟨b, o, none⟩ = some v := fun b o v h => by obtain ⟨q, e⟩ := hw.out; rw [e]; exact h
        have g0 := mv _ _ _ (g 0 _ rfl)
        have q0 := mv _ _ _ (q 0 _ rfl)
        have g1 := mv _ _ _ (g 1 _ rfl)
        have q1 := mv _ _ _ (q 1 _ rfl)
        have g2 := mv _ _ _ (g 2 _ rfl)
        have q2 := mv _ _ _ (q 2 _ rfl)
        have g3 := mv _ _ _ (g 3 _ rfl)
        have q3 := mv _ _ _ (q 3 _ rfl)
        have g4 := mv _ _ _ (g 4 _ rfl)
        have q4 := mv _ _ _ (q 4 _ rfl)
        have g5 := mv _ _ _ (g 5 _ rfl)
        have q5 := mv _ _ _ (q 5 _ rfl)
        simp only [← Nat.add_assoc, Nat.add_zero] at g0 g1 g2 g3 g4 g5 q0 q1 q2 q3 q4 q5
        unfold strV at g1 q1
        obtain ⟨S1, hS1⟩ : ∃ S : ByteArray, ⟨x.nam.toArray⟩ = S := ⟨_, rfl⟩
        rw [hS1] at g1 q1
        obtain ⟨zx, hzx⟩ : ∃ z : Int, (x.kind : Int) = z := ⟨_, rfl⟩
        rw [hzx] at g0 q0
        rw [hlxI] at g2 q2
        rw [hlxV] at g3 q3
        rw [hlxT] at g4 q4
        rw [hlxE] at g5 q5
        clear mv kp g q hS1 hga hgb hT kI kV kT kE kI2 kV2 kT2 kE2 hlxI hlxV hlxT hlxE hzx hx hsz hsk ih hd wl hn hle hle3 hml
        have t2 : (zx != zx) = false := by simp
        have t3 : (S1.toList == S1.toList) = true := by simp
        go_wp2
        conv in (List.append (α := Oper) _ _) => simp only [List.append_eq, List.cons_append, List.nil_append]
        refine wp_region_quiet_lit (by kernel_rfl) (by kernel_rfl) ?_
        repeat (go_big_quiet_step ((first | (go_at_call 70; with_reducible exact Calls.quiet_of (cI.out _)) | (go_at_call 70; with_reducible exact Calls.quiet_of (cV.out _)) | (go_at_call 41; with_reducible exact Calls.quiet_of (cT.out _)) | (go_at_call 41; with_reducible exact Calls.quiet_of (cE.out _)))))
        refine wpQuiet_nil ?_
        intro wz hwz
        obtain ⟨nq, hwz⟩ := hwz
        subst hwz
        go_wp2
        go_roundw
        case rel => exact ⟨k + 1, by go_num, by omega, Lib.hid (by obtain ⟨q, e⟩ := hw.out; exact ⟨q + nq, by rw [e, World.drewN_drewN]⟩)⟩
        case measure => simp [intOf]; omega
    case neg =>
        obtain rfl : k = n := by omega
        have dk : decide ((k : Int) < (k : Int)) = false := decide_eq_false (by omega)
        clear hga hgb
        go_wp2
        go_ret
        exact ⟨rfl, hw.out⟩
end Go.Proofs.YtpbcncfbfbghcaaGreatDoor.L20
