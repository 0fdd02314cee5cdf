/- Package chunk: the window of no change. -/
import Derived.Test.YteahhkpbjkcmhaaDoorDwin
namespace Go.Proofs.YteahhkpbjkcmhaaDoor
open Go.RowKit
set_option linter.unusedVariables false

def noughtN : Nat → Nat
  | 0 => 63 | 1 => 62 | 2 => 60 | 3 => 56 | 4 => 48 | 5 => 32 | _ => 0
set_option maxHeartbeats 2000000 in
theorem d_ahead0 (w : World) : Calls Tryd.prog 53 #[.int .u64 0] w fun e w' => e = .returned (.int .i64 31) ∧ w = w' := by
  go_enter Tryd.func53, Tryd.ntmps53
  go_wp2
  go_loop [0, 3, 4] (fun t0 t3 t4 => ∃ j : Nat, j ≤ 6 ∧ t0 = .int .u64 0 ∧ t3 = .int .i64 (noughtN j) ∧ t4 = .int .i64 (halfN j)) (fun _ _ t4 => (intOf t4).toNat)
  case atStart => exact ⟨6, by omega, rfl, rfl, rfl⟩
  case round =>
    obtain ⟨j, hj, rfl, rfl, rfl⟩ := hrel
    have hcase : j = 0 ∨ j = 1 ∨ j = 2 ∨ j = 3 ∨ j = 4 ∨ j = 5 ∨ j = 6 := by omega
    rcases hcase with rfl | rfl | rfl | rfl | rfl | rfl | rfl
    · simp only [halfN, noughtN]
      go_wp2
      go_ret
      exact ⟨rfl, rfl⟩
    · simp only [halfN, noughtN]
      go_wp2
      go_round
      case rel => exact ⟨0, by omega, rfl, rfl, rfl⟩
      case measure => simp [intOf]
    · simp only [halfN, noughtN]
      go_wp2
      go_round
      case rel => exact ⟨1, by omega, rfl, rfl, rfl⟩
      case measure => simp [intOf]
    · simp only [halfN, noughtN]
      go_wp2
      go_round
      case rel => exact ⟨2, by omega, rfl, rfl, rfl⟩
      case measure => simp [intOf]
    · simp only [halfN, noughtN]
      go_wp2
      go_round
      case rel => exact ⟨3, by omega, rfl, rfl, rfl⟩
      case measure => simp [intOf]
    · simp only [halfN, noughtN]
      go_wp2
      go_round
      case rel => exact ⟨4, by omega, rfl, rfl, rfl⟩
      case measure => simp [intOf]
    · simp only [halfN, noughtN]
      go_wp2
      go_round
      case rel => exact ⟨5, by omega, rfl, rfl, rfl⟩
      case measure => simp [intOf]
set_option maxHeartbeats 2000000 in
theorem d_behind0 (w : World) : Calls Tryd.prog 54 #[.int .u64 0] w fun e w' => e = .returned (.int .i64 63) ∧ w = w' := by
  go_enter Tryd.func54, Tryd.ntmps54
  go_wp2
  go_loop [0, 3, 4] (fun t0 t3 t4 => ∃ j : Nat, j ≤ 6 ∧ t0 = .int .u64 0 ∧ t3 = .int .i64 (noughtN j) ∧ t4 = .int .i64 (halfN j)) (fun _ _ t4 => (intOf t4).toNat)
  case atStart => exact ⟨6, by omega, rfl, rfl, rfl⟩
  case round =>
    obtain ⟨j, hj, rfl, rfl, rfl⟩ := hrel
    have hcase : j = 0 ∨ j = 1 ∨ j = 2 ∨ j = 3 ∨ j = 4 ∨ j = 5 ∨ j = 6 := by omega
    rcases hcase with rfl | rfl | rfl | rfl | rfl | rfl | rfl
    · simp only [halfN, noughtN]
      go_wp2
      go_ret
      exact ⟨rfl, rfl⟩
    · simp only [halfN, noughtN]
      go_wp2
      go_round
      case rel => exact ⟨0, by omega, rfl, rfl, rfl⟩
      case measure => simp [intOf]
    · simp only [halfN, noughtN]
      go_wp2
      go_round
      case rel => exact ⟨1, by omega, rfl, rfl, rfl⟩
      case measure => simp [intOf]
    · simp only [halfN, noughtN]
      go_wp2
      go_round
      case rel => exact ⟨2, by omega, rfl, rfl, rfl⟩
      case measure => simp [intOf]
    · simp only [halfN, noughtN]
      go_wp2
      go_round
      case rel => exact ⟨3, by omega, rfl, rfl, rfl⟩
      case measure => simp [intOf]
    · simp only [halfN, noughtN]
      go_wp2
      go_round
      case rel => exact ⟨4, by omega, rfl, rfl, rfl⟩
      case measure => simp [intOf]
    · simp only [halfN, noughtN]
      go_wp2
      go_round
      case rel => exact ⟨5, by omega, rfl, rfl, rfl⟩
      case measure => simp [intOf]
theorem d_windowOf0 (w : World) : Calls Tryd.prog 38 #[.int .u64 0] w fun e w' => e = .returned (.agg #[.int .i64 31, .int .i64 63]) ∧ w' = w.alloc (.cells #[.int .i64 31, .int .i64 63] 64) := by
  go_enter Tryd.func38, Tryd.ntmps38
  go_wp2_with fail
  refine (d_ahead0 _).mono ?_
  rintro e w1 ⟨rfl, rfl⟩
  go_wp2_with fail
  refine (d_behind0 _).mono ?_
  rintro e w2 ⟨rfl, rfl⟩
  go_wp2
  exact bodyPost_ret (v := .agg #[.int .i64 31, .int .i64 63]) (by simp [results, Tryd.results38, go_sem]) rfl ⟨rfl, rfl⟩
end Go.Proofs.YteahhkpbjkcmhaaDoor
