/- The document's own edges of what is not 0. -/
import Derived.Test.YteahhkpbjkcmhaaDoorRstep
import Derived.Test.YteahhkpbjkcmhaaDoorMh
namespace Go.Proofs.YteahhkpbjkcmhaaDoor
open Go.RowKit
set_option linter.unusedVariables false

theorem and_one_bit (x : Int) (s : Nat) (hx : 0 ≤ x ∧ x ≤ 18446744073709551615) : bits .and .u64 (x / 2 ^ s) 1 = bitI x s := by
  have hb := shr_bd x s hx
  have e : x / 2 ^ s = (((x / 2 ^ s).toNat : Nat) : Int) := by omega
  unfold bitI
  generalize x / 2 ^ s = y at *
  rw [e, show (1 : Int) = ((1 : Nat) : Int) from rfl, u64_and_nat _ _ (by omega) (by omega), Nat.and_one_is_mod]
  omega
set_option maxHeartbeats 1000000 in
theorem r_edges (x : Int) (w : World) (h0 : 0 < x) (h1 : x ≤ 18446744073709551615) :
    Calls Tryd.prog 28 #[.int .u64 x] w fun e w' => e = .returned (.tuple #[.int .i64 (min (leadN x : Int) 31), .int .i64 (trailN x)]) ∧ w = w' := by
  obtain ⟨⟨a1, a2, a3⟩, b1, b2, b3⟩ := edges_of h0 (by omega : x < 2 ^ 64)
  have HB : Hid (∀ s, bits .and .u64 (x / 2 ^ s) 1 = bitI x s) := fun s => and_one_bit x s ⟨by omega, h1⟩
  have HA : Hid (leadN x < 64 ∧ bitI x (63 - leadN x) = 1 ∧ ∀ j, j < leadN x → bitI x (63 - j) = 0) := ⟨a1, a2, a3⟩
  have HT : Hid (trailN x < 64 ∧ bitI x (trailN x) = 1 ∧ ∀ j, j < trailN x → bitI x j = 0) := ⟨b1, b2, b3⟩
  clear a2 a3 b2 b3
  generalize leadN x = A at *
  generalize trailN x = T at *
  go_enter Tryd.func28, Tryd.ntmps28
  go_wp2
  go_loop [4] (fun t4 => ∃ k : Nat, k ≤ A ∧ t4 = .int .i64 k) (fun t4 => A - (intOf t4).toNat)
  case atStart => exact ⟨0, Nat.zero_le _, rfl⟩
  case round =>
    obtain ⟨k, hk, rfl⟩ := hrel
    have hb := HB.out (63 - k)
    have e63 : ((63 : Int) - (k : Int)) = ((63 - k : Nat) : Int) := by omega
    by_cases hlt : k < A
    · rw [HA.out.2.2 k hlt] at hb
      go_wp2
      go_round
      case rel => exact ⟨k + 1, by omega, by go_num⟩
      case measure => simp [intOf]; omega
    · obtain rfl : k = A := by omega
      rw [HA.out.2.1] at hb
      go_wp2
      go_loop [5] (fun t5 => ∃ m : Nat, m ≤ T ∧ t5 = .int .i64 m) (fun t5 => T - (intOf t5).toNat)
      case atStart => exact ⟨0, Nat.zero_le _, rfl⟩
      case round =>
        obtain ⟨m, hm, rfl⟩ := hrel
        have hc := HB.out m
        by_cases hlt2 : m < T
        · rw [HT.out.2.2 m hlt2] at hc
          go_wp2
          go_round
          case rel => exact ⟨m + 1, by omega, by go_num⟩
          case measure => simp [intOf]; omega
        · obtain rfl : m = T := by omega
          rw [HT.out.2.1] at hc
          go_wp2
          · have e : min (k : Int) 31 = 31 := by omega
            go_ret2
            refine ⟨?_, rfl⟩
            rw [e]
            rfl
          · have e : min (k : Int) 31 = k := by omega
            go_ret2
            refine ⟨?_, rfl⟩
            rw [e]
            rfl
end Go.Proofs.YteahhkpbjkcmhaaDoor
