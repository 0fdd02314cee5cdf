/- Package chunk: the window of a change. -/
import Derived.Test.YteahhkpbjkcmhaaDoorDform
import Derived.Test.YteahhkpbjkcmhaaDoorMh
namespace Go.Proofs.YteahhkpbjkcmhaaDoor
open Go.RowKit
set_option linter.unusedVariables false

def halfN : Nat → Nat
  | 0 => 0 | 1 => 1 | 2 => 2 | 3 => 4 | 4 => 8 | 5 => 16 | _ => 32
set_option maxHeartbeats 8000000 in
theorem d_ahead (x : Int) (w : World) (h0 : 0 ≤ x) (h1 : x < 2 ^ 64) :
    Calls Tryd.prog 53 #[.int .u64 x] w fun e w' => ∃ A : Nat, e = .returned (.int .i64 A) ∧ w = w' ∧ A ≤ 31 ∧ (0 < x → (A : Int) = min (leadN x : Int) 31) := by
  have H64 : Hid (x < 2 ^ 64) := h1
  have hx1 : x ≤ 18446744073709551615 := by omega
  have HA0 : Hid (AheadAt x 6 x 0) := AheadAt.start h0 h1
  have H0 : Hid (0 ≤ x) := h0
  clear h1
  go_enter Tryd.func53, Tryd.ntmps53
  go_wp2
  go_loop [0, 3, 4] (fun t0 t3 t4 => ∃ (j : Nat) (y : Int) (n : Nat), t0 = .int .u64 y ∧ t3 = .int .i64 n ∧ t4 = .int .i64 (halfN j) ∧ AheadAt x j y n ∧ 0 ≤ y) (fun _ _ t4 => (intOf t4).toNat)
  case atStart => exact ⟨6, x, 0, rfl, rfl, rfl, HA0.out, h0⟩
  case round =>
    obtain ⟨j, y, n, rfl, rfl, rfl, hA, hy0⟩ := hrel
    have HA : Hid (AheadAt x j y n) := hA
    have hj := hA.1
    have hy1 : y ≤ 18446744073709551615 := hA.2.2.2.1
    have hn := hA.2.1
    have hp : 0 < 2 ^ j := Nat.two_pow_pos j
    have hn64 : n < 64 := by omega
    have HY0 : Hid (0 ≤ y) := hy0
    clear HA0 hn hA hp
    have hcase : j = 0 ∨ j = 1 ∨ j = 2 ∨ j = 3 ∨ j = 4 ∨ j = 5 ∨ j = 6 := by omega
    rcases hcase with rfl | rfl | rfl | rfl | rfl | rfl | rfl
    · have hl : 0 < x → (n : Int) = leadN x := fun hx => by have := HA.out.2.2.2.2 hx; omega
      have HL : Hid (0 < x → (n : Int) = leadN x) := hl
      clear hl
      simp only [halfN]
      by_cases hn31 : (n : Int) ≤ 31
      · go_wp2
        go_ret
        exact ⟨n, rfl, rfl, by omega, fun hx => by have := HL.out hx; omega⟩
      · go_wp2
        go_ret
        exact ⟨31, rfl, rfl, by omega, fun hx => by have := HL.out hx; omega⟩
    · by_cases ht : y / 9223372036854775808 = 0
      · have hb : (y / 9223372036854775808 == 0) = true := by simpa using ht
        have HN : Hid (AheadAt x 0 (y * 2) (n + 1)) := HA.out.yes H0.out H64.out ht
        have hm : y * 2 ≤ 18446744073709551615 := HN.out.2.2.2.1
        have hm0 : 0 ≤ y * 2 := by omega
        have HM0 : Hid (0 ≤ y * 2) := hm0
        simp only [halfN]
        go_wp2
        go_round
        case rel => exact ⟨0, y * 2, n + 1, by go_num, by go_num, by go_num, HN.out, HM0.out⟩
        case measure => simp [intOf]
      · have hb : (y / 9223372036854775808 == 0) = false := by simpa using ht
        have HN : Hid (AheadAt x 0 y n) := HA.out.no H0.out H64.out ht
        simp only [halfN]
        go_wp2
        go_round
        case rel => exact ⟨0, y, n, rfl, rfl, by go_num, HN.out, HY0.out⟩
        case measure => simp [intOf]
    · by_cases ht : y / 4611686018427387904 = 0
      · have hb : (y / 4611686018427387904 == 0) = true := by simpa using ht
        have HN : Hid (AheadAt x 1 (y * 4) (n + 2)) := HA.out.yes H0.out H64.out ht
        have hm : y * 4 ≤ 18446744073709551615 := HN.out.2.2.2.1
        have hm0 : 0 ≤ y * 4 := by omega
        have HM0 : Hid (0 ≤ y * 4) := hm0
        simp only [halfN]
        go_wp2
        go_round
        case rel => exact ⟨1, y * 4, n + 2, by go_num, by go_num, by go_num, HN.out, HM0.out⟩
        case measure => simp [intOf]
      · have hb : (y / 4611686018427387904 == 0) = false := by simpa using ht
        have HN : Hid (AheadAt x 1 y n) := HA.out.no H0.out H64.out ht
        simp only [halfN]
        go_wp2
        go_round
        case rel => exact ⟨1, y, n, rfl, rfl, by go_num, HN.out, HY0.out⟩
        case measure => simp [intOf]
    · by_cases ht : y / 1152921504606846976 = 0
      · have hb : (y / 1152921504606846976 == 0) = true := by simpa using ht
        have HN : Hid (AheadAt x 2 (y * 16) (n + 4)) := HA.out.yes H0.out H64.out ht
        have hm : y * 16 ≤ 18446744073709551615 := HN.out.2.2.2.1
        have hm0 : 0 ≤ y * 16 := by omega
        have HM0 : Hid (0 ≤ y * 16) := hm0
        simp only [halfN]
        go_wp2
        go_round
        case rel => exact ⟨2, y * 16, n + 4, by go_num, by go_num, by go_num, HN.out, HM0.out⟩
        case measure => simp [intOf]
      · have hb : (y / 1152921504606846976 == 0) = false := by simpa using ht
        have HN : Hid (AheadAt x 2 y n) := HA.out.no H0.out H64.out ht
        simp only [halfN]
        go_wp2
        go_round
        case rel => exact ⟨2, y, n, rfl, rfl, by go_num, HN.out, HY0.out⟩
        case measure => simp [intOf]
    · by_cases ht : y / 72057594037927936 = 0
      · have hb : (y / 72057594037927936 == 0) = true := by simpa using ht
        have HN : Hid (AheadAt x 3 (y * 256) (n + 8)) := HA.out.yes H0.out H64.out ht
        have hm : y * 256 ≤ 18446744073709551615 := HN.out.2.2.2.1
        have hm0 : 0 ≤ y * 256 := by omega
        have HM0 : Hid (0 ≤ y * 256) := hm0
        simp only [halfN]
        go_wp2
        go_round
        case rel => exact ⟨3, y * 256, n + 8, by go_num, by go_num, by go_num, HN.out, HM0.out⟩
        case measure => simp [intOf]
      · have hb : (y / 72057594037927936 == 0) = false := by simpa using ht
        have HN : Hid (AheadAt x 3 y n) := HA.out.no H0.out H64.out ht
        simp only [halfN]
        go_wp2
        go_round
        case rel => exact ⟨3, y, n, rfl, rfl, by go_num, HN.out, HY0.out⟩
        case measure => simp [intOf]
    · by_cases ht : y / 281474976710656 = 0
      · have hb : (y / 281474976710656 == 0) = true := by simpa using ht
        have HN : Hid (AheadAt x 4 (y * 65536) (n + 16)) := HA.out.yes H0.out H64.out ht
        have hm : y * 65536 ≤ 18446744073709551615 := HN.out.2.2.2.1
        have hm0 : 0 ≤ y * 65536 := by omega
        have HM0 : Hid (0 ≤ y * 65536) := hm0
        simp only [halfN]
        go_wp2
        go_round
        case rel => exact ⟨4, y * 65536, n + 16, by go_num, by go_num, by go_num, HN.out, HM0.out⟩
        case measure => simp [intOf]
      · have hb : (y / 281474976710656 == 0) = false := by simpa using ht
        have HN : Hid (AheadAt x 4 y n) := HA.out.no H0.out H64.out ht
        simp only [halfN]
        go_wp2
        go_round
        case rel => exact ⟨4, y, n, rfl, rfl, by go_num, HN.out, HY0.out⟩
        case measure => simp [intOf]
    · by_cases ht : y / 4294967296 = 0
      · have hb : (y / 4294967296 == 0) = true := by simpa using ht
        have HN : Hid (AheadAt x 5 (y * 4294967296) (n + 32)) := HA.out.yes H0.out H64.out ht
        have hm : y * 4294967296 ≤ 18446744073709551615 := HN.out.2.2.2.1
        have hm0 : 0 ≤ y * 4294967296 := by omega
        have HM0 : Hid (0 ≤ y * 4294967296) := hm0
        simp only [halfN]
        go_wp2
        go_round
        case rel => exact ⟨5, y * 4294967296, n + 32, by go_num, by go_num, by go_num, HN.out, HM0.out⟩
        case measure => simp [intOf]
      · have hb : (y / 4294967296 == 0) = false := by simpa using ht
        have HN : Hid (AheadAt x 5 y n) := HA.out.no H0.out H64.out ht
        simp only [halfN]
        go_wp2
        go_round
        case rel => exact ⟨5, y, n, rfl, rfl, by go_num, HN.out, HY0.out⟩
        case measure => simp [intOf]
set_option maxHeartbeats 8000000 in
theorem d_behind (x : Int) (w : World) (h0 : 0 ≤ x) (h1 : x < 2 ^ 64) :
    Calls Tryd.prog 54 #[.int .u64 x] w fun e w' => ∃ A : Nat, e = .returned (.int .i64 A) ∧ w = w' ∧ A ≤ 63 ∧ (0 < x → (A : Int) = trailN x) := by
  have H64 : Hid (x < 2 ^ 64) := h1
  have hx1 : x ≤ 18446744073709551615 := by omega
  have HA0 : Hid (BehindAt x 6 x 0) := BehindAt.start h0 h1
  have H0 : Hid (0 ≤ x) := h0
  clear h1
  go_enter Tryd.func54, Tryd.ntmps54
  go_wp2
  go_loop [0, 3, 4] (fun t0 t3 t4 => ∃ (j : Nat) (y : Int) (n : Nat), t0 = .int .u64 y ∧ t3 = .int .i64 n ∧ t4 = .int .i64 (halfN j) ∧ BehindAt x j y n ∧ 0 ≤ y) (fun _ _ t4 => (intOf t4).toNat)
  case atStart => exact ⟨6, x, 0, rfl, rfl, rfl, HA0.out, h0⟩
  case round =>
    obtain ⟨j, y, n, rfl, rfl, rfl, hA, hy0⟩ := hrel
    have HA : Hid (BehindAt x j y n) := hA
    have hj := hA.1
    have hy1 : y ≤ 18446744073709551615 := hA.2.2.2.1.2
    have hn := hA.2.1
    have hp : 0 < 2 ^ j := Nat.two_pow_pos j
    have hn64 : n < 64 := by omega
    have HY0 : Hid (0 ≤ y) := hy0
    clear HA0 hn hA hp
    have hcase : j = 0 ∨ j = 1 ∨ j = 2 ∨ j = 3 ∨ j = 4 ∨ j = 5 ∨ j = 6 := by omega
    rcases hcase with rfl | rfl | rfl | rfl | rfl | rfl | rfl
    · have hl : 0 < x → (n : Int) = trailN x := fun hx => by have := HA.out.2.2.2.2 hx; omega
      have HL : Hid (0 < x → (n : Int) = trailN x) := hl
      clear hl
      simp only [halfN]
      go_wp2
      go_ret
      exact ⟨n, rfl, rfl, by omega, HL.out⟩
    · by_cases ht : y * 9223372036854775808 % 18446744073709551616 = 0
      · have hb : (IntKind.u64.wrap (y * 9223372036854775808) == 0) = true := by rw [wrap_is]; simpa using ht
        have HN : Hid (BehindAt x 0 (y / 2) (n + 1)) := HA.out.yes H0.out H64.out ht
        have hm : y / 2 ≤ 18446744073709551615 := HN.out.2.2.2.1.2
        have hm0 : 0 ≤ y / 2 := by omega
        have HM0 : Hid (0 ≤ y / 2) := hm0
        simp only [halfN]
        go_wp2
        go_round
        case rel => exact ⟨0, y / 2, n + 1, by go_num, by go_num, by go_num, HN.out, HM0.out⟩
        case measure => simp [intOf]
      · have hb : (IntKind.u64.wrap (y * 9223372036854775808) == 0) = false := by rw [wrap_is]; simpa using ht
        have HN : Hid (BehindAt x 0 y n) := HA.out.no H0.out H64.out ht
        simp only [halfN]
        go_wp2
        go_round
        case rel => exact ⟨0, y, n, rfl, rfl, by go_num, HN.out, HY0.out⟩
        case measure => simp [intOf]
    · by_cases ht : y * 4611686018427387904 % 18446744073709551616 = 0
      · have hb : (IntKind.u64.wrap (y * 4611686018427387904) == 0) = true := by rw [wrap_is]; simpa using ht
        have HN : Hid (BehindAt x 1 (y / 4) (n + 2)) := HA.out.yes H0.out H64.out ht
        have hm : y / 4 ≤ 18446744073709551615 := HN.out.2.2.2.1.2
        have hm0 : 0 ≤ y / 4 := by omega
        have HM0 : Hid (0 ≤ y / 4) := hm0
        simp only [halfN]
        go_wp2
        go_round
        case rel => exact ⟨1, y / 4, n + 2, by go_num, by go_num, by go_num, HN.out, HM0.out⟩
        case measure => simp [intOf]
      · have hb : (IntKind.u64.wrap (y * 4611686018427387904) == 0) = false := by rw [wrap_is]; simpa using ht
        have HN : Hid (BehindAt x 1 y n) := HA.out.no H0.out H64.out ht
        simp only [halfN]
        go_wp2
        go_round
        case rel => exact ⟨1, y, n, rfl, rfl, by go_num, HN.out, HY0.out⟩
        case measure => simp [intOf]
    · by_cases ht : y * 1152921504606846976 % 18446744073709551616 = 0
      · have hb : (IntKind.u64.wrap (y * 1152921504606846976) == 0) = true := by rw [wrap_is]; simpa using ht
        have HN : Hid (BehindAt x 2 (y / 16) (n + 4)) := HA.out.yes H0.out H64.out ht
        have hm : y / 16 ≤ 18446744073709551615 := HN.out.2.2.2.1.2
        have hm0 : 0 ≤ y / 16 := by omega
        have HM0 : Hid (0 ≤ y / 16) := hm0
        simp only [halfN]
        go_wp2
        go_round
        case rel => exact ⟨2, y / 16, n + 4, by go_num, by go_num, by go_num, HN.out, HM0.out⟩
        case measure => simp [intOf]
      · have hb : (IntKind.u64.wrap (y * 1152921504606846976) == 0) = false := by rw [wrap_is]; simpa using ht
        have HN : Hid (BehindAt x 2 y n) := HA.out.no H0.out H64.out ht
        simp only [halfN]
        go_wp2
        go_round
        case rel => exact ⟨2, y, n, rfl, rfl, by go_num, HN.out, HY0.out⟩
        case measure => simp [intOf]
    · by_cases ht : y * 72057594037927936 % 18446744073709551616 = 0
      · have hb : (IntKind.u64.wrap (y * 72057594037927936) == 0) = true := by rw [wrap_is]; simpa using ht
        have HN : Hid (BehindAt x 3 (y / 256) (n + 8)) := HA.out.yes H0.out H64.out ht
        have hm : y / 256 ≤ 18446744073709551615 := HN.out.2.2.2.1.2
        have hm0 : 0 ≤ y / 256 := by omega
        have HM0 : Hid (0 ≤ y / 256) := hm0
        simp only [halfN]
        go_wp2
        go_round
        case rel => exact ⟨3, y / 256, n + 8, by go_num, by go_num, by go_num, HN.out, HM0.out⟩
        case measure => simp [intOf]
      · have hb : (IntKind.u64.wrap (y * 72057594037927936) == 0) = false := by rw [wrap_is]; simpa using ht
        have HN : Hid (BehindAt x 3 y n) := HA.out.no H0.out H64.out ht
        simp only [halfN]
        go_wp2
        go_round
        case rel => exact ⟨3, y, n, rfl, rfl, by go_num, HN.out, HY0.out⟩
        case measure => simp [intOf]
    · by_cases ht : y * 281474976710656 % 18446744073709551616 = 0
      · have hb : (IntKind.u64.wrap (y * 281474976710656) == 0) = true := by rw [wrap_is]; simpa using ht
        have HN : Hid (BehindAt x 4 (y / 65536) (n + 16)) := HA.out.yes H0.out H64.out ht
        have hm : y / 65536 ≤ 18446744073709551615 := HN.out.2.2.2.1.2
        have hm0 : 0 ≤ y / 65536 := by omega
        have HM0 : Hid (0 ≤ y / 65536) := hm0
        simp only [halfN]
        go_wp2
        go_round
        case rel => exact ⟨4, y / 65536, n + 16, by go_num, by go_num, by go_num, HN.out, HM0.out⟩
        case measure => simp [intOf]
      · have hb : (IntKind.u64.wrap (y * 281474976710656) == 0) = false := by rw [wrap_is]; simpa using ht
        have HN : Hid (BehindAt x 4 y n) := HA.out.no H0.out H64.out ht
        simp only [halfN]
        go_wp2
        go_round
        case rel => exact ⟨4, y, n, rfl, rfl, by go_num, HN.out, HY0.out⟩
        case measure => simp [intOf]
    · by_cases ht : y * 4294967296 % 18446744073709551616 = 0
      · have hb : (IntKind.u64.wrap (y * 4294967296) == 0) = true := by rw [wrap_is]; simpa using ht
        have HN : Hid (BehindAt x 5 (y / 4294967296) (n + 32)) := HA.out.yes H0.out H64.out ht
        have hm : y / 4294967296 ≤ 18446744073709551615 := HN.out.2.2.2.1.2
        have hm0 : 0 ≤ y / 4294967296 := by omega
        have HM0 : Hid (0 ≤ y / 4294967296) := hm0
        simp only [halfN]
        go_wp2
        go_round
        case rel => exact ⟨5, y / 4294967296, n + 32, by go_num, by go_num, by go_num, HN.out, HM0.out⟩
        case measure => simp [intOf]
      · have hb : (IntKind.u64.wrap (y * 4294967296) == 0) = false := by rw [wrap_is]; simpa using ht
        have HN : Hid (BehindAt x 5 y n) := HA.out.no H0.out H64.out ht
        simp only [halfN]
        go_wp2
        go_round
        case rel => exact ⟨5, y, n, rfl, rfl, by go_num, HN.out, HY0.out⟩
        case measure => simp [intOf]
/-- What windowOf answers. -/
def WinOf (x : Int) (A B : Nat) : Prop := A ≤ 31 ∧ B ≤ 63 ∧ (0 < x → (A : Int) = min (leadN x : Int) 31 ∧ (B : Int) = trailN x)
theorem d_windowOf (x : Int) (w : World) (h0 : 0 ≤ x) (h1 : x < 2 ^ 64) :
    Calls Tryd.prog 38 #[.int .u64 x] w fun e w' => ∃ A B : Nat, e = .returned (.agg #[.int .i64 A, .int .i64 B]) ∧ WinOf x A B ∧ w' = w.alloc (.cells #[.int .i64 A, .int .i64 B] 64) := by
  have HA : Hid (∀ w, Calls Tryd.prog 53 #[.int .u64 x] w fun e w' => ∃ A : Nat, e = .returned (.int .i64 A) ∧ w = w' ∧ A ≤ 31 ∧ (0 < x → (A : Int) = min (leadN x : Int) 31)) := fun w => d_ahead x w h0 h1
  have HB : Hid (∀ w, Calls Tryd.prog 54 #[.int .u64 x] w fun e w' => ∃ A : Nat, e = .returned (.int .i64 A) ∧ w = w' ∧ A ≤ 63 ∧ (0 < x → (A : Int) = trailN x)) := fun w => d_behind x w h0 h1
  clear h0 h1
  go_enter Tryd.func38, Tryd.ntmps38
  go_wp2_with fail
  refine (HA.out _).mono ?_
  rintro e w1 ⟨A, rfl, rfl, hA1, hA2⟩
  have HAA : Hid (A ≤ 31 ∧ (0 < x → (A : Int) = min (leadN x : Int) 31)) := ⟨hA1, hA2⟩
  clear hA1 hA2
  go_wp2_with fail
  refine (HB.out _).mono ?_
  rintro e w2 ⟨B, rfl, rfl, hB1, hB2⟩
  have HBB : Hid (B ≤ 63 ∧ (0 < x → (B : Int) = trailN x)) := ⟨hB1, hB2⟩
  clear hB1 hB2
  go_wp2
  exact bodyPost_ret (v := .agg #[.int .i64 A, .int .i64 B]) (by simp [results, Tryd.results38, go_sem]) rfl ⟨A, B, rfl, ⟨HAA.out.1, HBB.out.1, fun hx => ⟨HAA.out.2 hx, HBB.out.2 hx⟩⟩, rfl⟩
end Go.Proofs.YteahhkpbjkcmhaaDoor
