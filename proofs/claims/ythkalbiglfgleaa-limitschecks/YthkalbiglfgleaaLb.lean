/- Normal: the program's and the document's. -/
import Derived.Test.YthkalbiglfgleaaEname
import Derived.Laws.BitsAllLaws
namespace Go.Proofs.Ythkalbiglfgleaa
set_option maxRecDepth 20000
open Go.RowKit
set_option linter.unusedVariables false

def normR (v : Int) : Int := if 9218868437227405312 < v % 9223372036854775808 ∧ v ≠ 9218868437227405314 then 9221120237041090560 else v
theorem low63 (v : Int) (hv : 0 ≤ v ∧ v ≤ 18446744073709551615) : bits .andNot .u64 v 9223372036854775808 = v % 9223372036854775808 := by
  rw [u64_andNot v 9223372036854775808 hv.1 (by omega) (by decide) (by decide)]
  rw [show 18446744073709551615 - (9223372036854775808 : Int).toNat = 2 ^ 63 - 1 by decide, Nat.and_two_pow_sub_one_eq_mod]
  omega
theorem low11 (x : Int) (hx : 0 ≤ x ∧ x ≤ 18446744073709551615) : bits .and .u64 x 2047 = x % 2048 := by
  rw [u64_and x 2047 hx.1 (by omega) (by decide) (by decide)]
  rw [show (2047 : Int).toNat = 2 ^ 11 - 1 by decide, Nat.and_two_pow_sub_one_eq_mod]
  omega
theorem up12 (v : Int) (hv : 0 ≤ v ∧ v ≤ 18446744073709551615) : IntKind.u64.wrap (v * 4096) = v % 4503599627370496 * 4096 := by
  have h : IntKind.u64.wrap (v * 4096) = (v * 4096) % 18446744073709551616 := by simp [IntKind.wrap, IntKind.bits, IntKind.signed]
  rw [h]
  omega
theorem nan_same (v : Int) (hv : 0 ≤ v ∧ v ≤ 18446744073709551615) : (9218868437227405312 < v % 9223372036854775808) ↔ (v / 4503599627370496 % 2048 = 2047 ∧ ¬ v % 4503599627370496 * 4096 = 0) := by omega
theorem normR_twice (v : Int) : normR (normR v) = normR v := by
  unfold normR
  split
  · rw [if_pos (by decide)]
  · rfl
set_option maxHeartbeats 400000 in
theorem f_normal (v : Int) (w : World) (hv : 0 ≤ v ∧ v ≤ 18446744073709551615) : Calls Try.prog 12 #[.int .u64 v] w fun e w' => e = .returned (.int .u64 (normR v)) ∧ w = w' := by
  have hl := low63 v hv
  have HR : Hid (normR v = if 9218868437227405312 < v % 9223372036854775808 ∧ v ≠ 9218868437227405314 then 9221120237041090560 else v) := rfl
  generalize normR v = R at HR ⊢
  generalize v % 9223372036854775808 = m at hl HR
  by_cases h1 : 9218868437227405312 < m
  · by_cases h2 : v = 9218868437227405314
    · have q2 : (v != 9218868437227405314) = false := by simp [h2]
      have HS : Hid (v = R) := by have h := HR.out; rw [if_neg (fun hh => hh.2 h2)] at h; exact h.symm
      clear HR h2
      go_enter Try.func12, Try.ntmps12
      go_wp2
      go_ret
      exact ⟨ret_int HS.out, rfl⟩
    · have q2 : (v != 9218868437227405314) = true := by simpa using h2
      have HS : Hid (9221120237041090560 = R) := by have h := HR.out; rw [if_pos ⟨h1, h2⟩] at h; exact h.symm
      clear HR h2
      go_enter Try.func12, Try.ntmps12
      go_wp2
      go_ret
      exact ⟨ret_int HS.out, rfl⟩
  · have HS : Hid (v = R) := by have h := HR.out; rw [if_neg (fun hh => h1 hh.1)] at h; exact h.symm
    clear HR
    go_enter Try.func12, Try.ntmps12
    go_wp2
    go_ret
    exact ⟨ret_int HS.out, rfl⟩
set_option maxHeartbeats 400000 in
theorem r_normal (v : Int) (w : World) (hv : 0 ≤ v ∧ v ≤ 18446744073709551615) : Calls Try.prog 13 #[.int .u64 v] w fun e w' => e = .returned (.int .u64 (normR v)) ∧ w = w' := by
  have hl := low11 (v / 4503599627370496) (by omega)
  have hu := up12 v hv
  have HR : Hid (normR v = if (v / 4503599627370496 % 2048 = 2047 ∧ ¬ v % 4503599627370496 * 4096 = 0) ∧ v ≠ 9218868437227405314 then 9221120237041090560 else v) := by
    show _ = _
    unfold normR
    simp only [nan_same v hv]
  generalize normR v = R at HR ⊢
  generalize v / 4503599627370496 % 2048 = m at hl HR
  generalize v % 4503599627370496 * 4096 = u at hu HR
  by_cases h1 : m = 2047
  · have q1 : (m == 2047) = true := by simpa using h1
    by_cases h3 : u = 0
    · have q3 : (u != 0) = false := by simpa using h3
      have HS : Hid (v = R) := by have h := HR.out; rw [if_neg (fun hh => hh.1.2 h3)] at h; exact h.symm
      clear HR h1 h3
      go_enter Try.func13, Try.ntmps13
      go_wp2
      go_ret
      exact ⟨ret_int HS.out, rfl⟩
    · have q3 : (u != 0) = true := by simpa using h3
      by_cases h2 : v = 9218868437227405314
      · have q2 : (v != 9218868437227405314) = false := by simp [h2]
        have HS : Hid (v = R) := by have h := HR.out; rw [if_neg (fun hh => hh.2 h2)] at h; exact h.symm
        clear HR h2 h1 h3
        go_enter Try.func13, Try.ntmps13
        go_wp2
        go_ret
        exact ⟨ret_int HS.out, rfl⟩
      · have q2 : (v != 9218868437227405314) = true := by simpa using h2
        have HS : Hid (9221120237041090560 = R) := by have h := HR.out; rw [if_pos ⟨⟨h1, h3⟩, h2⟩] at h; exact h.symm
        clear HR h2 h1 h3
        go_enter Try.func13, Try.ntmps13
        go_wp2
        go_ret
        exact ⟨ret_int HS.out, rfl⟩
  · have q1 : (m == 2047) = false := by simpa using h1
    have HS : Hid (v = R) := by have h := HR.out; rw [if_neg (fun hh => h1 hh.1.1)] at h; exact h.symm
    clear HR h1
    go_enter Try.func13, Try.ntmps13
    go_wp2
    go_ret
    exact ⟨ret_int HS.out, rfl⟩
end Go.Proofs.Ythkalbiglfgleaa
