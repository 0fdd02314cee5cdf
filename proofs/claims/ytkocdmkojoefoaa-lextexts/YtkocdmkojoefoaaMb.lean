/- Predicates of one byte, the program's and the document's. (Printed by mk_mb.py.) -/
import Derived.Test.YtkocdmkojoefoaaMa
namespace Go.Proofs.Ytkocdmkojoefoaa
open Go.RowKit
set_option linter.unusedVariables false
set_option linter.unusedSimpArgs false
set_option maxRecDepth 20000

theorem r_digit (c : Int) (R : Bool) (w : World) (hR : digB c = R) : Calls Try.prog 16 #[.int .u8 c] w fun e w' => e = .returned (.bool R) ∧ w = w' := by
  have hc : c ≤ 47 ∨ 48 ≤ c ∧ c ≤ 57 ∨ 58 ≤ c := by omega
  rcases hc with h | h | h
  · have hr : R = false := by rw [← hR]; unfold digB; simp; omega
    subst hr; clear hR
    have q0 : decide (48 ≤ c) = false := by simp; omega
    have q1 : decide (c ≤ 57) = true := by simp; omega
    clear h
    go_enter Try.func16, Try.ntmps16
    go_wp2
    go_ret
    exact ⟨rfl, rfl⟩
  · have hr : R = true := by rw [← hR]; unfold digB; simp; omega
    subst hr; clear hR
    have q0 : decide (48 ≤ c) = true := by simp; omega
    have q1 : decide (c ≤ 57) = true := by simp; omega
    clear h
    go_enter Try.func16, Try.ntmps16
    go_wp2
    go_ret
    exact ⟨rfl, rfl⟩
  · have hr : R = false := by rw [← hR]; unfold digB; simp; omega
    subst hr; clear hR
    have q0 : decide (48 ≤ c) = true := by simp; omega
    have q1 : decide (c ≤ 57) = false := by simp; omega
    clear h
    go_enter Try.func16, Try.ntmps16
    go_wp2
    go_ret
    exact ⟨rfl, rfl⟩
theorem f_digit (c : Int) (R : Bool) (w : World) (hR : digB c = R) : Calls Try.prog 24 #[.int .u8 c] w fun e w' => e = .returned (.bool R) ∧ w = w' := by
  have hc : c ≤ 47 ∨ 48 ≤ c ∧ c ≤ 57 ∨ 58 ≤ c := by omega
  rcases hc with h | h | h
  · have hr : R = false := by rw [← hR]; unfold digB; simp; omega
    subst hr; clear hR
    have q0 : decide (48 ≤ c) = false := by simp; omega
    have q1 : decide (c ≤ 57) = true := by simp; omega
    clear h
    go_enter Try.func24, Try.ntmps24
    go_wp2
    go_ret
    exact ⟨rfl, rfl⟩
  · have hr : R = true := by rw [← hR]; unfold digB; simp; omega
    subst hr; clear hR
    have q0 : decide (48 ≤ c) = true := by simp; omega
    have q1 : decide (c ≤ 57) = true := by simp; omega
    clear h
    go_enter Try.func24, Try.ntmps24
    go_wp2
    go_ret
    exact ⟨rfl, rfl⟩
  · have hr : R = false := by rw [← hR]; unfold digB; simp; omega
    subst hr; clear hR
    have q0 : decide (48 ≤ c) = true := by simp; omega
    have q1 : decide (c ≤ 57) = false := by simp; omega
    clear h
    go_enter Try.func24, Try.ntmps24
    go_wp2
    go_ret
    exact ⟨rfl, rfl⟩
theorem r_letter (c : Int) (R : Bool) (w : World) (hR : letB c = R) : Calls Try.prog 20 #[.int .u8 c] w fun e w' => e = .returned (.bool R) ∧ w = w' := by
  have hc : c ≤ 64 ∨ 65 ≤ c ∧ c ≤ 90 ∨ 91 ≤ c ∧ c ≤ 94 ∨ c = 95 ∨ c = 96 ∨ 97 ≤ c ∧ c ≤ 122 ∨ 123 ≤ c := by omega
  rcases hc with h | h | h | h | h | h | h
  · have hr : R = false := by rw [← hR]; unfold letB; simp; omega
    subst hr; clear hR
    have q0 : decide (65 ≤ c) = false := by simp; omega
    have q1 : decide (c ≤ 90) = true := by simp; omega
    have q2 : decide (97 ≤ c) = false := by simp; omega
    have q3 : decide (c ≤ 122) = true := by simp; omega
    have q4 : (c == 95) = false := by simp; omega
    clear h
    go_enter Try.func20, Try.ntmps20
    go_wp2
    go_ret
    exact ⟨rfl, rfl⟩
  · have hr : R = true := by rw [← hR]; unfold letB; simp; omega
    subst hr; clear hR
    have q0 : decide (65 ≤ c) = true := by simp; omega
    have q1 : decide (c ≤ 90) = true := by simp; omega
    have q2 : decide (97 ≤ c) = false := by simp; omega
    have q3 : decide (c ≤ 122) = true := by simp; omega
    have q4 : (c == 95) = false := by simp; omega
    clear h
    go_enter Try.func20, Try.ntmps20
    go_wp2
    go_ret
    exact ⟨rfl, rfl⟩
  · have hr : R = false := by rw [← hR]; unfold letB; simp; omega
    subst hr; clear hR
    have q0 : decide (65 ≤ c) = true := by simp; omega
    have q1 : decide (c ≤ 90) = false := by simp; omega
    have q2 : decide (97 ≤ c) = false := by simp; omega
    have q3 : decide (c ≤ 122) = true := by simp; omega
    have q4 : (c == 95) = false := by simp; omega
    clear h
    go_enter Try.func20, Try.ntmps20
    go_wp2
    go_ret
    exact ⟨rfl, rfl⟩
  · have hr : R = true := by rw [← hR]; unfold letB; simp; omega
    subst hr; clear hR
    subst h
    go_enter Try.func20, Try.ntmps20
    go_wp2
    go_ret
    exact ⟨rfl, rfl⟩
  · have hr : R = false := by rw [← hR]; unfold letB; simp; omega
    subst hr; clear hR
    subst h
    go_enter Try.func20, Try.ntmps20
    go_wp2
    go_ret
    exact ⟨rfl, rfl⟩
  · have hr : R = true := by rw [← hR]; unfold letB; simp; omega
    subst hr; clear hR
    have q0 : decide (65 ≤ c) = true := by simp; omega
    have q1 : decide (c ≤ 90) = false := by simp; omega
    have q2 : decide (97 ≤ c) = true := by simp; omega
    have q3 : decide (c ≤ 122) = true := by simp; omega
    have q4 : (c == 95) = false := by simp; omega
    clear h
    go_enter Try.func20, Try.ntmps20
    go_wp2
    go_ret
    exact ⟨rfl, rfl⟩
  · have hr : R = false := by rw [← hR]; unfold letB; simp; omega
    subst hr; clear hR
    have q0 : decide (65 ≤ c) = true := by simp; omega
    have q1 : decide (c ≤ 90) = false := by simp; omega
    have q2 : decide (97 ≤ c) = true := by simp; omega
    have q3 : decide (c ≤ 122) = false := by simp; omega
    have q4 : (c == 95) = false := by simp; omega
    clear h
    go_enter Try.func20, Try.ntmps20
    go_wp2
    go_ret
    exact ⟨rfl, rfl⟩
theorem f_letter (c : Int) (R : Bool) (w : World) (hR : letB c = R) : Calls Try.prog 31 #[.int .u8 c] w fun e w' => e = .returned (.bool R) ∧ w = w' := by
  have hc : c ≤ 64 ∨ 65 ≤ c ∧ c ≤ 90 ∨ 91 ≤ c ∧ c ≤ 94 ∨ c = 95 ∨ c = 96 ∨ 97 ≤ c ∧ c ≤ 122 ∨ 123 ≤ c := by omega
  rcases hc with h | h | h | h | h | h | h
  · have hr : R = false := by rw [← hR]; unfold letB; simp; omega
    subst hr; clear hR
    have q0 : decide (65 ≤ c) = false := by simp; omega
    have q1 : decide (c ≤ 90) = true := by simp; omega
    have q2 : decide (97 ≤ c) = false := by simp; omega
    have q3 : decide (c ≤ 122) = true := by simp; omega
    have q4 : (c == 95) = false := by simp; omega
    clear h
    go_enter Try.func31, Try.ntmps31
    go_wp2
    go_ret
    exact ⟨rfl, rfl⟩
  · have hr : R = true := by rw [← hR]; unfold letB; simp; omega
    subst hr; clear hR
    have q0 : decide (65 ≤ c) = true := by simp; omega
    have q1 : decide (c ≤ 90) = true := by simp; omega
    have q2 : decide (97 ≤ c) = false := by simp; omega
    have q3 : decide (c ≤ 122) = true := by simp; omega
    have q4 : (c == 95) = false := by simp; omega
    clear h
    go_enter Try.func31, Try.ntmps31
    go_wp2
    go_ret
    exact ⟨rfl, rfl⟩
  · have hr : R = false := by rw [← hR]; unfold letB; simp; omega
    subst hr; clear hR
    have q0 : decide (65 ≤ c) = true := by simp; omega
    have q1 : decide (c ≤ 90) = false := by simp; omega
    have q2 : decide (97 ≤ c) = false := by simp; omega
    have q3 : decide (c ≤ 122) = true := by simp; omega
    have q4 : (c == 95) = false := by simp; omega
    clear h
    go_enter Try.func31, Try.ntmps31
    go_wp2
    go_ret
    exact ⟨rfl, rfl⟩
  · have hr : R = true := by rw [← hR]; unfold letB; simp; omega
    subst hr; clear hR
    subst h
    go_enter Try.func31, Try.ntmps31
    go_wp2
    go_ret
    exact ⟨rfl, rfl⟩
  · have hr : R = false := by rw [← hR]; unfold letB; simp; omega
    subst hr; clear hR
    subst h
    go_enter Try.func31, Try.ntmps31
    go_wp2
    go_ret
    exact ⟨rfl, rfl⟩
  · have hr : R = true := by rw [← hR]; unfold letB; simp; omega
    subst hr; clear hR
    have q0 : decide (65 ≤ c) = true := by simp; omega
    have q1 : decide (c ≤ 90) = false := by simp; omega
    have q2 : decide (97 ≤ c) = true := by simp; omega
    have q3 : decide (c ≤ 122) = true := by simp; omega
    have q4 : (c == 95) = false := by simp; omega
    clear h
    go_enter Try.func31, Try.ntmps31
    go_wp2
    go_ret
    exact ⟨rfl, rfl⟩
  · have hr : R = false := by rw [← hR]; unfold letB; simp; omega
    subst hr; clear hR
    have q0 : decide (65 ≤ c) = true := by simp; omega
    have q1 : decide (c ≤ 90) = false := by simp; omega
    have q2 : decide (97 ≤ c) = true := by simp; omega
    have q3 : decide (c ≤ 122) = false := by simp; omega
    have q4 : (c == 95) = false := by simp; omega
    clear h
    go_enter Try.func31, Try.ntmps31
    go_wp2
    go_ret
    exact ⟨rfl, rfl⟩
theorem f_blank (c : Int) (R : Bool) (w : World) (hR : blankB c = R) : Calls Try.prog 23 #[.int .u8 c] w fun e w' => e = .returned (.bool R) ∧ w = w' := by
  have hc : c ≤ 8 ∨ c = 9 ∨ c = 10 ∨ 11 ≤ c ∧ c ≤ 12 ∨ c = 13 ∨ 14 ≤ c ∧ c ≤ 31 ∨ c = 32 ∨ 33 ≤ c := by omega
  rcases hc with h | h | h | h | h | h | h | h
  · have hr : R = false := by rw [← hR]; unfold blankB; simp; omega
    subst hr; clear hR
    have q0 : (c == 32) = false := by simp; omega
    have q1 : (c == 9) = false := by simp; omega
    have q2 : (c == 10) = false := by simp; omega
    have q3 : (c == 13) = false := by simp; omega
    clear h
    go_enter Try.func23, Try.ntmps23
    go_wp2
    go_ret
    exact ⟨rfl, rfl⟩
  · have hr : R = true := by rw [← hR]; unfold blankB; simp; omega
    subst hr; clear hR
    subst h
    go_enter Try.func23, Try.ntmps23
    go_wp2
    go_ret
    exact ⟨rfl, rfl⟩
  · have hr : R = true := by rw [← hR]; unfold blankB; simp; omega
    subst hr; clear hR
    subst h
    go_enter Try.func23, Try.ntmps23
    go_wp2
    go_ret
    exact ⟨rfl, rfl⟩
  · have hr : R = false := by rw [← hR]; unfold blankB; simp; omega
    subst hr; clear hR
    have q0 : (c == 32) = false := by simp; omega
    have q1 : (c == 9) = false := by simp; omega
    have q2 : (c == 10) = false := by simp; omega
    have q3 : (c == 13) = false := by simp; omega
    clear h
    go_enter Try.func23, Try.ntmps23
    go_wp2
    go_ret
    exact ⟨rfl, rfl⟩
  · have hr : R = true := by rw [← hR]; unfold blankB; simp; omega
    subst hr; clear hR
    subst h
    go_enter Try.func23, Try.ntmps23
    go_wp2
    go_ret
    exact ⟨rfl, rfl⟩
  · have hr : R = false := by rw [← hR]; unfold blankB; simp; omega
    subst hr; clear hR
    have q0 : (c == 32) = false := by simp; omega
    have q1 : (c == 9) = false := by simp; omega
    have q2 : (c == 10) = false := by simp; omega
    have q3 : (c == 13) = false := by simp; omega
    clear h
    go_enter Try.func23, Try.ntmps23
    go_wp2
    go_ret
    exact ⟨rfl, rfl⟩
  · have hr : R = true := by rw [← hR]; unfold blankB; simp; omega
    subst hr; clear hR
    subst h
    go_enter Try.func23, Try.ntmps23
    go_wp2
    go_ret
    exact ⟨rfl, rfl⟩
  · have hr : R = false := by rw [← hR]; unfold blankB; simp; omega
    subst hr; clear hR
    have q0 : (c == 32) = false := by simp; omega
    have q1 : (c == 9) = false := by simp; omega
    have q2 : (c == 10) = false := by simp; omega
    have q3 : (c == 13) = false := by simp; omega
    clear h
    go_enter Try.func23, Try.ntmps23
    go_wp2
    go_ret
    exact ⟨rfl, rfl⟩

/-- byteAt: what lies behind the end is a byte 0. -/
theorem f_byteAt (s : ByteArray) (k : Nat) (w : World) : Calls Try.prog 33 #[.string s, .int .i64 (k : Int)] w fun e w' => e = .returned (.int .u8 (byteAt s k)) ∧ w = w' := by
  by_cases h : k < s.size
  · have hi := idx9 s k h
    have hk : (k : Int) < (s.size : Int) := by omega
    go_enter Try.func33, Try.ntmps33
    go_wp2
    go_ret
    exact ⟨rfl, rfl⟩
  · have hk : ¬ (k : Int) < (s.size : Int) := by omega
    have e : byteAt s k = 0 := by
      unfold byteAt
      rw [List.getD_eq_getElem?_getD, List.getElem?_eq_none (by rw [sInts_len]; omega)]
      rfl
    rw [e]
    go_enter Try.func33, Try.ntmps33
    go_wp2
    go_ret
    exact ⟨rfl, rfl⟩
theorem f_seconds (c : Int) (w : World) : Calls Try.prog 34 #[.int .u8 c] w fun e w' => e = .returned (.int .i64 (unitR c)) ∧ w = w' := by
  by_cases h1 : c = 115
  · subst h1
    go_enter Try.func34, Try.ntmps34
    go_wp2
    go_ret
    exact ⟨rfl, rfl⟩
  · by_cases h2 : c = 109
    · subst h2
      go_enter Try.func34, Try.ntmps34
      go_wp2
      go_ret
      exact ⟨rfl, rfl⟩
    · by_cases h3 : c = 104
      · subst h3
        go_enter Try.func34, Try.ntmps34
        go_wp2
        go_ret
        exact ⟨rfl, rfl⟩
      · by_cases h4 : c = 100
        · subst h4
          go_enter Try.func34, Try.ntmps34
          go_wp2
          go_ret
          exact ⟨rfl, rfl⟩
        · have e : unitR c = 0 := by unfold unitR; rw [if_neg h1, if_neg h2, if_neg h3, if_neg h4]
          have q1 : (c == 115) = false := by simpa using h1
          have q2 : (c == 109) = false := by simpa using h2
          have q3 : (c == 104) = false := by simpa using h3
          have q4 : (c == 100) = false := by simpa using h4
          rw [e]
          clear h1 h2 h3 h4 e
          go_enter Try.func34, Try.ntmps34
          go_wp2
          go_ret
          exact ⟨rfl, rfl⟩
def wbB (c : Int) : Bool := letB c || digB c || decide (c = 58)
theorem f_wordByte (c : Int) (w : World) : Calls Try.prog 25 #[.int .u8 c] w fun e w' => e = .returned (.bool (wbB c)) ∧ w = w' := by
  have HL := fun w => f_letter c (letB c) w rfl
  have HD := fun w => f_digit c (digB c) w rfl
  unfold wbB
  have q : (c == 58) = decide (c = 58) := by by_cases h : c = 58 <;> simp [h]
  generalize decide (c = 58) = b3 at q ⊢
  generalize letB c = b1 at HL ⊢
  generalize digB c = b2 at HD ⊢
  cases b1 <;> cases b2 <;> cases b3 <;> (
    go_enter Try.func25, Try.ntmps25
    go_wp2_with (first | (refine (HL _).mono ?_; rintro e w1 ⟨rfl, rfl⟩) | (refine (HD _).mono ?_; rintro e w1 ⟨rfl, rfl⟩))
    go_ret
    exact ⟨rfl, rfl⟩)
theorem f_runByte (c : Int) (w : World) : Calls Try.prog 35 #[.int .u8 c] w fun e w' => e = .returned (.bool (letB c || digB c || decide (c = 46))) ∧ w = w' := by
  have HL := fun w => f_letter c (letB c) w rfl
  have HD := fun w => f_digit c (digB c) w rfl
  have q : (c == 46) = decide (c = 46) := by by_cases h : c = 46 <;> simp [h]
  generalize decide (c = 46) = b3 at q ⊢
  generalize letB c = b1 at HL ⊢
  generalize digB c = b2 at HD ⊢
  cases b1 <;> cases b2 <;> cases b3 <;> (
    go_enter Try.func35, Try.ntmps35
    go_wp2_with (first | (refine (HL _).mono ?_; rintro e w1 ⟨rfl, rfl⟩) | (refine (HD _).mono ?_; rintro e w1 ⟨rfl, rfl⟩))
    go_ret
    exact ⟨rfl, rfl⟩)

end Go.Proofs.Ytkocdmkojoefoaa
