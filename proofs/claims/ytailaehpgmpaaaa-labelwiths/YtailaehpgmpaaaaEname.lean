/- The program's own isDigit, isLetter, isName. -/
import Derived.Test.YtailaehpgmpaaaaRname
namespace Go.Proofs.Ytailaehpgmpaaaa
open Go.RowKit
set_option linter.unusedVariables false

def digB (c : Int) : Bool := decide (48 ≤ c) && decide (c ≤ 57)
def letB (c : Int) : Bool := decide (97 ≤ c) && decide (c ≤ 122) || decide (65 ≤ c) && decide (c ≤ 90) || decide (c = 95)
theorem nameB_eq (c : Int) : nameB c = (letB c || digB c) := by
  rw [Bool.eq_iff_iff]
  unfold nameB letB digB
  simp only [Bool.or_eq_true, Bool.and_eq_true, decide_eq_true_eq]
  omega
theorem g_digit (c : Int) (R : Bool) (w : World) (hR : digB c = R) : Calls Try.prog 81 #[.int .u8 c] w fun e w' => e = .returned (.bool R) ∧ w = w' := by
  subst hR
  unfold digB
  by_cases h1 : 48 ≤ c
  · have q1 : decide (48 ≤ c) = true := by simpa using h1
    by_cases h2 : c ≤ 57
    · have q2 : decide (c ≤ 57) = true := by simpa using h2
      rw [q1, q2]
      clear h1 h2
      go_enter Try.func81, Try.ntmps81
      go_wp2
      go_ret
      exact ⟨rfl, rfl⟩
    · have q2 : decide (c ≤ 57) = false := by simpa using h2
      rw [q1, q2]
      clear h1 h2
      go_enter Try.func81, Try.ntmps81
      go_wp2
      go_ret
      exact ⟨rfl, rfl⟩
  · have q1 : decide (48 ≤ c) = false := by simpa using h1
    rw [q1, Bool.false_and]
    clear h1
    go_enter Try.func81, Try.ntmps81
    go_wp2
    go_ret
    exact ⟨rfl, rfl⟩
theorem g_letter (c : Int) (R : Bool) (w : World) (hR : letB c = R) : Calls Try.prog 91 #[.int .u8 c] w fun e w' => e = .returned (.bool R) ∧ w = w' := by
  have hl : letB c = true ↔ (97 ≤ c ∧ c ≤ 122 ∨ 65 ≤ c ∧ c ≤ 90) ∨ c = 95 := by
    unfold letB
    simp only [Bool.or_eq_true, Bool.and_eq_true, decide_eq_true_eq]
  rw [hR] at hl
  clear hR
  by_cases h1 : 97 ≤ c
  · have q1 : decide (97 ≤ c) = true := by simpa using h1
    have q3 : decide (65 ≤ c) = true := by simp; omega
    have q4 : decide (c ≤ 90) = false := by simp; omega
    have q5 : (c == 95) = false := by simp; omega
    by_cases h2 : c ≤ 122
    · have q2 : decide (c ≤ 122) = true := by simpa using h2
      have hr : R = true := by rw [hl]; omega
      subst hr
      clear h1 h2 hl
      go_enter Try.func91, Try.ntmps91
      go_wp2
      go_ret
      exact ⟨rfl, rfl⟩
    · have q2 : decide (c ≤ 122) = false := by simpa using h2
      have hr : R = false := by cases R with | false => rfl | true => simp at hl; omega
      subst hr
      clear h1 h2 hl
      go_enter Try.func91, Try.ntmps91
      go_wp2
      go_ret
      exact ⟨rfl, rfl⟩
  · have q1 : decide (97 ≤ c) = false := by simpa using h1
    by_cases h3 : 65 ≤ c
    · have q3 : decide (65 ≤ c) = true := by simpa using h3
      by_cases h4 : c ≤ 90
      · have q4 : decide (c ≤ 90) = true := by simpa using h4
        have hr : R = true := by rw [hl]; omega
        subst hr
        clear h1 h3 h4 hl
        go_enter Try.func91, Try.ntmps91
        go_wp2
        go_ret
        exact ⟨rfl, rfl⟩
      · have q4 : decide (c ≤ 90) = false := by simpa using h4
        by_cases h5 : c = 95
        · have hr : R = true := by rw [hl]; omega
          subst hr h5
          clear h1 h3 h4 hl q1 q3 q4
          go_enter Try.func91, Try.ntmps91
          go_wp2
          go_ret
          exact ⟨rfl, rfl⟩
        · have q5 : (c == 95) = false := by simpa using h5
          have hr : R = false := by cases R with | false => rfl | true => simp at hl; omega
          subst hr
          clear h1 h3 h4 h5 hl
          go_enter Try.func91, Try.ntmps91
          go_wp2
          go_ret
          exact ⟨rfl, rfl⟩
    · have q3 : decide (65 ≤ c) = false := by simpa using h3
      have q5 : (c == 95) = false := by simp; omega
      have hr : R = false := by cases R with | false => rfl | true => simp at hl; omega
      subst hr
      clear h1 h3 hl
      go_enter Try.func91, Try.ntmps91
      go_wp2
      go_ret
      exact ⟨rfl, rfl⟩

theorem g_labByte (c : Int) (w : World) : Calls Try.prog 80 #[.int .u8 c] w fun e w' => e = .returned (.bool (nameB c)) ∧ w = w' := by
  rw [nameB_eq]
  cases hl : letB c with
  | true =>
    rw [Bool.true_or]
    have HL : Hid (∀ w, Calls Try.prog 91 #[.int .u8 c] w fun e w' => e = .returned (.bool true) ∧ w = w') := fun w => g_letter c true w hl
    clear hl
    go_enter Try.func80, Try.ntmps80
    go_wp2_with (go_at_call 91; refine (HL.out _).mono ?_; rintro e w1 ⟨rfl, rfl⟩)
    go_ret
    exact ⟨rfl, rfl⟩
  | false =>
    rw [Bool.false_or]
    have HL : Hid (∀ w, Calls Try.prog 91 #[.int .u8 c] w fun e w' => e = .returned (.bool false) ∧ w = w') := fun w => g_letter c false w hl
    have HD : Hid (∀ w, Calls Try.prog 81 #[.int .u8 c] w fun e w' => e = .returned (.bool (digB c)) ∧ w = w') := fun w => g_digit c (digB c) w rfl
    clear hl
    generalize digB c = R at HD ⊢
    go_enter Try.func80, Try.ntmps80
    go_wp2_with fail
    refine (HL.out _).mono ?_
    rintro e w1 ⟨rfl, rfl⟩
    go_wp2_with fail
    refine (HD.out _).mono ?_
    rintro e w1 ⟨rfl, rfl⟩
    go_wp2
    go_ret
    exact ⟨ret_bool (by simp), rfl⟩
def isNameB (s : ByteArray) : Bool := decide (1 ≤ s.size) && decide (s.size ≤ 64) && (sInts s).all nameB
set_option maxHeartbeats 1000000 in
theorem gl_isName (s : ByteArray) (w : World) :
    Calls Try.prog 79 #[.string s, .int .i64 64, .func (.func 80) #[] #[]] w fun e w' => e = .returned (.bool (isNameB s)) ∧ w = w' := by
  by_cases h1 : s.size < 1
  · have e : isNameB s = false := by unfold isNameB; rw [decide_eq_false (by omega : ¬ 1 ≤ s.size)]; simp
    rw [e]
    have q1 : decide ((s.size : Int) < 1) = true := by simp; omega
    clear e
    go_enter Try.func79, Try.ntmps79
    go_wp2
    go_ret
    exact ⟨rfl, rfl⟩
  · by_cases h2 : 64 < s.size
    · have e : isNameB s = false := by unfold isNameB; rw [decide_eq_false (by omega : ¬ s.size ≤ 64)]; simp
      rw [e]
      have q1 : decide ((s.size : Int) < 1) = false := by simp; omega
      have q2 : decide ((64 : Int) < (s.size : Int)) = true := by simp; omega
      clear e
      go_enter Try.func79, Try.ntmps79
      go_wp2
      go_ret
      exact ⟨rfl, rfl⟩
    · have e : isNameB s = (sInts s).all nameB := by
        unfold isNameB
        rw [decide_eq_true (by omega : 1 ≤ s.size), decide_eq_true (by omega : s.size ≤ 64)]
        simp
      rw [e]
      have H0 : Hid (NameAt s 0 ((sInts s).all nameB)) := by show NameAt _ _ _; unfold NameAt; rfl
      clear e
      generalize (sInts s).all nameB = R at H0 ⊢
      have q1 : decide ((s.size : Int) < 1) = false := by simp; omega
      have q2 : decide ((64 : Int) < (s.size : Int)) = false := by simp; omega
      go_enter Try.func79, Try.ntmps79
      go_wp2
      go_loop [19] (fun i => ∃ k : Nat, k ≤ s.size ∧ i = .int .i64 k ∧ NameAt s k R) (fun i => s.size - (intOf i).toNat)
      case atStart => exact ⟨0, Nat.zero_le _, rfl, H0.out⟩
      case round =>
        obtain ⟨k, hk, rfl, hn⟩ := hrel
        have HN : Hid (NameAt s k R) := hn
        clear hn H0
        by_cases hlt : k < s.size
        · have hidx := idx9 s k hlt
          have HNx : Hid (_ = R) := HN.out.next hlt
          have hki : (k : Int) < (s.size : Int) := by omega
          generalize byteAt s k = c at hidx HNx
          cases hc : nameB c with
          | true =>
            have HS : Hid (NameAt s (k + 1) R) := by have h := HNx.out; rw [hc, Bool.true_and] at h; exact h
            have HC : Hid (∀ w, Calls Try.prog 80 #[.int .u8 c] w fun e w' => e = .returned (.bool true) ∧ w = w') := fun w => by rw [← hc]; exact g_labByte c w
            clear HNx hc
            go_wp2_with (go_at_call 80; refine (HC.out _).mono ?_; rintro e w1 ⟨rfl, rfl⟩)
            go_round
            case rel => exact ⟨k + 1, by omega, by go_num, HS.out⟩
            case measure => simp [intOf]; omega
          | false =>
            have HS : Hid (false = R) := by have h := HNx.out; rw [hc, Bool.false_and] at h; exact h
            have HC : Hid (∀ w, Calls Try.prog 80 #[.int .u8 c] w fun e w' => e = .returned (.bool false) ∧ w = w') := fun w => by rw [← hc]; exact g_labByte c w
            clear HNx hc
            go_wp2_with (go_at_call 80; refine (HC.out _).mono ?_; rintro e w1 ⟨rfl, rfl⟩)
            go_ret
            exact ⟨ret_bool HS.out, rfl⟩
        · have HS : Hid (true = R) := by
            have h := HN.out
            unfold NameAt at h
            rw [List.drop_eq_nil_of_le (by rw [sInts_len]; omega), List.all_nil] at h
            exact h
          have hki : ¬ (k : Int) < (s.size : Int) := by omega
          go_wp2
          go_ret
          exact ⟨ret_bool HS.out, rfl⟩
theorem nameR_eq (s : ByteArray) : nameR s = (isNameB s && !digB (byteAt s 0)) := by
  unfold nameR isNameB digB
  have h : decide (0 < s.size) = decide (1 ≤ s.size) := rfl
  rw [h]
  cases decide (1 ≤ s.size) <;> cases decide (s.size ≤ 64) <;> cases (decide (48 ≤ byteAt s 0) && decide (byteAt s 0 ≤ 57)) <;> cases (sInts s).all nameB <;> rfl
theorem g_name (s : ByteArray) (w : World) : Calls Try.prog 67 #[.string s] w fun e w' => e = .returned (.bool (nameR s)) ∧ w = w' := by
  rw [nameR_eq]
  cases hn : isNameB s with
  | true =>
    have HC : Hid (∀ w, Calls Try.prog 79 #[.string s, .int .i64 64, .func (.func 80) #[] #[]] w fun e w' => e = .returned (.bool true) ∧ w = w') := fun w => by rw [← hn]; exact gl_isName s w
    have hz : 0 < s.size := by
      unfold isNameB at hn
      simp only [Bool.and_eq_true, decide_eq_true_eq] at hn
      omega
    have HD : Hid (∀ w, Calls Try.prog 81 #[.int .u8 (byteAt s 0)] w fun e w' => e = .returned (.bool (digB (byteAt s 0))) ∧ w = w') := fun w => g_digit _ _ w rfl
    have hidx : ∀ w, (Instr.index 9 (.string s) (.int .i64 0)).run Try.prog w = .ok (.int .u8 (byteAt s 0)) w := fun w => idx9 s 0 hz w
    clear hn
    generalize byteAt s 0 = c at HD hidx ⊢
    generalize digB c = R at HD ⊢
    go_enter Try.func67, Try.ntmps67
    go_wp2_with fail
    refine (HC.out _).mono ?_
    rintro e w1 ⟨rfl, rfl⟩
    go_wp2_with fail
    refine (HD.out _).mono ?_
    rintro e w1 ⟨rfl, rfl⟩
    go_wp2
    go_ret
    exact ⟨ret_bool (by simp), rfl⟩
  | false =>
    have HC : Hid (∀ w, Calls Try.prog 79 #[.string s, .int .i64 64, .func (.func 80) #[] #[]] w fun e w' => e = .returned (.bool false) ∧ w = w') := fun w => by rw [← hn]; exact gl_isName s w
    clear hn
    go_enter Try.func67, Try.ntmps67
    go_wp2_with fail
    refine (HC.out _).mono ?_
    rintro e w1 ⟨rfl, rfl⟩
    go_wp2
    go_ret
    exact ⟨ret_bool (by simp), rfl⟩
end Go.Proofs.Ytailaehpgmpaaaa
