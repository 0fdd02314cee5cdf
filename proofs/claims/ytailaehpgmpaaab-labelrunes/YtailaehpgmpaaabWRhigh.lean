/- The walk of LabelRunes: characters above the surrogates. -/
import Derived.Test.YtailaehpgmpaaabWRlow
namespace Go.Proofs.Ytailaehpgmpaaab
open Go.RowKit
set_option linter.unusedVariables false

set_option maxHeartbeats 2000000 in
theorem runes_high_empty_1 (x : Int) (head R : ByteArray) (w : World) (r : Int) (h0 : 0 ≤ r ∧ r ≤ 9223372036854775807) (HC : ∀ w, Calls Try.prog 4 #[.int .i64 x] w fun e w' => e = .returned (.int .i64 r) ∧ w = w') (hv : 57343 < r % 1114112 ∧ r % 1114112 ≤ 1114111) (hl : head.size ≤ 100) (hRE : Utf8.encode (r % 1114112) = R) (hR1 : 1 ≤ R.size) (hR4 : R.size ≤ 4)
    (k1 : (oneV R != 0) = false) (k2 : (oneV (⟨#[120]⟩ ++ R ++ R ++ ⟨#[121]⟩) != 0) = false) (k3 : (oneV (R ++ ⟨#[128]⟩) != 32) = false) (k4 : (oneV (⟨#[255]⟩ ++ R) != 32) = false) (hh : head.toList.isEmpty = true) (k7 : ((R.size : Int) == 1) = true) :
    Calls Try.prog 3 #[.int .i64 x, .string head] w fun e w' => e = .returned (.bool true) ∧ w.grownBy w' none := by
  have HL : Hid (∀ w, Calls Try.prog 4 #[.int .i64 x] w fun e w' => e = .returned (.int .i64 r) ∧ w = w') := HC
  have HRE : Hid (Utf8.encode (r % 1114112) = R) := hRE
  have z1 : ∀ c : UInt8, (⟨#[c]⟩ : ByteArray).size = 1 := fun _ => rfl
  have p1 : ∀ w, (Op.stringOp .add ⟨#[120]⟩ R).run Try.prog w = .ok (.string (⟨#[120]⟩ ++ R)) w := fun w => by exact run_string_add_sum w _ _ (by rw [z1]; omega)
  have p2 : ∀ w, (Op.stringOp .add (⟨#[120]⟩ ++ R) R).run Try.prog w = .ok (.string (⟨#[120]⟩ ++ R ++ R)) w := fun w => by exact run_string_add_sum w _ _ (by simp only [ByteArray.size_append]; rw [z1]; omega)
  have p3 : ∀ w, (Op.stringOp .add (⟨#[120]⟩ ++ R ++ R) ⟨#[121]⟩).run Try.prog w = .ok (.string (⟨#[120]⟩ ++ R ++ R ++ ⟨#[121]⟩)) w := fun w => by exact run_string_add_sum w _ _ (by simp only [ByteArray.size_append]; rw [z1, z1]; omega)
  have p4 : ∀ w, (Op.stringOp .add R ⟨#[128]⟩).run Try.prog w = .ok (.string (R ++ ⟨#[128]⟩)) w := fun w => by exact run_string_add_sum w _ _ (by rw [z1]; omega)
  have p5 : ∀ w, (Op.stringOp .add ⟨#[255]⟩ R).run Try.prog w = .ok (.string (⟨#[255]⟩ ++ R)) w := fun w => by exact run_string_add_sum w _ _ (by rw [z1]; omega)
  have p6 : ∀ w, (Op.stringOp .add head R).run Try.prog w = .ok (.string (head ++ R)) w := fun w => by exact run_string_add_sum w _ _ (by omega)
  clear HC hRE z1
  go_enter Try.func3, Try.ntmps3
  go_wp2_with (go_at_call 4; refine (HL.out _).mono ?_; rintro e w0 ⟨rfl, rfl⟩)
  rw [HRE.out]
  refine (g_lone _ _).mono ?_
  rintro e w1 ⟨rfl, hg1⟩
  have HG1 : Hid (w.grownBy w1 none) := hg1
  clear hg1
  go_wp2_with fail
  refine (g_lone _ _).mono ?_
  rintro e w2 ⟨rfl, hg2⟩
  have HG2 : Hid (w.grownBy w2 none) := HG1.out.trans hg2
  clear hg2
  go_wp2_with fail
  refine (g_lone _ _).mono ?_
  rintro e w3 ⟨rfl, hg3⟩
  have HG3 : Hid (w.grownBy w3 none) := HG2.out.trans hg3
  clear hg3
  go_wp2_with fail
  refine (g_lone _ _).mono ?_
  rintro e w4 ⟨rfl, hg4⟩
  have HG4 : Hid (w.grownBy w4 none) := HG3.out.trans hg4
  clear hg4
  go_wp2_with fail
  refine (awake_lab _).mono ?_
  rintro e w5 ⟨rfl, hg5⟩
  have HG5 : Hid (w.grownBy w5 none) := HG4.out.trans hg5
  clear hg5
  go_wp2
  go_ret
  exact ⟨rfl, HG5.out⟩
set_option maxHeartbeats 2000000 in
theorem runes_high_empty_2 (x : Int) (head R : ByteArray) (w : World) (r : Int) (h0 : 0 ≤ r ∧ r ≤ 9223372036854775807) (HC : ∀ w, Calls Try.prog 4 #[.int .i64 x] w fun e w' => e = .returned (.int .i64 r) ∧ w = w') (hv : 57343 < r % 1114112 ∧ r % 1114112 ≤ 1114111) (hl : head.size ≤ 100) (hRE : Utf8.encode (r % 1114112) = R) (hR1 : 1 ≤ R.size) (hR4 : R.size ≤ 4)
    (k1 : (oneV R != 0) = false) (k2 : (oneV (⟨#[120]⟩ ++ R ++ R ++ ⟨#[121]⟩) != 0) = false) (k3 : (oneV (R ++ ⟨#[128]⟩) != 32) = false) (k4 : (oneV (⟨#[255]⟩ ++ R) != 32) = false) (hh : head.toList.isEmpty = true) (k7 : ((R.size : Int) == 1) = false) (k8 : (oneV (⟨#[120]⟩ ++ R.extract 0 ((R.size : Int) - 1).toNat) == 32) = true) :
    Calls Try.prog 3 #[.int .i64 x, .string head] w fun e w' => e = .returned (.bool true) ∧ w.grownBy w' none := by
  have HL : Hid (∀ w, Calls Try.prog 4 #[.int .i64 x] w fun e w' => e = .returned (.int .i64 r) ∧ w = w') := HC
  have HRE : Hid (Utf8.encode (r % 1114112) = R) := hRE
  have z1 : ∀ c : UInt8, (⟨#[c]⟩ : ByteArray).size = 1 := fun _ => rfl
  have p1 : ∀ w, (Op.stringOp .add ⟨#[120]⟩ R).run Try.prog w = .ok (.string (⟨#[120]⟩ ++ R)) w := fun w => by exact run_string_add_sum w _ _ (by rw [z1]; omega)
  have p2 : ∀ w, (Op.stringOp .add (⟨#[120]⟩ ++ R) R).run Try.prog w = .ok (.string (⟨#[120]⟩ ++ R ++ R)) w := fun w => by exact run_string_add_sum w _ _ (by simp only [ByteArray.size_append]; rw [z1]; omega)
  have p3 : ∀ w, (Op.stringOp .add (⟨#[120]⟩ ++ R ++ R) ⟨#[121]⟩).run Try.prog w = .ok (.string (⟨#[120]⟩ ++ R ++ R ++ ⟨#[121]⟩)) w := fun w => by exact run_string_add_sum w _ _ (by simp only [ByteArray.size_append]; rw [z1, z1]; omega)
  have p4 : ∀ w, (Op.stringOp .add R ⟨#[128]⟩).run Try.prog w = .ok (.string (R ++ ⟨#[128]⟩)) w := fun w => by exact run_string_add_sum w _ _ (by rw [z1]; omega)
  have p5 : ∀ w, (Op.stringOp .add ⟨#[255]⟩ R).run Try.prog w = .ok (.string (⟨#[255]⟩ ++ R)) w := fun w => by exact run_string_add_sum w _ _ (by rw [z1]; omega)
  have p6 : ∀ w, (Op.stringOp .add head R).run Try.prog w = .ok (.string (head ++ R)) w := fun w => by exact run_string_add_sum w _ _ (by omega)
  have hes : (R.extract 0 ((R.size : Int) - 1).toNat).size ≤ 4 := by rw [ByteArray.size_extract]; omega
  have hsl : ∀ w, (Instr.slice 9 (.string R) none (some (.int .i64 ((R.size : Int) - 1))) none).run Try.prog w = .ok (.string (R.extract 0 ((R.size : Int) - 1).toNat)) w := fun w => run_slice_string_h w 9 R Try.underlying9 .i64 _ (by omega) (by omega)
  obtain ⟨C, hC⟩ : ∃ C, C = R.extract 0 ((R.size : Int) - 1).toNat := ⟨_, rfl⟩
  rw [← hC] at hes hsl k8
  have p7 : ∀ w, (Op.stringOp .add ⟨#[120]⟩ C).run Try.prog w = .ok (.string (⟨#[120]⟩ ++ C)) w := fun w => by exact run_string_add_sum w _ _ (by rw [z1]; omega)
  clear hC
  clear HC hRE z1
  go_enter Try.func3, Try.ntmps3
  go_wp2_with (go_at_call 4; refine (HL.out _).mono ?_; rintro e w0 ⟨rfl, rfl⟩)
  rw [HRE.out]
  refine (g_lone _ _).mono ?_
  rintro e w1 ⟨rfl, hg1⟩
  have HG1 : Hid (w.grownBy w1 none) := hg1
  clear hg1
  go_wp2_with fail
  refine (g_lone _ _).mono ?_
  rintro e w2 ⟨rfl, hg2⟩
  have HG2 : Hid (w.grownBy w2 none) := HG1.out.trans hg2
  clear hg2
  go_wp2_with fail
  refine (g_lone _ _).mono ?_
  rintro e w3 ⟨rfl, hg3⟩
  have HG3 : Hid (w.grownBy w3 none) := HG2.out.trans hg3
  clear hg3
  go_wp2_with fail
  refine (g_lone _ _).mono ?_
  rintro e w4 ⟨rfl, hg4⟩
  have HG4 : Hid (w.grownBy w4 none) := HG3.out.trans hg4
  clear hg4
  go_wp2_with fail
  refine (g_lone _ _).mono ?_
  rintro e w5 ⟨rfl, hg5⟩
  have HG5 : Hid (w.grownBy w5 none) := HG4.out.trans hg5
  clear hg5
  go_wp2_with fail
  refine (awake_lab _).mono ?_
  rintro e w6 ⟨rfl, hg6⟩
  have HG6 : Hid (w.grownBy w6 none) := HG5.out.trans hg6
  clear hg6
  go_wp2
  go_ret
  exact ⟨rfl, HG6.out⟩
set_option maxHeartbeats 2000000 in
theorem runes_high_bad_1 (x : Int) (head R : ByteArray) (w : World) (r : Int) (h0 : 0 ≤ r ∧ r ≤ 9223372036854775807) (HC : ∀ w, Calls Try.prog 4 #[.int .i64 x] w fun e w' => e = .returned (.int .i64 r) ∧ w = w') (hv : 57343 < r % 1114112 ∧ r % 1114112 ≤ 1114111) (hl : head.size ≤ 100) (hRE : Utf8.encode (r % 1114112) = R) (hR1 : 1 ≤ R.size) (hR4 : R.size ≤ 4)
    (k1 : (oneV R != 0) = false) (k2 : (oneV (⟨#[120]⟩ ++ R ++ R ++ ⟨#[121]⟩) != 0) = false) (k3 : (oneV (R ++ ⟨#[128]⟩) != 32) = false) (k4 : (oneV (⟨#[255]⟩ ++ R) != 32) = false) (hh : head.toList.isEmpty = false) (k5 : (oneV head == 0) = false) (k7 : ((R.size : Int) == 1) = true) :
    Calls Try.prog 3 #[.int .i64 x, .string head] w fun e w' => e = .returned (.bool true) ∧ w.grownBy w' none := by
  have HL : Hid (∀ w, Calls Try.prog 4 #[.int .i64 x] w fun e w' => e = .returned (.int .i64 r) ∧ w = w') := HC
  have HRE : Hid (Utf8.encode (r % 1114112) = R) := hRE
  have z1 : ∀ c : UInt8, (⟨#[c]⟩ : ByteArray).size = 1 := fun _ => rfl
  have p1 : ∀ w, (Op.stringOp .add ⟨#[120]⟩ R).run Try.prog w = .ok (.string (⟨#[120]⟩ ++ R)) w := fun w => by exact run_string_add_sum w _ _ (by rw [z1]; omega)
  have p2 : ∀ w, (Op.stringOp .add (⟨#[120]⟩ ++ R) R).run Try.prog w = .ok (.string (⟨#[120]⟩ ++ R ++ R)) w := fun w => by exact run_string_add_sum w _ _ (by simp only [ByteArray.size_append]; rw [z1]; omega)
  have p3 : ∀ w, (Op.stringOp .add (⟨#[120]⟩ ++ R ++ R) ⟨#[121]⟩).run Try.prog w = .ok (.string (⟨#[120]⟩ ++ R ++ R ++ ⟨#[121]⟩)) w := fun w => by exact run_string_add_sum w _ _ (by simp only [ByteArray.size_append]; rw [z1, z1]; omega)
  have p4 : ∀ w, (Op.stringOp .add R ⟨#[128]⟩).run Try.prog w = .ok (.string (R ++ ⟨#[128]⟩)) w := fun w => by exact run_string_add_sum w _ _ (by rw [z1]; omega)
  have p5 : ∀ w, (Op.stringOp .add ⟨#[255]⟩ R).run Try.prog w = .ok (.string (⟨#[255]⟩ ++ R)) w := fun w => by exact run_string_add_sum w _ _ (by rw [z1]; omega)
  have p6 : ∀ w, (Op.stringOp .add head R).run Try.prog w = .ok (.string (head ++ R)) w := fun w => by exact run_string_add_sum w _ _ (by omega)
  clear HC hRE z1
  go_enter Try.func3, Try.ntmps3
  go_wp2_with (go_at_call 4; refine (HL.out _).mono ?_; rintro e w0 ⟨rfl, rfl⟩)
  rw [HRE.out]
  refine (g_lone _ _).mono ?_
  rintro e w1 ⟨rfl, hg1⟩
  have HG1 : Hid (w.grownBy w1 none) := hg1
  clear hg1
  go_wp2_with fail
  refine (g_lone _ _).mono ?_
  rintro e w2 ⟨rfl, hg2⟩
  have HG2 : Hid (w.grownBy w2 none) := HG1.out.trans hg2
  clear hg2
  go_wp2_with fail
  refine (g_lone _ _).mono ?_
  rintro e w3 ⟨rfl, hg3⟩
  have HG3 : Hid (w.grownBy w3 none) := HG2.out.trans hg3
  clear hg3
  go_wp2_with fail
  refine (g_lone _ _).mono ?_
  rintro e w4 ⟨rfl, hg4⟩
  have HG4 : Hid (w.grownBy w4 none) := HG3.out.trans hg4
  clear hg4
  go_wp2_with fail
  refine (g_lone _ _).mono ?_
  rintro e w5 ⟨rfl, hg5⟩
  have HG5 : Hid (w.grownBy w5 none) := HG4.out.trans hg5
  clear hg5
  go_wp2_with fail
  refine (awake_lab _).mono ?_
  rintro e w6 ⟨rfl, hg6⟩
  have HG6 : Hid (w.grownBy w6 none) := HG5.out.trans hg6
  clear hg6
  go_wp2
  go_ret
  exact ⟨rfl, HG6.out⟩
set_option maxHeartbeats 2000000 in
theorem runes_high_bad_2 (x : Int) (head R : ByteArray) (w : World) (r : Int) (h0 : 0 ≤ r ∧ r ≤ 9223372036854775807) (HC : ∀ w, Calls Try.prog 4 #[.int .i64 x] w fun e w' => e = .returned (.int .i64 r) ∧ w = w') (hv : 57343 < r % 1114112 ∧ r % 1114112 ≤ 1114111) (hl : head.size ≤ 100) (hRE : Utf8.encode (r % 1114112) = R) (hR1 : 1 ≤ R.size) (hR4 : R.size ≤ 4)
    (k1 : (oneV R != 0) = false) (k2 : (oneV (⟨#[120]⟩ ++ R ++ R ++ ⟨#[121]⟩) != 0) = false) (k3 : (oneV (R ++ ⟨#[128]⟩) != 32) = false) (k4 : (oneV (⟨#[255]⟩ ++ R) != 32) = false) (hh : head.toList.isEmpty = false) (k5 : (oneV head == 0) = false) (k7 : ((R.size : Int) == 1) = false) (k8 : (oneV (⟨#[120]⟩ ++ R.extract 0 ((R.size : Int) - 1).toNat) == 32) = true) :
    Calls Try.prog 3 #[.int .i64 x, .string head] w fun e w' => e = .returned (.bool true) ∧ w.grownBy w' none := by
  have HL : Hid (∀ w, Calls Try.prog 4 #[.int .i64 x] w fun e w' => e = .returned (.int .i64 r) ∧ w = w') := HC
  have HRE : Hid (Utf8.encode (r % 1114112) = R) := hRE
  have z1 : ∀ c : UInt8, (⟨#[c]⟩ : ByteArray).size = 1 := fun _ => rfl
  have p1 : ∀ w, (Op.stringOp .add ⟨#[120]⟩ R).run Try.prog w = .ok (.string (⟨#[120]⟩ ++ R)) w := fun w => by exact run_string_add_sum w _ _ (by rw [z1]; omega)
  have p2 : ∀ w, (Op.stringOp .add (⟨#[120]⟩ ++ R) R).run Try.prog w = .ok (.string (⟨#[120]⟩ ++ R ++ R)) w := fun w => by exact run_string_add_sum w _ _ (by simp only [ByteArray.size_append]; rw [z1]; omega)
  have p3 : ∀ w, (Op.stringOp .add (⟨#[120]⟩ ++ R ++ R) ⟨#[121]⟩).run Try.prog w = .ok (.string (⟨#[120]⟩ ++ R ++ R ++ ⟨#[121]⟩)) w := fun w => by exact run_string_add_sum w _ _ (by simp only [ByteArray.size_append]; rw [z1, z1]; omega)
  have p4 : ∀ w, (Op.stringOp .add R ⟨#[128]⟩).run Try.prog w = .ok (.string (R ++ ⟨#[128]⟩)) w := fun w => by exact run_string_add_sum w _ _ (by rw [z1]; omega)
  have p5 : ∀ w, (Op.stringOp .add ⟨#[255]⟩ R).run Try.prog w = .ok (.string (⟨#[255]⟩ ++ R)) w := fun w => by exact run_string_add_sum w _ _ (by rw [z1]; omega)
  have p6 : ∀ w, (Op.stringOp .add head R).run Try.prog w = .ok (.string (head ++ R)) w := fun w => by exact run_string_add_sum w _ _ (by omega)
  have hes : (R.extract 0 ((R.size : Int) - 1).toNat).size ≤ 4 := by rw [ByteArray.size_extract]; omega
  have hsl : ∀ w, (Instr.slice 9 (.string R) none (some (.int .i64 ((R.size : Int) - 1))) none).run Try.prog w = .ok (.string (R.extract 0 ((R.size : Int) - 1).toNat)) w := fun w => run_slice_string_h w 9 R Try.underlying9 .i64 _ (by omega) (by omega)
  obtain ⟨C, hC⟩ : ∃ C, C = R.extract 0 ((R.size : Int) - 1).toNat := ⟨_, rfl⟩
  rw [← hC] at hes hsl k8
  have p7 : ∀ w, (Op.stringOp .add ⟨#[120]⟩ C).run Try.prog w = .ok (.string (⟨#[120]⟩ ++ C)) w := fun w => by exact run_string_add_sum w _ _ (by rw [z1]; omega)
  clear hC
  clear HC hRE z1
  go_enter Try.func3, Try.ntmps3
  go_wp2_with (go_at_call 4; refine (HL.out _).mono ?_; rintro e w0 ⟨rfl, rfl⟩)
  rw [HRE.out]
  refine (g_lone _ _).mono ?_
  rintro e w1 ⟨rfl, hg1⟩
  have HG1 : Hid (w.grownBy w1 none) := hg1
  clear hg1
  go_wp2_with fail
  refine (g_lone _ _).mono ?_
  rintro e w2 ⟨rfl, hg2⟩
  have HG2 : Hid (w.grownBy w2 none) := HG1.out.trans hg2
  clear hg2
  go_wp2_with fail
  refine (g_lone _ _).mono ?_
  rintro e w3 ⟨rfl, hg3⟩
  have HG3 : Hid (w.grownBy w3 none) := HG2.out.trans hg3
  clear hg3
  go_wp2_with fail
  refine (g_lone _ _).mono ?_
  rintro e w4 ⟨rfl, hg4⟩
  have HG4 : Hid (w.grownBy w4 none) := HG3.out.trans hg4
  clear hg4
  go_wp2_with fail
  refine (g_lone _ _).mono ?_
  rintro e w5 ⟨rfl, hg5⟩
  have HG5 : Hid (w.grownBy w5 none) := HG4.out.trans hg5
  clear hg5
  go_wp2_with fail
  refine (g_lone _ _).mono ?_
  rintro e w6 ⟨rfl, hg6⟩
  have HG6 : Hid (w.grownBy w6 none) := HG5.out.trans hg6
  clear hg6
  go_wp2_with fail
  refine (awake_lab _).mono ?_
  rintro e w7 ⟨rfl, hg7⟩
  have HG7 : Hid (w.grownBy w7 none) := HG6.out.trans hg7
  clear hg7
  go_wp2
  go_ret
  exact ⟨rfl, HG7.out⟩
set_option maxHeartbeats 2000000 in
theorem runes_high_valid_1 (x : Int) (head R : ByteArray) (w : World) (r : Int) (h0 : 0 ≤ r ∧ r ≤ 9223372036854775807) (HC : ∀ w, Calls Try.prog 4 #[.int .i64 x] w fun e w' => e = .returned (.int .i64 r) ∧ w = w') (hv : 57343 < r % 1114112 ∧ r % 1114112 ≤ 1114111) (hl : head.size ≤ 100) (hRE : Utf8.encode (r % 1114112) = R) (hR1 : 1 ≤ R.size) (hR4 : R.size ≤ 4)
    (k1 : (oneV R != 0) = false) (k2 : (oneV (⟨#[120]⟩ ++ R ++ R ++ ⟨#[121]⟩) != 0) = false) (k3 : (oneV (R ++ ⟨#[128]⟩) != 32) = false) (k4 : (oneV (⟨#[255]⟩ ++ R) != 32) = false) (hh : head.toList.isEmpty = false) (k5 : (oneV head == 0) = true) (k6 : (oneV (head ++ R) != 0) = false) (k7 : ((R.size : Int) == 1) = true) :
    Calls Try.prog 3 #[.int .i64 x, .string head] w fun e w' => e = .returned (.bool true) ∧ w.grownBy w' none := by
  have HL : Hid (∀ w, Calls Try.prog 4 #[.int .i64 x] w fun e w' => e = .returned (.int .i64 r) ∧ w = w') := HC
  have HRE : Hid (Utf8.encode (r % 1114112) = R) := hRE
  have z1 : ∀ c : UInt8, (⟨#[c]⟩ : ByteArray).size = 1 := fun _ => rfl
  have p1 : ∀ w, (Op.stringOp .add ⟨#[120]⟩ R).run Try.prog w = .ok (.string (⟨#[120]⟩ ++ R)) w := fun w => by exact run_string_add_sum w _ _ (by rw [z1]; omega)
  have p2 : ∀ w, (Op.stringOp .add (⟨#[120]⟩ ++ R) R).run Try.prog w = .ok (.string (⟨#[120]⟩ ++ R ++ R)) w := fun w => by exact run_string_add_sum w _ _ (by simp only [ByteArray.size_append]; rw [z1]; omega)
  have p3 : ∀ w, (Op.stringOp .add (⟨#[120]⟩ ++ R ++ R) ⟨#[121]⟩).run Try.prog w = .ok (.string (⟨#[120]⟩ ++ R ++ R ++ ⟨#[121]⟩)) w := fun w => by exact run_string_add_sum w _ _ (by simp only [ByteArray.size_append]; rw [z1, z1]; omega)
  have p4 : ∀ w, (Op.stringOp .add R ⟨#[128]⟩).run Try.prog w = .ok (.string (R ++ ⟨#[128]⟩)) w := fun w => by exact run_string_add_sum w _ _ (by rw [z1]; omega)
  have p5 : ∀ w, (Op.stringOp .add ⟨#[255]⟩ R).run Try.prog w = .ok (.string (⟨#[255]⟩ ++ R)) w := fun w => by exact run_string_add_sum w _ _ (by rw [z1]; omega)
  have p6 : ∀ w, (Op.stringOp .add head R).run Try.prog w = .ok (.string (head ++ R)) w := fun w => by exact run_string_add_sum w _ _ (by omega)
  clear HC hRE z1
  go_enter Try.func3, Try.ntmps3
  go_wp2_with (go_at_call 4; refine (HL.out _).mono ?_; rintro e w0 ⟨rfl, rfl⟩)
  rw [HRE.out]
  refine (g_lone _ _).mono ?_
  rintro e w1 ⟨rfl, hg1⟩
  have HG1 : Hid (w.grownBy w1 none) := hg1
  clear hg1
  go_wp2_with fail
  refine (g_lone _ _).mono ?_
  rintro e w2 ⟨rfl, hg2⟩
  have HG2 : Hid (w.grownBy w2 none) := HG1.out.trans hg2
  clear hg2
  go_wp2_with fail
  refine (g_lone _ _).mono ?_
  rintro e w3 ⟨rfl, hg3⟩
  have HG3 : Hid (w.grownBy w3 none) := HG2.out.trans hg3
  clear hg3
  go_wp2_with fail
  refine (g_lone _ _).mono ?_
  rintro e w4 ⟨rfl, hg4⟩
  have HG4 : Hid (w.grownBy w4 none) := HG3.out.trans hg4
  clear hg4
  go_wp2_with fail
  refine (g_lone _ _).mono ?_
  rintro e w5 ⟨rfl, hg5⟩
  have HG5 : Hid (w.grownBy w5 none) := HG4.out.trans hg5
  clear hg5
  go_wp2_with fail
  refine (g_lone _ _).mono ?_
  rintro e w6 ⟨rfl, hg6⟩
  have HG6 : Hid (w.grownBy w6 none) := HG5.out.trans hg6
  clear hg6
  go_wp2_with fail
  refine (awake_lab _).mono ?_
  rintro e w7 ⟨rfl, hg7⟩
  have HG7 : Hid (w.grownBy w7 none) := HG6.out.trans hg7
  clear hg7
  go_wp2
  go_ret
  exact ⟨rfl, HG7.out⟩
set_option maxHeartbeats 2000000 in
theorem runes_high_valid_2 (x : Int) (head R : ByteArray) (w : World) (r : Int) (h0 : 0 ≤ r ∧ r ≤ 9223372036854775807) (HC : ∀ w, Calls Try.prog 4 #[.int .i64 x] w fun e w' => e = .returned (.int .i64 r) ∧ w = w') (hv : 57343 < r % 1114112 ∧ r % 1114112 ≤ 1114111) (hl : head.size ≤ 100) (hRE : Utf8.encode (r % 1114112) = R) (hR1 : 1 ≤ R.size) (hR4 : R.size ≤ 4)
    (k1 : (oneV R != 0) = false) (k2 : (oneV (⟨#[120]⟩ ++ R ++ R ++ ⟨#[121]⟩) != 0) = false) (k3 : (oneV (R ++ ⟨#[128]⟩) != 32) = false) (k4 : (oneV (⟨#[255]⟩ ++ R) != 32) = false) (hh : head.toList.isEmpty = false) (k5 : (oneV head == 0) = true) (k6 : (oneV (head ++ R) != 0) = false) (k7 : ((R.size : Int) == 1) = false) (k8 : (oneV (⟨#[120]⟩ ++ R.extract 0 ((R.size : Int) - 1).toNat) == 32) = true) :
    Calls Try.prog 3 #[.int .i64 x, .string head] w fun e w' => e = .returned (.bool true) ∧ w.grownBy w' none := by
  have HL : Hid (∀ w, Calls Try.prog 4 #[.int .i64 x] w fun e w' => e = .returned (.int .i64 r) ∧ w = w') := HC
  have HRE : Hid (Utf8.encode (r % 1114112) = R) := hRE
  have z1 : ∀ c : UInt8, (⟨#[c]⟩ : ByteArray).size = 1 := fun _ => rfl
  have p1 : ∀ w, (Op.stringOp .add ⟨#[120]⟩ R).run Try.prog w = .ok (.string (⟨#[120]⟩ ++ R)) w := fun w => by exact run_string_add_sum w _ _ (by rw [z1]; omega)
  have p2 : ∀ w, (Op.stringOp .add (⟨#[120]⟩ ++ R) R).run Try.prog w = .ok (.string (⟨#[120]⟩ ++ R ++ R)) w := fun w => by exact run_string_add_sum w _ _ (by simp only [ByteArray.size_append]; rw [z1]; omega)
  have p3 : ∀ w, (Op.stringOp .add (⟨#[120]⟩ ++ R ++ R) ⟨#[121]⟩).run Try.prog w = .ok (.string (⟨#[120]⟩ ++ R ++ R ++ ⟨#[121]⟩)) w := fun w => by exact run_string_add_sum w _ _ (by simp only [ByteArray.size_append]; rw [z1, z1]; omega)
  have p4 : ∀ w, (Op.stringOp .add R ⟨#[128]⟩).run Try.prog w = .ok (.string (R ++ ⟨#[128]⟩)) w := fun w => by exact run_string_add_sum w _ _ (by rw [z1]; omega)
  have p5 : ∀ w, (Op.stringOp .add ⟨#[255]⟩ R).run Try.prog w = .ok (.string (⟨#[255]⟩ ++ R)) w := fun w => by exact run_string_add_sum w _ _ (by rw [z1]; omega)
  have p6 : ∀ w, (Op.stringOp .add head R).run Try.prog w = .ok (.string (head ++ R)) w := fun w => by exact run_string_add_sum w _ _ (by omega)
  have hes : (R.extract 0 ((R.size : Int) - 1).toNat).size ≤ 4 := by rw [ByteArray.size_extract]; omega
  have hsl : ∀ w, (Instr.slice 9 (.string R) none (some (.int .i64 ((R.size : Int) - 1))) none).run Try.prog w = .ok (.string (R.extract 0 ((R.size : Int) - 1).toNat)) w := fun w => run_slice_string_h w 9 R Try.underlying9 .i64 _ (by omega) (by omega)
  obtain ⟨C, hC⟩ : ∃ C, C = R.extract 0 ((R.size : Int) - 1).toNat := ⟨_, rfl⟩
  rw [← hC] at hes hsl k8
  have p7 : ∀ w, (Op.stringOp .add ⟨#[120]⟩ C).run Try.prog w = .ok (.string (⟨#[120]⟩ ++ C)) w := fun w => by exact run_string_add_sum w _ _ (by rw [z1]; omega)
  clear hC
  clear HC hRE z1
  go_enter Try.func3, Try.ntmps3
  go_wp2_with (go_at_call 4; refine (HL.out _).mono ?_; rintro e w0 ⟨rfl, rfl⟩)
  rw [HRE.out]
  refine (g_lone _ _).mono ?_
  rintro e w1 ⟨rfl, hg1⟩
  have HG1 : Hid (w.grownBy w1 none) := hg1
  clear hg1
  go_wp2_with fail
  refine (g_lone _ _).mono ?_
  rintro e w2 ⟨rfl, hg2⟩
  have HG2 : Hid (w.grownBy w2 none) := HG1.out.trans hg2
  clear hg2
  go_wp2_with fail
  refine (g_lone _ _).mono ?_
  rintro e w3 ⟨rfl, hg3⟩
  have HG3 : Hid (w.grownBy w3 none) := HG2.out.trans hg3
  clear hg3
  go_wp2_with fail
  refine (g_lone _ _).mono ?_
  rintro e w4 ⟨rfl, hg4⟩
  have HG4 : Hid (w.grownBy w4 none) := HG3.out.trans hg4
  clear hg4
  go_wp2_with fail
  refine (g_lone _ _).mono ?_
  rintro e w5 ⟨rfl, hg5⟩
  have HG5 : Hid (w.grownBy w5 none) := HG4.out.trans hg5
  clear hg5
  go_wp2_with fail
  refine (g_lone _ _).mono ?_
  rintro e w6 ⟨rfl, hg6⟩
  have HG6 : Hid (w.grownBy w6 none) := HG5.out.trans hg6
  clear hg6
  go_wp2_with fail
  refine (g_lone _ _).mono ?_
  rintro e w7 ⟨rfl, hg7⟩
  have HG7 : Hid (w.grownBy w7 none) := HG6.out.trans hg7
  clear hg7
  go_wp2_with fail
  refine (awake_lab _).mono ?_
  rintro e w8 ⟨rfl, hg8⟩
  have HG8 : Hid (w.grownBy w8 none) := HG7.out.trans hg8
  clear hg8
  go_wp2
  go_ret
  exact ⟨rfl, HG8.out⟩
end Go.Proofs.Ytailaehpgmpaaab
