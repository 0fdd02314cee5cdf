/- Tenants' names: the program's and the document's. (Printed by mk_la.py.) -/
import Derived.Test.YthkalbiglfgleaaEname
namespace Go.Proofs.Ythkalbiglfgleaa
set_option maxRecDepth 20000
open Go.RowKit
set_option linter.unusedVariables false

def tenB (c : Int) : Bool := decide (97 ≤ c) && decide (c ≤ 122) || decide (48 ≤ c) && decide (c ≤ 57) || decide (c = 45)
def tenR (s : ByteArray) : Bool := decide (0 < s.size) && decide (s.size ≤ 32) && (sInts s).all tenB
def TenAt (s : ByteArray) (k : Nat) (R : Bool) : Prop := ((sInts s).drop k).all tenB = R
theorem TenAt.next {s : ByteArray} {k : Nat} {R : Bool} (h : TenAt s k R) (hk : k < s.size) : (tenB (byteAt s k) && ((sInts s).drop (k + 1)).all tenB) = R := by
  unfold TenAt at h
  have hl : k < (sInts s).length := by rw [sInts_len]; exact hk
  rw [List.drop_eq_getElem_cons hl, List.all_cons] at h
  have : byteAt s k = (sInts s)[k] := by
    unfold byteAt
    rw [List.getD_eq_getElem?_getD, List.getElem?_eq_getElem hl]
    rfl
  rw [this]
  exact h
theorem tenB_iff (c : Int) : tenB c = true ↔ (97 ≤ c ∧ c ≤ 122 ∨ 48 ≤ c ∧ c ≤ 57) ∨ c = 45 := by
  unfold tenB
  simp only [Bool.or_eq_true, Bool.and_eq_true, decide_eq_true_eq]
/-- The classes of a byte. -/
theorem six_classes (c : Int) : (97 ≤ c ∧ c ≤ 122) ∨ 122 < c ∨ (48 ≤ c ∧ c ≤ 57) ∨ (57 < c ∧ c < 97) ∨ c = 45 ∨ (c < 48 ∧ c ≠ 45) := by omega
theorem g_tenB (c : Int) (R : Bool) (w : World) (hR : tenB c = R) : Calls Try.prog 30 #[.int .u8 c] w fun e w' => e = .returned (.bool R) ∧ w = w' := by
  have hl := tenB_iff c
  rw [hR] at hl
  clear hR
  rcases six_classes c with h | h | h | h | h | h
  · have hr : R = true := by rw [hl]; omega
    subst hr
    clear hl
    have r0 : decide (97 ≤ c) = true := by simp; omega
    have r1 : decide (c ≤ 122) = true := by simp; omega
    clear h
    go_enter Try.func30, Try.ntmps30
    go_wp2
    go_ret
    exact ⟨rfl, rfl⟩
  · have hr : R = false := by cases R with | false => rfl | true => simp at hl; omega
    subst hr
    clear hl
    have r0 : decide (97 ≤ c) = true := by simp; omega
    have r1 : decide (c ≤ 122) = false := by simp; omega
    have r2 : decide (48 ≤ c) = true := by simp; omega
    have r3 : decide (c ≤ 57) = false := by simp; omega
    have r4 : (c == 45) = false := by simp; omega
    clear h
    go_enter Try.func30, Try.ntmps30
    go_wp2
    go_ret
    exact ⟨rfl, rfl⟩
  · have hr : R = true := by rw [hl]; omega
    subst hr
    clear hl
    have r0 : decide (97 ≤ c) = false := by simp; omega
    have r1 : decide (48 ≤ c) = true := by simp; omega
    have r2 : decide (c ≤ 57) = true := by simp; omega
    clear h
    go_enter Try.func30, Try.ntmps30
    go_wp2
    go_ret
    exact ⟨rfl, rfl⟩
  · have hr : R = false := by cases R with | false => rfl | true => simp at hl; omega
    subst hr
    clear hl
    have r0 : decide (97 ≤ c) = false := by simp; omega
    have r1 : decide (48 ≤ c) = true := by simp; omega
    have r2 : decide (c ≤ 57) = false := by simp; omega
    have r3 : (c == 45) = false := by simp; omega
    clear h
    go_enter Try.func30, Try.ntmps30
    go_wp2
    go_ret
    exact ⟨rfl, rfl⟩
  · have hr : R = true := by rw [hl]; omega
    subst hr
    clear hl
    subst h
    go_enter Try.func30, Try.ntmps30
    go_wp2
    go_ret
    exact ⟨rfl, rfl⟩
  · have hr : R = false := by cases R with | false => rfl | true => simp at hl; omega
    subst hr
    clear hl
    have r0 : decide (97 ≤ c) = false := by simp; omega
    have r1 : decide (48 ≤ c) = false := by simp; omega
    have r2 : (c == 45) = false := by simp; omega
    clear h
    go_enter Try.func30, Try.ntmps30
    go_wp2
    go_ret
    exact ⟨rfl, rfl⟩

set_option maxHeartbeats 1000000 in
theorem g_isName (s : ByteArray) (w : World) :
    Calls Try.prog 29 #[.string s, .int .i64 32, .func (.func 30) #[] #[]] w fun e w' => e = .returned (.bool (tenR s)) ∧ w = w' := by
  by_cases h1 : s.size < 1
  · have e : tenR s = false := by unfold tenR; rw [decide_eq_false (by omega : ¬ 0 < s.size)]; simp
    rw [e]
    have q1 : decide ((s.size : Int) < 1) = true := by simp; omega
    clear e
    go_enter Try.func29, Try.ntmps29
    go_wp2
    go_ret
    exact ⟨rfl, rfl⟩
  · by_cases h2 : 32 < s.size
    · have e : tenR s = false := by unfold tenR; rw [decide_eq_false (by omega : ¬ s.size ≤ 32)]; simp
      rw [e]
      have q1 : decide ((s.size : Int) < 1) = false := by simp; omega
      have q2 : decide ((32 : Int) < (s.size : Int)) = true := by simp; omega
      clear e
      go_enter Try.func29, Try.ntmps29
      go_wp2
      go_ret
      exact ⟨rfl, rfl⟩
    · have e : tenR s = (sInts s).all tenB := by
        unfold tenR
        rw [decide_eq_true (by omega : 0 < s.size), decide_eq_true (by omega : s.size ≤ 32)]
        simp
      rw [e]
      have H0 : Hid (TenAt s 0 ((sInts s).all tenB)) := by show TenAt _ _ _; unfold TenAt; rfl
      clear e
      generalize (sInts s).all tenB = R at H0 ⊢
      have q1 : decide ((s.size : Int) < 1) = false := by simp; omega
      have q2 : decide ((32 : Int) < (s.size : Int)) = false := by simp; omega
      go_enter Try.func29, Try.ntmps29
      go_wp2
      go_loop [19] (fun i => ∃ k : Nat, k ≤ s.size ∧ i = .int .i64 k ∧ TenAt s k R) (fun i => s.size - (intOf i).toNat)
      case atStart => exact ⟨0, Nat.zero_le _, rfl, H0.out⟩
      case round =>
        obtain ⟨k, hk, rfl, hn⟩ := hrel
        have HN : Hid (TenAt s k R) := hn
        clear hn H0
        by_cases hlt : k < s.size
        · have hidx := idx9 s k hlt
          have HNx : Hid (_ = R) := HN.out.next hlt
          have hki : (k : Int) < (s.size : Int) := by omega
          generalize byteAt s k = c at hidx HNx
          by_cases hc : tenB c = true
          · have HS : Hid (TenAt s (k + 1) R) := by have h := HNx.out; rw [hc, Bool.true_and] at h; exact h
            have HC : Hid (∀ w, Calls Try.prog 30 #[.int .u8 c] w fun e w' => e = .returned (.bool true) ∧ w = w') := fun w => g_tenB c true w hc
            clear HNx hc
            go_wp2_with (go_at_call 30; refine (HC.out _).mono ?_; rintro e w1 ⟨rfl, rfl⟩)
            go_round
            case rel => exact ⟨k + 1, by omega, by go_num, HS.out⟩
            case measure => simp [intOf]; omega
          · have hc' : tenB c = false := by simpa using hc
            have HS : Hid (false = R) := by have h := HNx.out; rw [hc', Bool.false_and] at h; exact h
            have HC : Hid (∀ w, Calls Try.prog 30 #[.int .u8 c] w fun e w' => e = .returned (.bool false) ∧ w = w') := fun w => g_tenB c false w hc'
            clear HNx hc hc'
            go_wp2_with (go_at_call 30; refine (HC.out _).mono ?_; rintro e w1 ⟨rfl, rfl⟩)
            go_ret
            exact ⟨ret_bool HS.out, rfl⟩
        · have HS : Hid (true = R) := by
            have h := HN.out
            unfold TenAt at h
            rw [List.drop_eq_nil_of_le (by rw [sInts_len]; omega), List.all_nil] at h
            exact h
          have hki : ¬ (k : Int) < (s.size : Int) := by omega
          go_wp2
          go_ret
          exact ⟨ret_bool HS.out, rfl⟩
theorem g_ofTenant (s : ByteArray) (w : World) : Calls Try.prog 21 #[.string s] w fun e w' => e = .returned (.bool (tenR s)) ∧ w = w' := by
  have HC : Hid (∀ w, Calls Try.prog 29 #[.string s, .int .i64 32, .func (.func 30) #[] #[]] w fun e w' => e = .returned (.bool (tenR s)) ∧ w = w') := g_isName s
  generalize tenR s = R at HC ⊢
  go_enter Try.func21, Try.ntmps21
  go_wp2_with (go_at_call 29; refine (HC.out _).mono ?_; rintro e w1 ⟨rfl, rfl⟩)
  go_ret
  exact ⟨rfl, rfl⟩
theorem f_tenant (s : ByteArray) (w : World) : Calls Try.prog 10 #[.string s] w fun e w' => e = .returned (.bool (tenR s)) ∧ w = w' := by
  have HC : Hid (∀ w, Calls Try.prog 21 #[.string s] w fun e w' => e = .returned (.bool (tenR s)) ∧ w = w') := g_ofTenant s
  generalize tenR s = R at HC ⊢
  go_enter Try.func10, Try.ntmps10
  go_wp2_with (go_at_call 21; refine (HC.out _).mono ?_; rintro e w1 ⟨rfl, rfl⟩)
  go_ret
  exact ⟨rfl, rfl⟩

set_option maxHeartbeats 1000000 in
theorem r_tenant (s : ByteArray) (w : World) : Calls Try.prog 11 #[.string s] w fun e w' => e = .returned (.bool (tenR s)) ∧ w = w' := by
  by_cases h1 : s.size < 1
  · have e : tenR s = false := by unfold tenR; rw [decide_eq_false (by omega : ¬ 0 < s.size)]; simp
    rw [e]
    have q1 : decide ((s.size : Int) < 1) = true := by simp; omega
    clear e
    go_enter Try.func11, Try.ntmps11
    go_wp2
    go_ret
    exact ⟨rfl, rfl⟩
  · by_cases h2 : 32 < s.size
    · have e : tenR s = false := by unfold tenR; rw [decide_eq_false (by omega : ¬ s.size ≤ 32)]; simp
      rw [e]
      have q1 : decide ((s.size : Int) < 1) = false := by simp; omega
      have q2 : decide ((32 : Int) < (s.size : Int)) = true := by simp; omega
      clear e
      go_enter Try.func11, Try.ntmps11
      go_wp2
      go_ret
      exact ⟨rfl, rfl⟩
    · have e : tenR s = (sInts s).all tenB := by
        unfold tenR
        rw [decide_eq_true (by omega : 0 < s.size), decide_eq_true (by omega : s.size ≤ 32)]
        simp
      rw [e]
      have H0 : Hid (TenAt s 0 ((sInts s).all tenB)) := by show TenAt _ _ _; unfold TenAt; rfl
      clear e
      generalize (sInts s).all tenB = R at H0 ⊢
      have q1 : decide ((s.size : Int) < 1) = false := by simp; omega
      have q2 : decide ((32 : Int) < (s.size : Int)) = false := by simp; omega
      go_enter Try.func11, Try.ntmps11
      go_wp2
      go_loop [3] (fun i => ∃ k : Nat, k ≤ s.size ∧ i = .int .i64 k ∧ TenAt s k R) (fun i => s.size - (intOf i).toNat)
      case atStart => exact ⟨0, Nat.zero_le _, rfl, H0.out⟩
      case round =>
        obtain ⟨k, hk, rfl, hn⟩ := hrel
        have HN : Hid (TenAt s k R) := hn
        clear hn H0
        by_cases hlt : k < s.size
        · have hidx := idx9 s k hlt
          have HNx : Hid (_ = R) := HN.out.next hlt
          have hki : (k : Int) < (s.size : Int) := by omega
          generalize byteAt s k = c at hidx HNx
          have hl := tenB_iff c
          rcases six_classes c with h | h | h | h | h | h
          · have HS : Hid (TenAt s (k + 1) R) := by have h2 := HNx.out; rw [hl.2 (by omega), Bool.true_and] at h2; exact h2
            clear HNx hl
            have r0 : decide (97 ≤ c) = true := by simp; omega
            have r1 : decide (c ≤ 122) = true := by simp; omega
            clear h
            go_wp2
            go_round
            case rel => exact ⟨k + 1, by omega, by go_num, HS.out⟩
            case measure => simp [intOf]; omega
          · have HS : Hid (false = R) := by have h2 := HNx.out; rw [show tenB c = false by (cases hb : tenB c with | false => rfl | true => rw [hb] at hl; simp at hl; omega), Bool.false_and] at h2; exact h2
            clear HNx hl
            have r0 : decide (97 ≤ c) = true := by simp; omega
            have r1 : decide (c ≤ 122) = false := by simp; omega
            have r2 : decide (48 ≤ c) = true := by simp; omega
            have r3 : decide (c ≤ 57) = false := by simp; omega
            have r4 : (c == 45) = false := by simp; omega
            clear h
            go_wp2
            go_ret
            exact ⟨ret_bool HS.out, rfl⟩
          · have HS : Hid (TenAt s (k + 1) R) := by have h2 := HNx.out; rw [hl.2 (by omega), Bool.true_and] at h2; exact h2
            clear HNx hl
            have r0 : decide (97 ≤ c) = false := by simp; omega
            have r1 : decide (48 ≤ c) = true := by simp; omega
            have r2 : decide (c ≤ 57) = true := by simp; omega
            clear h
            go_wp2
            go_round
            case rel => exact ⟨k + 1, by omega, by go_num, HS.out⟩
            case measure => simp [intOf]; omega
          · have HS : Hid (false = R) := by have h2 := HNx.out; rw [show tenB c = false by (cases hb : tenB c with | false => rfl | true => rw [hb] at hl; simp at hl; omega), Bool.false_and] at h2; exact h2
            clear HNx hl
            have r0 : decide (97 ≤ c) = false := by simp; omega
            have r1 : decide (48 ≤ c) = true := by simp; omega
            have r2 : decide (c ≤ 57) = false := by simp; omega
            have r3 : (c == 45) = false := by simp; omega
            clear h
            go_wp2
            go_ret
            exact ⟨ret_bool HS.out, rfl⟩
          · have HS : Hid (TenAt s (k + 1) R) := by have h2 := HNx.out; rw [hl.2 (by omega), Bool.true_and] at h2; exact h2
            clear HNx hl
            subst h
            go_wp2
            go_round
            case rel => exact ⟨k + 1, by omega, by go_num, HS.out⟩
            case measure => simp [intOf]; omega
          · have HS : Hid (false = R) := by have h2 := HNx.out; rw [show tenB c = false by (cases hb : tenB c with | false => rfl | true => rw [hb] at hl; simp at hl; omega), Bool.false_and] at h2; exact h2
            clear HNx hl
            have r0 : decide (97 ≤ c) = false := by simp; omega
            have r1 : decide (48 ≤ c) = false := by simp; omega
            have r2 : (c == 45) = false := by simp; omega
            clear h
            go_wp2
            go_ret
            exact ⟨ret_bool HS.out, rfl⟩
        · have HS : Hid (true = R) := by
            have h := HN.out
            unfold TenAt at h
            rw [List.drop_eq_nil_of_le (by rw [sInts_len]; omega), List.all_nil] at h
            exact h
          have hki : ¬ (k : Int) < (s.size : Int) := by omega
          go_wp2
          go_ret
          exact ⟨ret_bool HS.out, rfl⟩
end Go.Proofs.Ythkalbiglfgleaa
