/- The program's own isUTF8, isValue. -/
import Derived.Test.YtailaehpgmpaaaaEutf
namespace Go.Proofs.Ytailaehpgmpaaaa
open Go.RowKit
set_option linter.unusedVariables false

theorem g_second (c : Int) (w : World) : Calls Try.prog 92 #[.int .u8 c] w fun e w' => e = .returned (.tuple #[.int .u8 (lo2 c), .int .u8 (hi2 c)]) ∧ w = w' := by
  have hlo := lo2_eq c
  have hhi := hi2_eq c
  by_cases h1 : c = 224
  · rw [hlo.1 h1, hhi.2.2 (by omega) (by omega)]
    subst h1
    clear hlo hhi
    go_enter Try.func92, Try.ntmps92
    go_wp2
    go_ret2
    exact ⟨rfl, rfl⟩
  · have q1 : (c == 224) = false := by simpa using h1
    by_cases h2 : c = 237
    · rw [hlo.2.2 (by omega) (by omega), hhi.1 h2]
      subst h2
      clear hlo hhi q1 h1
      go_enter Try.func92, Try.ntmps92
      go_wp2
      go_ret2
      exact ⟨rfl, rfl⟩
    · have q2 : (c == 237) = false := by simpa using h2
      by_cases h3 : c = 240
      · rw [hlo.2.1 h3, hhi.2.2 (by omega) (by omega)]
        subst h3
        clear hlo hhi q1 q2 h1 h2
        go_enter Try.func92, Try.ntmps92
        go_wp2
        go_ret2
        exact ⟨rfl, rfl⟩
      · have q3 : (c == 240) = false := by simpa using h3
        by_cases h4 : c = 244
        · rw [hlo.2.2 (by omega) (by omega), hhi.2.1 h4]
          subst h4
          clear hlo hhi q1 q2 q3 h1 h2 h3
          go_enter Try.func92, Try.ntmps92
          go_wp2
          go_ret2
          exact ⟨rfl, rfl⟩
        · have q4 : (c == 244) = false := by simpa using h4
          rw [hlo.2.2 (by omega) (by omega), hhi.2.2 (by omega) (by omega)]
          clear hlo hhi h1 h2 h3 h4
          go_enter Try.func92, Try.ntmps92
          go_wp2
          go_ret2
          exact ⟨rfl, rfl⟩
theorem g_stands (s : ByteArray) (k : Nat) (lo hi : Int) (w : World) : Calls Try.prog 93 #[.string s, .int .i64 k, .int .u8 lo, .int .u8 hi] w fun e w' => e = .returned (.bool (stdB s k lo hi)) ∧ w = w' := by
  unfold stdB
  by_cases h1 : k < s.size
  · have hidx := idx9 s k h1
    have q1 : decide ((k : Int) < (s.size : Int)) = true := by simp; omega
    rw [decide_eq_true h1]
    generalize byteAt s k = c at hidx ⊢
    by_cases h2 : lo ≤ c
    · have q2 : decide (lo ≤ c) = true := by simpa using h2
      by_cases h3 : c ≤ hi
      · have q3 : decide (c ≤ hi) = true := by simpa using h3
        rw [q2, q3]
        clear h2 h3
        go_enter Try.func93, Try.ntmps93
        go_wp2
        go_ret
        exact ⟨rfl, rfl⟩
      · have q3 : decide (c ≤ hi) = false := by simpa using h3
        rw [q2, q3]
        clear h2 h3
        go_enter Try.func93, Try.ntmps93
        go_wp2
        go_ret
        exact ⟨rfl, rfl⟩
    · have q2 : decide (lo ≤ c) = false := by simpa using h2
      rw [q2]
      clear h2
      go_enter Try.func93, Try.ntmps93
      go_wp2
      go_ret
      exact ⟨rfl, rfl⟩
  · have q1 : decide ((k : Int) < (s.size : Int)) = false := by simp; omega
    rw [decide_eq_false h1]
    go_enter Try.func93, Try.ntmps93
    go_wp2
    go_ret
    exact ⟨rfl, rfl⟩

/-- The machine's frame. -/
def Fr (s : ByteArray) (x3 x4 x5 x6 : Value) (a : Act) : Prop := ∃ (u7 u8 u9 u10 u11 u12 u13 u14 u15 u16 u17 u18 u19 u20 u21 u22 u23 u24 u25 u26 u27 u28 u29 u30 u31 u32 u33 u34 u35 u36 u37 u38 u39 u40 u41 u42 u43 u44 u45 u46 u47 u48 u49 u50 u51 u52 u53 u54 u55 u56 u57 u58 u59 u60 : Value), a = { tmps := #[.string s, undef, .bool false, x3, x4, x5, x6, u7, u8, u9, u10, u11, u12, u13, u14, u15, u16, u17, u18, u19, u20, u21, u22, u23, u24, u25, u26, u27, u28, u29, u30, u31, u32, u33, u34, u35, u36, u37, u38, u39, u40, u41, u42, u43, u44, u45, u46, u47, u48, u49, u50, u51, u52, u53, u54, u55, u56, u57, u58, u59, u60], defers := [] }
def UJ (s : ByteArray) (R : Bool) (w0 : World) : Nat → Act → World → Prop
  | 0, a, w => w0 = w ∧ ∃ (k : Nat) (x3 x4 x5 : Value), Fr s x3 x4 x5 (.int .i64 k) a ∧ k ≤ s.size ∧ vfrom s k = R
  | 1, a, w => w0 = w ∧ ∃ (k : Nat) (x3 : Value) (lo hi : Int), Fr s x3 (.int .u8 lo) (.int .u8 hi) (.int .i64 k) a ∧ k ≤ s.size ∧ V1 s k lo hi = R
  | 2, a, w => w0 = w ∧ ∃ (k : Nat) (x3 : Value) (lo hi : Int), Fr s x3 (.int .u8 lo) (.int .u8 hi) (.int .i64 k) a ∧ k ≤ s.size ∧ V2 s k lo hi = R
  | _, _, _ => False
def Um (s : ByteArray) (l : Nat) (a : Act) (_ : World) : Nat := 4 * (s.size + 1 - (intOf (a.tmps.getD 6 undef)).toNat) + l

set_option maxHeartbeats 2000000 in
theorem g_utf (s : ByteArray) (R : Bool) (w : World) (hs : s.size ≤ 1000000000) (hR : vfrom s 0 = R) : Calls Try.prog 82 #[.string s] w fun e w' => e = .returned (.bool R) ∧ w = w' := by
  have H0 : Hid (vfrom s 0 = R) := hR
  clear hR
  go_enter Try.func82, Try.ntmps82
  go_wp2
  refine wp_scope_three (UJ s R w) (Um s) rfl rfl rfl ?_ ?_ ?_ ?_ ?_
  · intro l a w' h
    match l, h with
    | 0, _ => decide
    | 1, _ => decide
    | 2, _ => decide
    | n + 3, h => exact h.elim
  · rintro a' w' ⟨rfl, k, x3, lo, hi, ⟨u7, u8, u9, u10, u11, u12, u13, u14, u15, u16, u17, u18, u19, u20, u21, u22, u23, u24, u25, u26, u27, u28, u29, u30, u31, u32, u33, u34, u35, u36, u37, u38, u39, u40, u41, u42, u43, u44, u45, u46, u47, u48, u49, u50, u51, u52, u53, u54, u55, u56, u57, u58, u59, u60, rfl⟩, hk, hv⟩
    have HV : Hid (V1 s k lo hi = R) := hv
    have HC : Hid (∀ w, Calls Try.prog 93 #[.string s, .int .i64 k, .int .u8 lo, .int .u8 hi] w fun e w' => e = .returned (.bool (stdB s k lo hi)) ∧ w = w') := g_stands s k lo hi
    have HI := stdB_iff s k lo hi
    clear hv H0
    unfold V1 at HV
    generalize stdB s k lo hi = b at HC HV HI
    cases b with
    | false =>
      have HS : Hid (false = R) := HV.out
      clear HV HI
      go_wp2_with (go_at_call 93; refine (HC.out _).mono ?_; rintro e w1 ⟨rfl, rfl⟩)
      simp only [jumps]
      go_ret
      exact ⟨ret_bool HS.out, rfl⟩
    | true =>
      have HS : Hid (vfrom s (k + 1) = R) := HV.out
      have hlt : k < s.size := (HI.1 rfl).1
      clear HV HI
      go_wp2_with (go_at_call 93; refine (HC.out _).mono ?_; rintro e w1 ⟨rfl, rfl⟩)
      go_step3
      exact ⟨⟨rfl, k + 1, _, _, _, ⟨_, _, _, _, _, _, _, _, _, _, _, _, _, _, _, _, _, _, _, _, _, _, _, _, _, _, _, _, _, _, _, _, _, _, _, _, _, _, _, _, _, _, _, _, _, _, _, _, _, _, _, _, _, _, rfl⟩, by omega, HS.out⟩, by simp [Um, intOf]; omega⟩
  · rintro on1 a' w' ⟨rfl, k, x3, lo, hi, ⟨u7, u8, u9, u10, u11, u12, u13, u14, u15, u16, u17, u18, u19, u20, u21, u22, u23, u24, u25, u26, u27, u28, u29, u30, u31, u32, u33, u34, u35, u36, u37, u38, u39, u40, u41, u42, u43, u44, u45, u46, u47, u48, u49, u50, u51, u52, u53, u54, u55, u56, u57, u58, u59, u60, rfl⟩, hk, hv⟩
    have HV : Hid (V2 s k lo hi = R) := hv
    have HC : Hid (∀ w, Calls Try.prog 93 #[.string s, .int .i64 k, .int .u8 lo, .int .u8 hi] w fun e w' => e = .returned (.bool (stdB s k lo hi)) ∧ w = w') := g_stands s k lo hi
    have HI := stdB_iff s k lo hi
    clear hv H0
    unfold V2 at HV
    generalize stdB s k lo hi = b at HC HV HI
    cases b with
    | false =>
      have HS : Hid (false = R) := HV.out
      clear HV HI
      go_wp2_with (go_at_call 93; refine (HC.out _).mono ?_; rintro e w1 ⟨rfl, rfl⟩)
      simp only [jumps]
      go_ret
      exact ⟨ret_bool HS.out, rfl⟩
    | true =>
      have HS : Hid (V1 s (k + 1) 128 191 = R) := HV.out
      have hlt : k < s.size := (HI.1 rfl).1
      clear HV HI
      go_wp2_with (go_at_call 93; refine (HC.out _).mono ?_; rintro e w1 ⟨rfl, rfl⟩)
      go_step3
      refine ‹∀ (a : Act) (w : World), Code.wp Try.prog _ _ a w → _› _ _ (on1 _ _ _ ⟨rfl, k + 1, _, _, _, ⟨_, _, _, _, _, _, _, _, _, _, _, _, _, _, _, _, _, _, _, _, _, _, _, _, _, _, _, _, _, _, _, _, _, _, _, _, _, _, _, _, _, _, _, _, _, _, _, _, _, _, _, _, _, _, rfl⟩, by omega, HS.out⟩ ?_)
      simp [Um, intOf]
      omega
  · rintro on2 a' w' ⟨rfl, k, x3, x4, x5, ⟨u7, u8, u9, u10, u11, u12, u13, u14, u15, u16, u17, u18, u19, u20, u21, u22, u23, u24, u25, u26, u27, u28, u29, u30, u31, u32, u33, u34, u35, u36, u37, u38, u39, u40, u41, u42, u43, u44, u45, u46, u47, u48, u49, u50, u51, u52, u53, u54, u55, u56, u57, u58, u59, u60, rfl⟩, hk, hv⟩
    have HV : Hid (vfrom s k = R) := hv
    clear hv H0
    by_cases hlt : k < s.size
    · have q0 : ((k : Int) == (s.size : Int)) = false := by simp; omega
      have hidx := idx9 s k hlt
      have hb := byteAt_bd s k
      have HC : Hid (∀ w, Calls Try.prog 92 #[.int .u8 (byteAt s k)] w fun e w' => e = .returned (.tuple #[.int .u8 (lo2 (byteAt s k)), .int .u8 (hi2 (byteAt s k))]) ∧ w = w') := g_second (byteAt s k)
      have HN1 : Hid (byteAt s k < 128 → vfrom s (k + 1) = R) := fun h => (vstep1 s k hlt h).symm.trans HV.out
      have HN0 : Hid (128 ≤ byteAt s k → byteAt s k < 194 ∨ 244 < byteAt s k → false = R) := fun h h' => (vstep0 s k hlt h h').symm.trans HV.out
      have HN2 : Hid (194 ≤ byteAt s k ∧ byteAt s k < 224 → V1 s (k + 1) (lo2 (byteAt s k)) (hi2 (byteAt s k)) = R) := fun h => by
        rw [(lo2_eq (byteAt s k)).2.2 (by omega) (by omega), (hi2_eq (byteAt s k)).2.2 (by omega) (by omega)]
        exact (vstep2 s k hlt h).symm.trans HV.out
      have HN3 : Hid (224 ≤ byteAt s k ∧ byteAt s k < 240 → V2 s (k + 1) (lo2 (byteAt s k)) (hi2 (byteAt s k)) = R) := fun h => (vstep3 s k hlt h).symm.trans HV.out
      have HN4 : Hid (240 ≤ byteAt s k ∧ byteAt s k ≤ 244 → V3 s (k + 1) (lo2 (byteAt s k)) (hi2 (byteAt s k)) = R) := fun h => (vstep4 s k hlt h).symm.trans HV.out
      clear HV
      generalize lo2 (byteAt s k) = lo at HC HN2 HN3 HN4
      generalize hi2 (byteAt s k) = hi at HC HN2 HN3 HN4
      generalize byteAt s k = c at hidx hb HC HN0 HN1 HN2 HN3 HN4
      by_cases h1 : c < 128
      · have q1 : decide (c < 128) = true := by simpa using h1
        have HS : Hid (vfrom s (k + 1) = R) := HN1.out h1
        clear HN0 HN1 HN2 HN3 HN4 h1
        go_wp2_with (go_at_call 92; refine (HC.out _).mono ?_; rintro e w1 ⟨rfl, rfl⟩)
        go_step3
        exact ⟨⟨rfl, k + 1, _, _, _, ⟨_, _, _, _, _, _, _, _, _, _, _, _, _, _, _, _, _, _, _, _, _, _, _, _, _, _, _, _, _, _, _, _, _, _, _, _, _, _, _, _, _, _, _, _, _, _, _, _, _, _, _, _, _, _, rfl⟩, by omega, HS.out⟩, by simp [Um, intOf]; omega⟩
      · have q1 : decide (c < 128) = false := by simpa using h1
        by_cases h2 : c < 194
        · have q2 : decide (c < 194) = true := by simpa using h2
          have HS : Hid (false = R) := HN0.out (by omega) (.inl h2)
          clear HN0 HN1 HN2 HN3 HN4 h1 h2
          go_wp2_with (go_at_call 92; refine (HC.out _).mono ?_; rintro e w1 ⟨rfl, rfl⟩)
          simp only [jumps]
          go_ret
          exact ⟨ret_bool HS.out, rfl⟩
        · have q2 : decide (c < 194) = false := by simpa using h2
          by_cases h3 : 244 < c
          · have q3 : decide (244 < c) = true := by simpa using h3
            have HS : Hid (false = R) := HN0.out (by omega) (.inr h3)
            clear HN0 HN1 HN2 HN3 HN4 h1 h2 h3
            go_wp2_with (go_at_call 92; refine (HC.out _).mono ?_; rintro e w1 ⟨rfl, rfl⟩)
            simp only [jumps]
            go_ret
            exact ⟨ret_bool HS.out, rfl⟩
          · have q3 : decide (244 < c) = false := by simpa using h3
            by_cases h4 : c < 224
            · have q4 : decide (c < 224) = true := by simpa using h4
              have HS : Hid (V1 s (k + 1) lo hi = R) := HN2.out (by omega)
              clear HN0 HN1 HN2 HN3 HN4 h1 h2 h3 h4
              go_wp2_with (go_at_call 92; refine (HC.out _).mono ?_; rintro e w1 ⟨rfl, rfl⟩)
              go_step3
              exact ⟨⟨rfl, k + 1, _, _, _, ⟨_, _, _, _, _, _, _, _, _, _, _, _, _, _, _, _, _, _, _, _, _, _, _, _, _, _, _, _, _, _, _, _, _, _, _, _, _, _, _, _, _, _, _, _, _, _, _, _, _, _, _, _, _, _, rfl⟩, by omega, HS.out⟩, by simp [Um, intOf]; omega⟩
            · have q4 : decide (c < 224) = false := by simpa using h4
              by_cases h5 : c < 240
              · have q5 : decide (c < 240) = true := by simpa using h5
                have HS : Hid (V2 s (k + 1) lo hi = R) := HN3.out (by omega)
                clear HN0 HN1 HN2 HN3 HN4 h1 h2 h3 h4 h5
                go_wp2_with (go_at_call 92; refine (HC.out _).mono ?_; rintro e w1 ⟨rfl, rfl⟩)
                go_step3
                exact ⟨⟨rfl, k + 1, _, _, _, ⟨_, _, _, _, _, _, _, _, _, _, _, _, _, _, _, _, _, _, _, _, _, _, _, _, _, _, _, _, _, _, _, _, _, _, _, _, _, _, _, _, _, _, _, _, _, _, _, _, _, _, _, _, _, _, rfl⟩, by omega, HS.out⟩, by simp [Um, intOf]; omega⟩
              · have q5 : decide (c < 240) = false := by simpa using h5
                have HS : Hid (V3 s (k + 1) lo hi = R) := HN4.out (by omega)
                have HC2 : Hid (∀ w, Calls Try.prog 93 #[.string s, .int .i64 ((k : Int) + 1), .int .u8 lo, .int .u8 hi] w fun e w' => e = .returned (.bool (stdB s (k + 1) lo hi)) ∧ w = w') := g_stands s (k + 1) lo hi
                have HI := stdB_iff s (k + 1) lo hi
                clear HN0 HN1 HN2 HN3 HN4 h1 h2 h3 h4 h5
                unfold V3 at HS
                generalize stdB s (k + 1) lo hi = b at HC2 HS HI
                cases b with
                | false =>
                  have HF : Hid (false = R) := HS.out
                  clear HS HI
                  go_wp2_with (first | (go_at_call 92; refine (HC.out _).mono ?_; rintro e w1 ⟨rfl, rfl⟩) | (go_at_call 93; refine (HC2.out _).mono ?_; rintro e w1 ⟨rfl, rfl⟩))
                  simp only [jumps]
                  go_ret
                  exact ⟨ret_bool HF.out, rfl⟩
                | true =>
                  have HF : Hid (V2 s (k + 1 + 1) 128 191 = R) := HS.out
                  have hlt2 : k + 1 < s.size := (HI.1 rfl).1
                  clear HS HI
                  go_wp2_with (first | (go_at_call 92; refine (HC.out _).mono ?_; rintro e w1 ⟨rfl, rfl⟩) | (go_at_call 93; refine (HC2.out _).mono ?_; rintro e w1 ⟨rfl, rfl⟩))
                  go_step3
                  refine ‹∀ (a : Act) (w : World), Code.wp Try.prog _ _ a w → _› _ _ (on2 _ _ _ ⟨rfl, k + 1 + 1, _, _, _, ⟨_, _, _, _, _, _, _, _, _, _, _, _, _, _, _, _, _, _, _, _, _, _, _, _, _, _, _, _, _, _, _, _, _, _, _, _, _, _, _, _, _, _, _, _, _, _, _, _, _, _, _, _, _, _, rfl⟩, by omega, HF.out⟩ ?_)
                  simp [Um, intOf]
                  omega
    · have hke : k = s.size := by omega
      have HS : Hid (true = R) := by
        have h := HV.out
        rw [vfrom, dif_neg (by omega)] at h
        rw [← h]
        exact (decide_eq_true (by omega)).symm
      subst hke
      go_wp2
      simp only [jumps]
      go_ret
      exact ⟨ret_bool HS.out, rfl⟩
  · intro on0
    go_wp2
    go_step3
    refine ‹∀ (a : Act) (w : World), Code.wp Try.prog _ _ a w → _› _ _ (on0 _ _ ⟨rfl, 0, _, _, _, ⟨_, _, _, _, _, _, _, _, _, _, _, _, _, _, _, _, _, _, _, _, _, _, _, _, _, _, _, _, _, _, _, _, _, _, _, _, _, _, _, _, _, _, _, _, _, _, _, _, _, _, _, _, _, _, rfl⟩, by omega, H0.out⟩)

theorem g_value (s : ByteArray) (w : World) : Calls Try.prog 68 #[.string s] w fun e w' => e = .returned (.bool (validR s)) ∧ w = w' := by
  unfold validR
  by_cases h1 : 0 < s.size
  · rw [decide_eq_true h1]
    have q1 : decide ((1 : Int) ≤ (s.size : Int)) = true := by simp; omega
    by_cases h2 : s.size ≤ 256
    · rw [decide_eq_true h2]
      have q2 : decide ((s.size : Int) ≤ 256) = true := by simp; omega
      have HC : Hid (∀ w, Calls Try.prog 82 #[.string s] w fun e w' => e = .returned (.bool (vfrom s 0)) ∧ w = w') := fun w => g_utf s _ w (by omega) rfl
      generalize vfrom s 0 = R at HC ⊢
      go_enter Try.func68, Try.ntmps68
      go_wp2_with (go_at_call 82; refine (HC.out _).mono ?_; rintro e w1 ⟨rfl, rfl⟩)
      go_ret
      exact ⟨rfl, rfl⟩
    · rw [decide_eq_false h2]
      have q2 : decide ((s.size : Int) ≤ 256) = false := by simp; omega
      go_enter Try.func68, Try.ntmps68
      go_wp2
      go_ret
      exact ⟨rfl, rfl⟩
  · rw [decide_eq_false h1]
    have q1 : decide ((1 : Int) ≤ (s.size : Int)) = false := by simp; omega
    go_enter Try.func68, Try.ntmps68
    go_wp2
    go_ret
    exact ⟨rfl, rfl⟩
end Go.Proofs.Ytailaehpgmpaaaa
