/- The document's own Uint. -/
import Derived.Test.YtailaehpgmpaaaaCref
import Derived.Test.YtailaehpgmpaaaaCumath
namespace Go.Proofs.Ytailaehpgmpaaaa
open Go.RowKit

theorem ret3 {a a' b b' c c' : Int} {ka kb kc : IntKind} (h : a = a') (h1 : b = b') (h2 : c = c') : Ending.returned (.tuple #[.int ka a, .int kb b, .int kc c]) = .returned (.tuple #[.int ka a', .int kb b', .int kc c']) := by rw [h, h1, h2]

set_option maxHeartbeats 2000000 in
theorem ruint_in (a : Option Addr) (zs : List Int) (L cap : Nat) (p : Nat) (r1 r2 r3 : Int) (w : World) (hr : Rd w a zs) (hL : zs.length = L) (hz : (L : Int) ≤ 140737488355000) (hp : p ≤ L) (hR : ud zs p 10 0 0 = (r1, r2, r3)) :
    Calls Try.prog 54 #[.slice a L cap, .int .i64 p] w fun e w' => e = .returned (.tuple #[.int .u64 r1, .int .i64 r2, .int .i64 r3]) ∧ w = w' := by
  have d1 : decide ((p : Int) < 0) = false := by simp
  have d2 : decide ((L : Int) < (p : Int)) = false := by simp; omega
  have HR : Hid (Rd w a zs) := hr
  have HL : Hid (zs.length = L) := hL
  have H0 : Hid (URel zs p 0 0 r1 r2 r3) := hR
  clear hr hL hR
  go_enter Try.func54, Try.ntmps54
  go_wp2
  go_loop [4, 5, 6, 7, 8] (fun t4 t5 t6 t7 t8 => ∃ (i : Nat) (v : Int), i ≤ 9 ∧ 0 ≤ v ∧ v ≤ 9223372036854775807 ∧ v < 2 ^ (7 * i) ∧ URel zs p i v r1 r2 r3 ∧ t7 = .int .u64 v ∧ t8 = .int .i64 i ∧ t4 = .int .u64 0 ∧ t5 = .int .i64 0 ∧ t6 = .int .i64 0) (fun _ _ _ _ t8 => 10 - (intOf t8).toNat)
  case atStart => exact ⟨0, 0, by omega, by omega, by omega, by decide, H0.out, rfl, rfl, rfl, rfl, rfl⟩
  case round =>
    obtain ⟨i, v, hi, hv0, hv1, hv2, hu, rfl, rfl, rfl, rfl, rfl⟩ := hrel
    have HU : Hid (URel zs p i v r1 r2 r3) := hu
    have HV : Hid (v < 2 ^ (7 * i)) := hv2
    clear hu hv2 H0
    by_cases hlt : p + i < L
    · have hl := HL.out
      obtain ⟨b, off, rfl, hc⟩ := HR.out.at (by omega)
      have hcell := hc (p + i) (by omega)
      have hby := HR.out.byte (p + i)
      have HlZ : Hid (p + i < zs.length) := by show _ < _; omega
      have hd : decide ((L : Int) ≤ (p : Int) + (i : Int)) = false := by simp; omega
      have HF : Hid (zs.getD (p + i) 0 = zs.getD (p + i) 0) := rfl
      obtain ⟨c, ec⟩ : ∃ c, c = zs.getD (p + i) 0 := ⟨_, rfl⟩
      rw [← ec] at hcell hby
      have HC : Hid (c = zs.getD (p + i) 0) := ec
      clear hc ec hl HF
      by_cases hform : i = 9 ∧ 1 < c ∨ 0 < i ∧ c = 0
      · have HRes : Hid (r1 = 0 ∧ r2 = 0 ∧ r3 = 21) := HU.out.form hi HlZ.out (by rw [← HC.out]; exact hform)
        rcases hform with ⟨h9, h1⟩ | ⟨h0, h1⟩
        · have e9 : ((i : Int) == 9) = true := by simp; omega
          have e1 : decide (1 < c) = true := by simpa using h1
          clear h9 h1
          clear HU HV HlZ HC
          go_wp2
          go_ret3
          exact ⟨ret3 HRes.out.1.symm HRes.out.2.1.symm HRes.out.2.2.symm, rfl⟩
        · subst h1
          clear HU HV HlZ HC
          by_cases h9 : i = 9
          · have e9 : ((i : Int) == 9) = true := by simp; omega
            have h0' : 0 < i := h0
            clear h9 h0
            go_wp2
            go_ret3
            exact ⟨ret3 HRes.out.1.symm HRes.out.2.1.symm HRes.out.2.2.symm, rfl⟩
          · have e9 : ((i : Int) == 9) = false := by simp; omega
            have h0' : 0 < i := h0
            clear h9 h0
            go_wp2
            go_ret3
            exact ⟨ret3 HRes.out.1.symm HRes.out.2.1.symm HRes.out.2.2.symm, rfl⟩
      · have HO7 : Hid (_ ∧ _ ∧ _) := or7 v c i hv0 HV.out hi hby (fun h => by omega)
        have HNF : Hid (¬ (i = 9 ∧ 1 < zs.getD (p + i) 0 ∨ 0 < i ∧ zs.getD (p + i) 0 = 0)) := by rw [← HC.out]; exact hform
        by_cases h9 : i = 9
        · obtain rfl : c = 1 := by omega
          have e9 : ((i : Int) == 9) = true := by simp; omega
          have h0' : 0 < i := by omega
          have HRes : Hid (_ ∧ _ ∧ _) := HU.out.done hi HlZ.out HNF.out (by rw [← HC.out]; omega)
          clear HU HV HNF hform h9
          go_wp2
          go_ret3
          refine ⟨ret3 ?_ ?_ ?_, rfl⟩
          · rw [← HRes.out.1, ← HC.out]; exact HO7.out.1
          · exact HRes.out.2.1
          · exact HRes.out.2.2
        · have e9 : ((i : Int) == 9) = false := by simp; omega
          by_cases h128 : c < 128
          · have e1 : decide (c < 128) = true := by simpa using h128
            have HRes : Hid (_ ∧ _ ∧ _) := HU.out.done hi HlZ.out HNF.out (by rw [← HC.out]; exact h128)
            by_cases h0 : 0 < i
            · have h0' : 0 < i := h0
              have ec0 : (c == 0) = false := by simp; omega
              clear HU HV HNF hform h9 h0 h128
              go_wp2
              go_ret3
              refine ⟨ret3 ?_ ?_ ?_, rfl⟩
              · rw [← HRes.out.1, ← HC.out]; exact HO7.out.1
              · exact HRes.out.2.1
              · exact HRes.out.2.2
            · have h0' : ¬ 0 < i := h0
              clear HU HV HNF hform h9 h0 h128
              go_wp2
              go_ret3
              refine ⟨ret3 ?_ ?_ ?_, rfl⟩
              · rw [← HRes.out.1, ← HC.out]; exact HO7.out.1
              · exact HRes.out.2.1
              · exact HRes.out.2.2
          · have e1 : decide (c < 128) = false := by simpa using h128
            have HS : Hid (URel zs p (i + 1) (v + c % 128 * 2 ^ (7 * i)) r1 r2 r3) := by
              have h := HU.out.step hi HlZ.out HNF.out (by rw [← HC.out]; exact h128)
              rw [← HC.out] at h
              exact h
            have h9' : i < 9 := by omega
            have HNN : Hid (0 ≤ v + c % 128 * 2 ^ (7 * i) ∧ v + c % 128 * 2 ^ (7 * i) ≤ 9223372036854775807) := by
              have hp : (0 : Int) < 2 ^ (7 * i) := Int.pow_pos (by decide)
              have := Int.mul_nonneg (show 0 ≤ c % 128 by omega) (Int.le_of_lt hp)
              have h1 := HO7.out.2.2 h9'
              have h2 : (2 : Int) ^ (7 * (i + 1)) ≤ 2 ^ 63 := by exact_mod_cast Nat.pow_le_pow_right (by decide) (by omega : 7 * (i + 1) ≤ 63)
              constructor <;> omega
            by_cases h0 : 0 < i
            · have h0' : 0 < i := h0
              have ec0 : (c == 0) = false := by simp; omega
              clear HU HV HNF hform h9 h0 h128
              go_wp2
              go_round
              case rel => exact ⟨i + 1, v + c % 128 * 2 ^ (7 * i), by omega, HNN.out.1, HNN.out.2, HO7.out.2.2 h9', HS.out, by rw [HO7.out.1], by go_num, rfl, rfl, rfl⟩
              case measure => simp [intOf]; omega
            · have h0' : ¬ 0 < i := h0
              clear HU HV HNF hform h9 h0 h128
              go_wp2
              go_round
              case rel => exact ⟨i + 1, v + c % 128 * 2 ^ (7 * i), by omega, HNN.out.1, HNN.out.2, HO7.out.2.2 h9', HS.out, by rw [HO7.out.1], by go_num, rfl, rfl, rfl⟩
              case measure => simp [intOf]; omega
    · have hd : decide ((L : Int) ≤ (p : Int) + (i : Int)) = true := by simp; omega
      have HRes : Hid (r1 = 0 ∧ r2 = 0 ∧ r3 = 20) := HU.out.over hi (by have := HL.out; omega)
      go_wp2
      go_ret3
      exact ⟨ret3 HRes.out.1.symm HRes.out.2.1.symm HRes.out.2.2.symm, rfl⟩
end Go.Proofs.Ytailaehpgmpaaaa
