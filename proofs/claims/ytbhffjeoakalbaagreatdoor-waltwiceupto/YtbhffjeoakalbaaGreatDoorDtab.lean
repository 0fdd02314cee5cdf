/- The program's Sum, by its table. -/
import Derived.Test.YtbhffjeoakalbaaGreatDoorDsum
namespace Go.Proofs.YtbhffjeoakalbaaGreatDoor
open Go.RowKit
set_option linter.unusedVariables false

theorem stepsN_lt (k : Nat) : ∀ c, c < 2 ^ 32 → stepsN k c < 2 ^ 32 := by
  induction k with
  | zero => intro c h; exact h
  | succ k ih => intro c h; exact ih _ (stepN_lt c h)
theorem crcB_tab (c z : Int) (Q : Nat) (hc : 0 ≤ c ∧ c ≤ 4294967295) (hz : 0 ≤ z ∧ z ≤ 255) (hq : bits .xor .u8 (c % 256) z = (Q : Int)) : bits .xor .u32 (c / 256) (crcN 8 (Q : Int)) = crcB c z := by
  obtain ⟨C, rfl⟩ := Int.eq_ofNat_of_zero_le hc.1
  obtain ⟨Z, rfl⟩ := Int.eq_ofNat_of_zero_le hz.1
  have e1 : ((C : Int) % 256) = ((C % 256 : Nat) : Int) := by omega
  have e2 : ((C : Int) / 256) = ((C / 256 : Nat) : Int) := by omega
  rw [e1, u8_xor _ _ (by omega) (by omega) (by omega) (by omega)] at hq
  have hQ : C % 256 ^^^ Z = Q := by
    have := hq
    simp only [Int.toNat_natCast] at this
    exact_mod_cast this
  have hQ8 : Q < 256 := by rw [← hQ]; exact Nat.xor_lt_two_pow (n := 8) (by omega) (by omega)
  rw [crcB_nat C Z (by omega) (by omega), steps8, crcN_nat 8 Q (by omega), e2]
  have m1 : (C ^^^ Z) % 256 = Q := by
    rw [← hQ]
    have := Nat.xor_mod_two_pow (a := C) (b := Z) (n := 8)
    rw [show (2 : Nat) ^ 8 = 256 by decide] at this
    rw [this, Nat.mod_eq_of_lt (by omega : Z < 256)]
  have m2 : (C ^^^ Z) / 256 = C / 256 := by
    have := Nat.xor_div_two_pow (a := C) (b := Z) (n := 8)
    rw [show (2 : Nat) ^ 8 = 256 by decide] at this
    rw [this, Nat.div_eq_of_lt (by omega : Z < 256), Nat.xor_zero]
  have hs := stepsN_lt 8 Q (by omega)
  rw [m1, m2, u32_xor _ _ (by omega) (by omega) (by omega) (by omega)]
  simp only [Int.toNat_natCast]
  rw [Nat.xor_comm]

theorem tabs_at {Q : Nat} (h : Q < 256) : tabs.toArray[Q]? = some (.int .u32 (crcN 8 (Q : Int))) := by
  simp [tabs, tab, h]

set_option maxRecDepth 100000 in
set_option maxHeartbeats 1000000 in
theorem g_table (a : Option Addr) (zs : List Int) (L cap : Nat) (R : Int) (w : World) (hr : Rd w a zs) (hL : zs.length = L) (hz : (L : Int) ≤ 140737488355328) (hR : sumR zs = R) :
    Calls Tryz.prog 102 #[.slice a L cap, .agg tabs.toArray] w fun e w' => e = .returned (.int .u32 R) ∧ w.grownBy w' none := by
  have HA : Hid (∀ Q, Q < 256 → (w.alloc (.cells tabs.toArray 125)).cell? ⟨w.heap.size, Q, none⟩ = some (.int .u32 (crcN 8 (Q : Int)))) := fun Q h => by
    rw [cell_of_row _ w.heap.size Q tabs.toArray 125 _ (heap_alloc_new w _)]
    exact tabs_at h
  have HR : Hid (Rd (w.alloc (.cells tabs.toArray 125)) a zs) := hr.grown (World.grownBy_alloc w _ none) (by simp)
  have HG : Hid (w.grownBy (w.alloc (.cells tabs.toArray 125)) none) := World.grownBy_alloc w _ none
  generalize tabs.toArray = T at HA HR HG ⊢
  have HL : Hid (zs.length = L) := hL
  have HS : Hid (sumR zs = R) := hR
  have u54 := under54
  clear hr hL hR
  go_enter Tryz.func102, Tryz.ntmps102
  go_wp2
  obtain ⟨w1, ew1⟩ : ∃ w1, w1 = w.alloc (.cells T 125) := ⟨_, rfl⟩
  rw [← ew1] at HA HR HG ⊢
  clear ew1
  go_loop [5, 10] (fun t5 t10 => ∃ (j : Nat) (c : Int), j ≤ L ∧ SumAt zs j c ∧ t5 = .int .u32 c ∧ t10 = .int .i64 j) (fun _ t10 => L - (intOf t10).toNat)
  case atStart => exact ⟨0, 4294967295, Nat.zero_le _, rfl, rfl, rfl⟩
  case round =>
    obtain ⟨j, c, hj, hs, rfl, rfl⟩ := hrel
    have HJ : Hid (SumAt zs j c) := hs
    have hcb := hs.bd HR.out.2
    clear hs
    by_cases hlt : j < L
    · have hl := HL.out
      obtain ⟨b, off, rfl, hc⟩ := HR.out.at (by omega)
      have hcell := hc j (by omega)
      have hby := HR.out.byte j
      have HN : Hid (SumAt zs (j + 1) (crcB c (zs.getD j 0))) := HJ.out.next (by omega)
      obtain ⟨z, ez⟩ : ∃ z, z = zs.getD j 0 := ⟨_, rfl⟩
      rw [← ez] at hcell hby HN
      obtain ⟨Q, hQ⟩ := Int.eq_ofNat_of_zero_le (bits_lo_u8 .xor (c % 256) z)
      have hQ8 : Q < 256 := by have := bits_hi_u8 .xor (c % 256) z; omega
      have hcell2 := HA.out Q hQ8
      have HX : Hid (bits .xor .u32 (c / 256) (crcN 8 (Q : Int)) = crcB c z) := crcB_tab c z Q hcb hby hQ
      obtain ⟨r, er⟩ : ∃ r, r = crcN 8 (Q : Int) := ⟨_, rfl⟩
      rw [← er] at hcell2 HX
      have hrb : 0 ≤ r ∧ r ≤ 4294967295 := by rw [er]; exact crcN_bd 8 _ (by omega)
      clear hc ez hl HJ er
      go_wp2
      go_round
      case rel => exact ⟨j + 1, _, by omega, by rw [HX.out]; exact HN.out, rfl, by go_num⟩
      case measure => simp [intOf]; omega
    · have HE : Hid (bits .xor .u32 c 4294967295 = R) := by
        have h1 := HJ.out
        unfold SumAt at h1
        rw [List.take_of_length_le (by have := HL.out; omega)] at h1
        show _ = _
        rw [h1]; exact HS.out
      go_wp2
      go_ret
      exact ⟨ret_int HE.out, HG.out⟩

theorem f_sum (a : Option Addr) (zs : List Int) (L cap : Nat) (R : Int) (w : World) (hr : Rd w a zs) (hL : zs.length = L) (hz : (L : Int) ≤ 140737488355000) (hR : sumR zs = R) :
    Calls Tryz.prog 62 #[.slice a L cap] w fun e w' => e = .returned (.int .u32 R) ∧ w.grownBy w' none := by
  by_cases h : L < 256
  · have HC := g_plain a zs L cap R w hr hL (by omega) hR
    have hd : decide ((L : Int) < 256) = true := by simp; omega
    clear hr hL hR
    go_enter Tryz.func62, Tryz.ntmps62
    go_wp2_with fail
    refine HC.mono ?_
    rintro e w1 ⟨rfl, rfl⟩
    go_wp2
    go_ret
    exact ⟨rfl, World.grownBy.refl _ _⟩
  · have HS : Hid (Calls Tryz.prog 103 #[] w fun e w' => e = .returned (.agg tabs.toArray) ∧ w.grownBy w' none) := g_sums w
    have HT : Hid (∀ w1, w.grownBy w1 none → Calls Tryz.prog 102 #[.slice a L cap, .agg tabs.toArray] w1 fun e w' => e = .returned (.int .u32 R) ∧ w1.grownBy w' none) := fun w1 hg => g_table a zs L cap R w1 (hr.grown hg (by simp)) hL (by omega) hR
    generalize tabs.toArray = T at HS HT
    have hd : decide ((L : Int) < 256) = false := by simp; omega
    clear hr hL hR
    go_enter Tryz.func62, Tryz.ntmps62
    go_wp2_with fail
    refine HS.out.mono ?_
    rintro e w1 ⟨rfl, hg1⟩
    have HG1 : Hid (w.grownBy w1 none) := hg1
    have HC := HT.out w1 hg1
    clear hg1
    go_wp2_with fail
    refine HC.mono ?_
    rintro e w2 ⟨rfl, hg2⟩
    have HG2 : Hid (w1.grownBy w2 none) := hg2
    clear hg2
    go_wp2
    go_ret
    exact ⟨rfl, HG1.out.trans HG2.out⟩
end Go.Proofs.YtbhffjeoakalbaaGreatDoor
