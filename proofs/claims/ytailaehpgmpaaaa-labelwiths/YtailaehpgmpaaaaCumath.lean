/- Plain facts on reading numbers. -/
import Derived.Test.YtailaehpgmpaaaaCmath
namespace Go.Proofs.Ytailaehpgmpaaaa

theorem or7 (v c : Int) (i : Nat) (hv0 : 0 ≤ v) (hv : v < 2 ^ (7 * i)) (hi : i ≤ 9) (hc : 0 ≤ c ∧ c ≤ 255) (h9 : i = 9 → c ≤ 1) :
    bits .or .u64 v (IntKind.u64.wrap (IntKind.u64.wrap (bits .and .u8 c 127) * 2 ^ (7 * i))) = v + c % 128 * 2 ^ (7 * i) ∧ v + c % 128 * 2 ^ (7 * i) ≤ 18446744073709551615 ∧ (i < 9 → v + c % 128 * 2 ^ (7 * i) < 2 ^ (7 * (i + 1))) := by
  have e1 : bits .and .u8 c 127 = c % 128 := by
    rw [u8_and c 127 hc.1 (by omega) (by decide) (by decide)]
    have : (127 : Int).toNat = 127 := rfl
    rw [this, nat_mask7]
    omega
  rw [e1, IntKind.wrap_u64, IntKind.wrap_u64, show c % 128 % 18446744073709551616 = c % 128 by omega]
  have hp : (0 : Int) < 2 ^ (7 * i) := Int.pow_pos (by decide)
  have hs : (2 : Int) ^ (7 * (i + 1)) = 2 ^ (7 * i) * 128 := by
    rw [show 7 * (i + 1) = 7 * i + 7 by omega, Int.pow_add]; rfl
  have hle : c % 128 * 2 ^ (7 * i) + 2 ^ (7 * i) ≤ 18446744073709551616 := by
    by_cases h : i = 9
    · have := h9 h
      subst h
      have : c % 128 ≤ 1 := by omega
      have e : (2 : Int) ^ (7 * 9) = 9223372036854775808 := by simp
      rw [e]; omega
    · have h1 : (2 : Int) ^ (7 * i) ≤ 2 ^ 56 := by exact_mod_cast Nat.pow_le_pow_right (by decide) (by omega : 7 * i ≤ 56)
      have h2 : c % 128 * 2 ^ (7 * i) ≤ 127 * 2 ^ (7 * i) := Int.mul_le_mul_of_nonneg_right (by omega) (Int.le_of_lt hp)
      have e : (2 : Int) ^ 56 = 72057594037927936 := by simp
      omega
  have hm0 : 0 ≤ c % 128 * 2 ^ (7 * i) := Int.mul_nonneg (by omega) (Int.le_of_lt hp)
  refine ⟨?_, by omega, fun h => ?_⟩
  · rw [Int.emod_eq_of_lt hm0 (by omega), u64_or v _ hv0 (by omega) hm0 (by omega), Nat.or_comm]
    obtain ⟨V, rfl⟩ := Int.eq_ofNat_of_zero_le hv0
    obtain ⟨C, hC⟩ := Int.eq_ofNat_of_zero_le (show 0 ≤ c % 128 by omega)
    rw [hC]
    have eP : (C : Int) * 2 ^ (7 * i) = ((C * 2 ^ (7 * i) : Nat) : Int) := by rw [Int.natCast_mul, Int.natCast_pow]; rfl
    have hV : V < 2 ^ (7 * i) := by
      have : ((2 ^ (7 * i) : Nat) : Int) = (2 : Int) ^ (7 * i) := by rw [Int.natCast_pow]; rfl
      rw [← this] at hv
      exact_mod_cast hv
    rw [eP, Int.toNat_natCast, Int.toNat_natCast, nat_join (7 * i) _ _ (Nat.mul_mod_left _ _) hV]
    omega
  · rw [hs]
    have h2 : c % 128 * 2 ^ (7 * i) ≤ 127 * 2 ^ (7 * i) := Int.mul_le_mul_of_nonneg_right (by omega) (Int.le_of_lt hp)
    omega

def URel (zs : List Int) (p i : Nat) (v r1 r2 r3 : Int) : Prop := ud zs p (10 - i) i v = (r1, r2, r3)
section
variable {zs : List Int} {p i : Nat} {v r1 r2 r3 : Int}
theorem URel.over (h : URel zs p i v r1 r2 r3) (hi : i ≤ 9) (hl : zs.length ≤ p + i) : r1 = 0 ∧ r2 = 0 ∧ r3 = 20 := by
  unfold URel at h
  rw [show 10 - i = (9 - i) + 1 by omega, ud, if_pos hl] at h
  simp only [Prod.mk.injEq] at h
  omega
theorem URel.form (h : URel zs p i v r1 r2 r3) (hi : i ≤ 9) (hl : p + i < zs.length) (hf : i = 9 ∧ 1 < zs.getD (p + i) 0 ∨ 0 < i ∧ zs.getD (p + i) 0 = 0) : r1 = 0 ∧ r2 = 0 ∧ r3 = 21 := by
  unfold URel at h
  rw [show 10 - i = (9 - i) + 1 by omega, ud, if_neg (by omega), if_pos hf] at h
  simp only [Prod.mk.injEq] at h
  omega
theorem URel.done (h : URel zs p i v r1 r2 r3) (hi : i ≤ 9) (hl : p + i < zs.length) (hf : ¬ (i = 9 ∧ 1 < zs.getD (p + i) 0 ∨ 0 < i ∧ zs.getD (p + i) 0 = 0)) (hc : zs.getD (p + i) 0 < 128) :
    v + zs.getD (p + i) 0 % 128 * 2 ^ (7 * i) = r1 ∧ (p : Int) + i + 1 = r2 ∧ 0 = r3 := by
  unfold URel at h
  rw [show 10 - i = (9 - i) + 1 by omega, ud, if_neg (by omega), if_neg hf, if_pos hc] at h
  simp only [Prod.mk.injEq] at h
  refine ⟨h.1, ?_, h.2.2⟩
  have := h.2.1
  omega
theorem URel.step (h : URel zs p i v r1 r2 r3) (hi : i ≤ 9) (hl : p + i < zs.length) (hf : ¬ (i = 9 ∧ 1 < zs.getD (p + i) 0 ∨ 0 < i ∧ zs.getD (p + i) 0 = 0)) (hc : ¬ zs.getD (p + i) 0 < 128) :
    URel zs p (i + 1) (v + zs.getD (p + i) 0 % 128 * 2 ^ (7 * i)) r1 r2 r3 := by
  unfold URel at h ⊢
  rw [show 10 - i = (9 - i) + 1 by omega, ud, if_neg (by omega), if_neg hf, if_neg hc] at h
  rw [show 10 - (i + 1) = 9 - i by omega]
  exact h
end
end Go.Proofs.Ytailaehpgmpaaaa
