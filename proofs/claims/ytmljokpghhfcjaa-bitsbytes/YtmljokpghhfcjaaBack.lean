/- Reading back what was appended. -/
import Derived.Test.YtmljokpghhfcjaaUse
namespace Go.Proofs.Ytmljokpghhfcjaa
open Go.RowKit

/-- Bits that are those of a number read as its lowest ones. -/
theorem rdv_part (ys : List Int) (p k : Nat) (v : Int) (h : ∀ t, t < k → bitOf ys (p + t) = v / 2 ^ (k - 1 - t) % 2) : ∀ j, j ≤ k → rdv ys p j = v / 2 ^ (k - j) % 2 ^ j := by
  intro j
  induction j with
  | zero => intro _; simp [rdv, Int.emod_one]
  | succ j ih =>
    intro hj
    rw [rdv, ih (by omega), h j (by omega)]
    have e1 : k - j = (k - (j + 1)) + 1 := by omega
    have e2 : k - 1 - j = k - (j + 1) := by omega
    rw [e1, e2, Int.pow_succ, ← Int.ediv_ediv_of_nonneg (Int.le_of_lt (Int.pow_pos (by decide)))]
    generalize v / 2 ^ (k - (j + 1)) = V
    rw [Int.pow_succ]
    have hp : (0 : Int) < 2 ^ j := Int.pow_pos (by decide)
    generalize (2 : Int) ^ j = P at *
    have h1 := Int.mul_ediv_add_emod (V / 2) P
    have h2 := Int.mul_ediv_add_emod V 2
    have h3 := Int.emod_nonneg (V / 2) (show P ≠ 0 by omega)
    have h4 := Int.emod_lt_of_pos (V / 2) hp
    have h5 : V = (V / 2 / P) * (P * 2) + (V / 2 % P * 2 + V % 2) := by
      have : P * (V / 2 / P) * 2 = (V / 2 / P) * (P * 2) := by rw [Int.mul_comm P, Int.mul_assoc]
      omega
    have h6 : V % (P * 2) = V / 2 % P * 2 + V % 2 := by
      conv => lhs; rw [h5]
      rw [Int.add_comm, Int.add_mul_emod_self_right]
      exact Int.emod_eq_of_lt (by omega) (by omega)
    rw [h6]
theorem rdv_bits (ys : List Int) (p k : Nat) (v : Int) (h : ∀ t, t < k → bitOf ys (p + t) = v / 2 ^ (k - 1 - t) % 2) : rdv ys p k = v % 2 ^ k := by
  have := rdv_part ys p k v h k (Nat.le_refl _)
  simpa using this

theorem mask_low (v : Int) (a : Nat) (hv : 0 ≤ v ∧ v ≤ 18446744073709551615) (ha : a < 64) : bits .and .u64 v (2 ^ a - 1) = v % 2 ^ a := by
  obtain ⟨V, rfl⟩ := Int.eq_ofNat_of_zero_le hv.1
  have hp : 0 < 2 ^ a := Nat.two_pow_pos a
  have hp2 : (2 : Nat) ^ a ≤ 2 ^ 63 := Nat.pow_le_pow_right (by decide) (by omega)
  have e : ((2 : Int) ^ a - 1) = ((2 ^ a - 1 : Nat) : Int) := by
    rw [Int.natCast_sub hp, Int.natCast_pow]; rfl
  rw [e, u64_and_nat V _ (by omega) (by omega), Nat.and_two_pow_sub_one_eq_mod, Int.natCast_emod, Int.natCast_pow]
  rfl

theorem mask_wrap (a : Nat) (ha : a < 64) : IntKind.u64.wrap (IntKind.u64.wrap (2 ^ a) - 1) = 2 ^ a - 1 := by
  have hp : (0 : Int) < 2 ^ a := Int.pow_pos (by decide)
  have hp2 : (2 : Int) ^ a ≤ 2 ^ 63 := by exact_mod_cast Nat.pow_le_pow_right (by decide) (by omega : a ≤ 63)
  rw [IntKind.wrap_u64, IntKind.wrap_u64]
  generalize (2 : Int) ^ a = P at *
  omega
theorem mask_127 (z : Int) (h : 0 ≤ z ∧ z ≤ 255) : bits .and .u64 z 127 = z % 2 ^ 7 := by
  have := mask_low z 7 (by omega) (by omega)
  simpa using this

/-- Bits of what was appended: behind one, behind two. -/
theorem app_at (zs : List Int) (n : Nat) (v : Int) (k t : Nat) (ht : t < k) : bitOf (app zs n v k) (n + t) = v / 2 ^ (k - 1 - t) % 2 := by
  rw [app_bit, appBit, if_neg (by omega), if_pos (by omega)]
  have e : n + t - n = t := by omega
  rw [e]
theorem app_old (zs : List Int) (n : Nat) (v : Int) (k i : Nat) (hi : i < n) : bitOf (app zs n v k) i = bitOf zs i := by
  rw [app_bit, appBit, if_pos hi]
theorem back_first (zs : List Int) (n : Nat) (v : Int) (A : Nat) (x : Int) (C : Nat) : rdv (app (app zs n v A) (n + A) x C) n A = v % 2 ^ A :=
  rdv_bits _ _ _ _ fun t ht => by rw [app_old _ _ _ _ _ (by omega), app_at _ _ _ _ _ ht]
theorem back_second (zs : List Int) (m : Nat) (x : Int) (C : Nat) : rdv (app zs m x C) m C = x % 2 ^ C :=
  rdv_bits _ _ _ _ fun _ ht => app_at _ _ _ _ _ ht

def Seven (hs zb : List Int) (j : Nat) : Prop := ∀ i, i < j → ∀ t, t < 7 → bitOf zb (7 * i + t) = hs.getD i 0 / 2 ^ (6 - t) % 2
theorem seven_step {hs zb : List Int} {j n : Nat} (h : Seven hs zb j) (hn : n = 7 * j) : Seven hs (app zb n (hs.getD j 0) 7) (j + 1) := by
  intro i hi t ht
  by_cases hij : i < j
  · rw [app_old _ _ _ _ _ (by omega)]; exact h i hij t ht
  · have e : i = j := by omega
    subst e
    rw [← hn, app_at _ _ _ _ _ ht]
theorem seven_old {hs zb : List Int} {j n : Nat} (h : Seven hs zb j) (hn : n = 7 * j) (m : Nat) (hm : n ≤ m) (v : Int) (k : Nat) : Seven hs (app zb m v k) j := by
  intro i hi t ht
  rw [app_old _ _ _ _ _ (by omega)]; exact h i hi t ht
theorem seven_read {hs zb : List Int} {j : Nat} (h : Seven hs zb j) (i : Nat) (hi : i < j) : rdv zb (7 * i) 7 = hs.getD i 0 % 2 ^ 7 :=
  rdv_bits _ _ _ _ fun t ht => h i hi t ht

/-- Read, where it answers: all numbers by letters. -/
theorem read_go (a : Option Addr) (zs : List Int) (L cap : Nat) (n p k : Nat) (nI pI kI R : Int) (w : World) (hr : Rd w a zs) (hL : zs.length = L) (hz : L ≤ 140737488351232) (hn : nI = (n : Int)) (hp : pI = (p : Int)) (hk : kI = (k : Int)) (hW : wholeB zs n = true) (hk64 : k ≤ 64) (hpk : p + k ≤ n) (hR : rdv zs p k = R) :
    Calls Try.prog 19 #[.slice a L cap, .int .i64 nI, .int .i64 pI, .int .i64 kI] w fun e w' => e = .returned (.tuple #[.int .u64 R, .bool true]) ∧ w = w' := by
  subst hL hn hp hk hR
  have := wholeB_n hW
  exact read_yes a zs cap n p k w hr (by omega) (by omega) (by simp [readB, hW, widthB]; omega)
set_option maxHeartbeats 400000 in
theorem low_any (v : Int) (a : Nat) (w : World) (hv : 0 ≤ v ∧ v ≤ 18446744073709551615) (ha : a ≤ 64) :
    Calls Try.prog 21 #[.int .u64 v, .int .i64 a] w fun e w' => e = .returned (.int .u64 (v % 2 ^ a)) ∧ w = w' := by
  by_cases h : a = 64
  · subst h
    have H : Hid (v = v % 2 ^ 64) := by show _ = _; omega
    go_enter Try.func21, Try.ntmps21
    go_wp2
    go_ret
    exact ⟨ret_int H.out, rfl⟩
  · have hlt : a < 64 := by omega
    have H : Hid (bits .and .u64 v (IntKind.u64.wrap (IntKind.u64.wrap (2 ^ a) - 1)) = v % 2 ^ a) := by
      show _ = _
      rw [mask_wrap a hlt]; exact mask_low v a hv hlt
    have hd : decide ((64 : Int) ≤ (a : Int)) = false := by simp; omega
    clear h ha
    go_enter Try.func21, Try.ntmps21
    go_wp2
    go_ret
    exact ⟨ret_int H.out, rfl⟩
theorem low_go (v : Int) (a : Nat) (aI P : Int) (w : World) (hv : 0 ≤ v ∧ v ≤ 18446744073709551615) (haI : aI = (a : Int)) (ha : a ≤ 64) (hP : v % 2 ^ a = P) :
    Calls Try.prog 21 #[.int .u64 v, .int .i64 aI] w fun e w' => e = .returned (.int .u64 P) ∧ w = w' := by
  subst haI hP
  exact low_any v a w hv ha

end Go.Proofs.Ytmljokpghhfcjaa
