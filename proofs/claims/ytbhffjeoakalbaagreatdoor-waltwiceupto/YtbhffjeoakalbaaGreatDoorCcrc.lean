/- The sum: bit by bit, by a table, and that no two bytes give one. -/
import Derived.Test.YtbhffjeoakalbaaGreatDoorCmath
namespace Go.Proofs.YtbhffjeoakalbaaGreatDoor

def stepN (c : Nat) : Nat := if c % 2 = 1 then c / 2 ^^^ 3988292384 else c / 2
def stepsN : Nat → Nat → Nat
  | 0, c => c
  | k + 1, c => stepsN k (stepN c)
theorem half_xor (a b : Nat) : (a ^^^ b) / 2 = a / 2 ^^^ b / 2 := by
  have h := Nat.shiftRight_xor_distrib (a := a) (b := b) (i := 1)
  simpa [Nat.shiftRight_succ] using h
theorem odd_xor (a b : Nat) : (a ^^^ b) % 2 = (a % 2 + b % 2) % 2 := by
  have h := Nat.xor_mod_two_pow (a := a) (b := b) (n := 1)
  rw [Nat.pow_one] at h
  rw [h]
  rcases Nat.mod_two_eq_zero_or_one a with ha | ha <;> rcases Nat.mod_two_eq_zero_or_one b with hb | hb <;> rw [ha, hb] <;> rfl
theorem stepN_xor (a b : Nat) : stepN (a ^^^ b) = stepN a ^^^ stepN b := by
  unfold stepN
  rw [half_xor, odd_xor]
  rcases Nat.mod_two_eq_zero_or_one a with ha | ha <;> rcases Nat.mod_two_eq_zero_or_one b with hb | hb
  · simp [ha, hb]
  · simp [ha, hb, Nat.xor_assoc]
  · simp only [ha, hb]
    simp only [if_true, Nat.zero_ne_one, if_false]
    rw [Nat.xor_assoc, Nat.xor_assoc, Nat.xor_comm 3988292384]
  · simp only [ha, hb]
    simp only [Nat.reduceAdd, Nat.mod_self, Nat.zero_ne_one, if_false, if_true]
    rw [Nat.xor_assoc, Nat.xor_comm 3988292384, Nat.xor_assoc, Nat.xor_self, Nat.xor_zero]
theorem stepsN_xor (k a b : Nat) : stepsN k (a ^^^ b) = stepsN k a ^^^ stepsN k b := by
  induction k generalizing a b with
  | zero => rfl
  | succ k ih => simp only [stepsN]; rw [stepN_xor, ih]
theorem stepN_even (y : Nat) : stepN (2 * y) = y := by
  unfold stepN
  rw [if_neg (by omega)]; omega
theorem stepsN_pow (k y : Nat) : stepsN k (2 ^ k * y) = y := by
  induction k with
  | zero => simp [stepsN]
  | succ k ih =>
    simp only [stepsN]
    rw [Nat.pow_succ, show 2 ^ k * 2 * y = 2 * (2 ^ k * y) by rw [Nat.mul_comm (2 ^ k) 2, Nat.mul_assoc], stepN_even]
    exact ih
theorem split8 (x : Nat) : x = x % 256 ^^^ 2 ^ 8 * (x / 256) := by
  apply Nat.eq_of_testBit_eq
  intro i
  rw [Nat.testBit_xor, show 256 = 2 ^ 8 from rfl, Nat.testBit_mod_two_pow, Nat.testBit_two_pow_mul, Nat.testBit_div_two_pow]
  by_cases h : i < 8
  · have h8 : ¬ 8 ≤ i := by omega
    simp [h, h8]
  · have h8 : 8 ≤ i := by omega
    have : i - 8 + 8 = i := by omega
    simp [h, h8, this]
/-- By a table of 256: the low byte's sum, and the rest shifted. -/
theorem steps8 (x : Nat) : stepsN 8 x = stepsN 8 (x % 256) ^^^ x / 256 := by
  conv => lhs; rw [split8 x]
  rw [stepsN_xor, stepsN_pow]
theorem stepN_lt (c : Nat) (h : c < 2 ^ 32) : stepN c < 2 ^ 32 := by
  unfold stepN
  split
  · exact Nat.xor_lt_two_pow (by omega) (by omega)
  · omega
theorem stepN_zero (d : Nat) (h : d < 2 ^ 32) (hs : stepN d = 0) : d = 0 := by
  unfold stepN at hs
  split at hs
  · have h1 : d / 2 = 3988292384 := by
      have h2 := congrArg (fun t => t ^^^ 3988292384) hs
      simpa [Nat.xor_assoc] using h2
    omega
  · omega
theorem stepN_inj (a b : Nat) (ha : a < 2 ^ 32) (hb : b < 2 ^ 32) (h : stepN a = stepN b) : a = b := by
  have h1 : stepN (a ^^^ b) = 0 := by rw [stepN_xor, h, Nat.xor_self]
  have h2 := stepN_zero _ (Nat.xor_lt_two_pow ha hb) h1
  have h3 := congrArg (fun t => t ^^^ b) h2
  simpa [Nat.xor_assoc] using h3
theorem stepsN_inj (k : Nat) : ∀ (a b : Nat), a < 2 ^ 32 → b < 2 ^ 32 → stepsN k a = stepsN k b → a = b := by
  induction k with
  | zero => intro a b _ _ h; exact h
  | succ k ih =>
    intro a b ha hb h
    exact stepN_inj a b ha hb (ih _ _ (stepN_lt a ha) (stepN_lt b hb) h)
theorem crc1_nat (c : Nat) (h : c < 2 ^ 32) : crc1 (c : Int) = (stepN c : Int) := by
  unfold crc1 stepN
  by_cases ho : c % 2 = 1
  · rw [if_pos (by omega), if_pos ho, show (c : Int) / 2 = ((c / 2 : Nat) : Int) by omega, show (3988292384 : Int) = ((3988292384 : Nat) : Int) from rfl, u32_xor_nat _ _ (by omega) (by omega)]
  · rw [if_neg (by omega), if_neg ho]; omega
theorem crcN_nat (k : Nat) : ∀ (c : Nat), c < 2 ^ 32 → crcN k (c : Int) = (stepsN k c : Int) := by
  induction k with
  | zero => intro c _; rfl
  | succ k ih => intro c h; simp only [crcN, stepsN]; rw [crc1_nat c h]; exact ih _ (stepN_lt c h)
theorem crcB_nat (c z : Nat) (hc : c < 2 ^ 32) (hz : z < 256) : crcB (c : Int) (z : Int) = (stepsN 8 (c ^^^ z) : Int) := by
  unfold crcB
  rw [u32_xor_nat c z (by omega) (by omega)]
  exact crcN_nat 8 _ (Nat.xor_lt_two_pow hc (by omega))
theorem xor_cancel (a b z : Nat) (h : a ^^^ z = b ^^^ z) : a = b := by
  have h3 := congrArg (fun t => t ^^^ z) h
  simpa [Nat.xor_assoc] using h3
theorem crcB_inj_c (c c' z : Int) (hc : 0 ≤ c ∧ c ≤ 4294967295) (hc' : 0 ≤ c' ∧ c' ≤ 4294967295) (hz : 0 ≤ z ∧ z ≤ 255) (h : crcB c z = crcB c' z) : c = c' := by
  obtain ⟨C, rfl⟩ := Int.eq_ofNat_of_zero_le hc.1
  obtain ⟨C', rfl⟩ := Int.eq_ofNat_of_zero_le hc'.1
  obtain ⟨Z, rfl⟩ := Int.eq_ofNat_of_zero_le hz.1
  rw [crcB_nat C Z (by omega) (by omega), crcB_nat C' Z (by omega) (by omega)] at h
  have h1 := stepsN_inj 8 _ _ (Nat.xor_lt_two_pow (by omega) (by omega)) (Nat.xor_lt_two_pow (by omega) (by omega)) (Int.ofNat_inj.1 h)
  rw [xor_cancel _ _ _ h1]
theorem crcB_inj_z (c z z' : Int) (hc : 0 ≤ c ∧ c ≤ 4294967295) (hz : 0 ≤ z ∧ z ≤ 255) (hz' : 0 ≤ z' ∧ z' ≤ 255) (h : crcB c z = crcB c z') : z = z' := by
  obtain ⟨C, rfl⟩ := Int.eq_ofNat_of_zero_le hc.1
  obtain ⟨Z', rfl⟩ := Int.eq_ofNat_of_zero_le hz'.1
  obtain ⟨Z, rfl⟩ := Int.eq_ofNat_of_zero_le hz.1
  rw [crcB_nat C Z (by omega) (by omega), crcB_nat C Z' (by omega) (by omega)] at h
  have h1 := stepsN_inj 8 _ _ (Nat.xor_lt_two_pow (by omega) (by omega)) (Nat.xor_lt_two_pow (by omega) (by omega)) (Int.ofNat_inj.1 h)
  rw [Nat.xor_comm C Z, Nat.xor_comm C Z'] at h1
  rw [xor_cancel _ _ _ h1]
theorem crcL_inj (l : List Int) : ∀ (c c' : Int), (0 ≤ c ∧ c ≤ 4294967295) → (0 ≤ c' ∧ c' ≤ 4294967295) → (∀ z ∈ l, 0 ≤ z ∧ z ≤ 255) → crcL c l = crcL c' l → c = c' := by
  induction l with
  | nil => intro c c' _ _ _ h; exact h
  | cons z l ih =>
    intro c c' hc hc' hz h
    rw [crcL_cons, crcL_cons] at h
    have hzb := hz z (by simp)
    exact crcB_inj_c c c' z hc hc' hzb (ih _ _ (crcB_bd c z hc hzb) (crcB_bd c' z hc' hzb) (fun y hy => hz y (by simp [hy])) h)
theorem crcL_append (c : Int) (xs ys : List Int) : crcL c (xs ++ ys) = crcL (crcL c xs) ys := by
  unfold crcL
  rw [List.foldl_append]
theorem xor32_inj (a b m : Int) (ha : 0 ≤ a ∧ a ≤ 4294967295) (hb : 0 ≤ b ∧ b ≤ 4294967295) (hm : 0 ≤ m ∧ m ≤ 4294967295) (h : bits .xor .u32 a m = bits .xor .u32 b m) : a = b := by
  obtain ⟨A, rfl⟩ := Int.eq_ofNat_of_zero_le ha.1
  obtain ⟨B, rfl⟩ := Int.eq_ofNat_of_zero_le hb.1
  obtain ⟨M, rfl⟩ := Int.eq_ofNat_of_zero_le hm.1
  rw [u32_xor_nat A M (by omega) (by omega), u32_xor_nat B M (by omega) (by omega)] at h
  rw [xor_cancel _ _ _ (Int.ofNat_inj.1 h)]
/-- Two texts of bytes that differ in one byte have sums that differ. -/
theorem sumR_inj (xs ys : List Int) (z z' : Int) (hx : ∀ y ∈ xs, 0 ≤ y ∧ y ≤ 255) (hy : ∀ y ∈ ys, 0 ≤ y ∧ y ≤ 255) (hz : 0 ≤ z ∧ z ≤ 255) (hz' : 0 ≤ z' ∧ z' ≤ 255) (h : sumR (xs ++ z :: ys) = sumR (xs ++ z' :: ys)) : z = z' := by
  unfold sumR at h
  have hb := crcL_bd xs 4294967295 (by omega) hx
  rw [crcL_append, crcL_append, crcL_cons, crcL_cons] at h
  have b1 := crcB_bd _ z hb hz
  have b2 := crcB_bd _ z' hb hz'
  have h1 := xor32_inj _ _ _ (crcL_bd ys _ b1 hy) (crcL_bd ys _ b2 hy) (by omega) h
  exact crcB_inj_z _ z z' hb hz hz' (crcL_inj ys _ _ b1 b2 hy h1)
end Go.Proofs.YtbhffjeoakalbaaGreatDoor
