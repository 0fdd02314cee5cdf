/- Plain facts on bits of numbers and of lists of bytes. -/
import Derived.Laws.BitsAllLaws
import Derived.Laws.Bits64
namespace Go.Proofs.Ytmljokpghhfcjaa

/-- Bit i of a list of bytes, the highest of each byte first. -/
def bitOf (zs : List Int) (i : Nat) : Int := zs.getD (i / 8) 0 / 2 ^ (7 - i % 8) % 2
/-- The number that k bits from p on stand for. -/
def rdv (zs : List Int) (p : Nat) : Nat → Int
  | 0 => 0
  | k + 1 => rdv zs p k * 2 + bitOf zs (p + k)

theorem bitOf_01 (zs : List Int) (i : Nat) : 0 ≤ bitOf zs i ∧ bitOf zs i ≤ 1 := by unfold bitOf; omega
theorem rdv_bound (zs : List Int) (p k : Nat) : 0 ≤ rdv zs p k ∧ rdv zs p k < 2 ^ k := by
  induction k with
  | zero => simp [rdv]
  | succ k ih =>
    have := bitOf_01 zs (p + k)
    simp only [rdv, Int.pow_succ]
    omega
theorem rdv_63 (zs : List Int) (p k : Nat) (hk : k < 64) : 0 ≤ rdv zs p k ∧ rdv zs p k ≤ 9223372036854775807 := by
  have h := rdv_bound zs p k
  have : (2 : Int) ^ k ≤ 2 ^ 63 := by exact_mod_cast Nat.pow_le_pow_right (by decide) (by omega : k ≤ 63)
  omega
theorem rdv_64 (zs : List Int) (p k : Nat) (hk : k ≤ 64) : 0 ≤ rdv zs p k ∧ rdv zs p k ≤ 18446744073709551615 := by
  have h := rdv_bound zs p k
  have : (2 : Int) ^ k ≤ 2 ^ 64 := by exact_mod_cast Nat.pow_le_pow_right (by decide) (by omega : k ≤ 64)
  omega

theorem ediv_pow_bd (z : Int) (s : Nat) (h0 : 0 ≤ z) (h1 : z ≤ 255) : 0 ≤ z / 2 ^ s ∧ z / 2 ^ s ≤ 255 := by
  have hp : (0 : Int) < 2 ^ s := Int.pow_pos (by decide)
  refine ⟨Int.ediv_nonneg h0 (Int.le_of_lt hp), ?_⟩
  have := Int.ediv_le_self (2 ^ s) h0
  omega
theorem and_one (z : Int) (s : Nat) (h0 : 0 ≤ z) (h1 : z ≤ 255) : bits .and .u8 (z / 2 ^ s) 1 = z / 2 ^ s % 2 := by
  have hb := ediv_pow_bd z s h0 h1
  rw [u8_and _ _ hb.1 (by omega) (by decide) (by decide)]
  have : (1 : Int).toNat = 1 := rfl
  rw [this, nat_mask1]
  omega
theorem or_step (v z : Int) (s : Nat) (hv : 0 ≤ v) (hv1 : v ≤ 9223372036854775807) (h0 : 0 ≤ z) (h1 : z ≤ 255) :
    bits .or .u64 (v * 2) (IntKind.u64.wrap (bits .and .u8 (z / 2 ^ s) 1)) = v * 2 + z / 2 ^ s % 2 := by
  rw [and_one z s h0 h1, IntKind.wrap_u64]
  have e : z / 2 ^ s % 2 % 18446744073709551616 = z / 2 ^ s % 2 := by omega
  rw [e]
  have ht : 0 ≤ z / 2 ^ s % 2 ∧ z / 2 ^ s % 2 ≤ 1 := by omega
  generalize z / 2 ^ s % 2 = t at *
  rw [u64_or _ _ (by omega) (by omega) (by omega) (by omega), nat_join 1 _ _ (by omega) (by omega)]
  omega
end Go.Proofs.Ytmljokpghhfcjaa
