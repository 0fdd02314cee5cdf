/- Eight digits: a number's name among a log's files, its order and its way back. (No program's numbers.) -/
import Derived.Lib.ItoaNum
import Derived.Lib.ParseIntB
namespace Go.Proofs.YtekejnjaiccnbaaGreatDoor
open Go
set_option linter.unusedVariables false

/-- The last n digits of a number. -/
def eN : Nat → Nat → List UInt8
  | 0, _ => []
  | n + 1, k => Lib.dg k n :: eN n k
theorem eN_len : ∀ n k, (eN n k).length = n
  | 0, _ => rfl
  | n + 1, k => by rw [eN, List.length_cons, eN_len n k]
theorem eN_eq : ∀ n k, eN n k = (List.range n).map fun t => Lib.dg k (n - 1 - t)
  | 0, _ => rfl
  | n + 1, k => by
    rw [eN, eN_eq n k, List.range_succ_eq_map, List.map_cons, List.map_map]
    congr 1
    refine List.map_congr_left fun t ht => ?_
    have := List.mem_range.1 ht
    show Lib.dg k (n - 1 - t) = Lib.dg k (n + 1 - 1 - (t + 1))
    congr 1
    omega
def d8 (k : Nat) : List UInt8 := eN 8 k
theorem d8_len (k : Nat) : (d8 k).length = 8 := eN_len 8 k
theorem dg_zero {k j : Nat} (h : k < 10 ^ j) : Lib.dg k j = 48 := by
  unfold Lib.dg
  rw [Nat.div_eq_of_lt h]
  rfl
theorem pow_mono10 {a b : Nat} (h : a ≤ b) : 10 ^ a ≤ 10 ^ b := Nat.pow_le_pow_right (by decide) h
theorem nDigits_le {k n : Nat} (hn : 1 ≤ n) (h : k < 10 ^ n) : Lib.nDigits k ≤ n := by
  by_cases h10 : k < 10
  · rw [Lib.nDigits_small h10]; exact hn
  · have hle : 10 ^ (Lib.nDigits k - 1) ≤ k := by
      clear h hn
      induction k using Nat.strongRecOn with
      | _ k ih =>
        rw [Lib.nDigits_big h10]
        by_cases h2 : k / 10 < 10
        · rw [Lib.nDigits_small h2]; simp; omega
        · have h3 := ih (k / 10) (by omega) h2
          have h4 := Lib.nDigits_pos (k / 10)
          rw [show Lib.nDigits (k / 10) + 1 - 1 = (Lib.nDigits (k / 10) - 1) + 1 by omega, Nat.pow_succ]
          omega
    have hlt : 10 ^ (Lib.nDigits k - 1) < 10 ^ n := by omega
    have := (Nat.pow_lt_pow_iff_right (a := 10) (by decide)).1 hlt
    omega
theorem d8_pad {k : Nat} (h : k < 100000000) : List.replicate (8 - Lib.nDigits k) 48 ++ Lib.decDigits k = d8 k := by
  have hn := nDigits_le (k := k) (n := 8) (by decide) (by simpa using h)
  have hp := Lib.nDigits_pos k
  have hl := Lib.lt_pow_nDigits k
  rw [d8, eN_eq, Lib.decDigits_eq]
  apply List.ext_getElem
  · simp; omega
  · intro i h1 h2
    rw [List.getElem_append]
    simp only [List.length_replicate, List.getElem_replicate, List.getElem_map, List.getElem_range]
    split
    · rw [dg_zero (Nat.lt_of_lt_of_le hl (pow_mono10 (by omega)))]
    · congr 1
      omega
theorem dgv (k j : Nat) : (Lib.dg k j).toNat = 48 + k / 10 ^ j % 10 := by
  unfold Lib.dg
  rw [UInt8.toNat_ofNat']
  have : k / 10 ^ j % 10 < 10 := Nat.mod_lt _ (by decide)
  omega
theorem mod_step (k n : Nat) : k % 10 ^ (n + 1) = k / 10 ^ n % 10 * 10 ^ n + k % 10 ^ n := by
  rw [Nat.pow_succ, Nat.mod_mul, Nat.mul_comm, Nat.add_comm]
theorem eN_lt : ∀ n k j, k % 10 ^ n < j % 10 ^ n → eN n k < eN n j
  | 0, k, j, h => by simp [Nat.mod_one] at h
  | n + 1, k, j, h => by
    rw [mod_step, mod_step] at h
    have hp : 0 < 10 ^ n := Nat.pow_pos (by decide)
    have h1 := Nat.mod_lt k hp
    have h2 := Nat.mod_lt j hp
    rw [eN, eN, List.cons_lt_cons_iff]
    rcases Nat.lt_trichotomy (k / 10 ^ n % 10) (j / 10 ^ n % 10) with h3 | h3 | h3
    · left
      show (Lib.dg k n).toNat < (Lib.dg j n).toNat
      rw [dgv, dgv]; omega
    · right
      refine ⟨UInt8.toNat_inj.1 (by rw [dgv, dgv, h3]), eN_lt n k j ?_⟩
      rw [h3] at h; omega
    · exfalso
      have h4 : (j / 10 ^ n % 10 + 1) * 10 ^ n ≤ k / 10 ^ n % 10 * 10 ^ n := Nat.mul_le_mul_right _ h3
      rw [Nat.add_mul] at h4
      omega
theorem d8_lt {k j : Nat} (hj : j < 100000000) (h : k < j) : d8 k < d8 j := by
  refine eN_lt 8 k j ?_
  rw [Nat.mod_eq_of_lt (by simp; omega), Nat.mod_eq_of_lt (by simp; omega)]
  exact h
theorem eN_parse (M : Nat) (hM : M ≤ 4294967295) : ∀ n k acc, (acc * 10 ^ n + k % 10 ^ n) ≤ M → Lib.parseUintM M acc (eN n k) = .ok (acc * 10 ^ n + k % 10 ^ n)
  | 0, k, acc, _ => by simp [eN, Lib.parseUintM, Nat.mod_one]
  | n + 1, k, acc, h => by
    have hd : k / 10 ^ n % 10 < 10 := Nat.mod_lt _ (by decide)
    have hp : 0 < 10 ^ n := Nat.pow_pos (by decide)
    have e1 : acc * 10 ^ (n + 1) + k % 10 ^ (n + 1) = (acc * 10 + k / 10 ^ n % 10) * 10 ^ n + k % 10 ^ n := by
      rw [mod_step, Nat.pow_succ, Nat.add_mul]
      have : acc * (10 ^ n * 10) = acc * 10 * 10 ^ n := by rw [Nat.mul_comm (10 ^ n) 10, Nat.mul_assoc]
      omega
    rw [e1] at h ⊢
    have h5 : acc * 10 + k / 10 ^ n % 10 ≤ M := by
      have : acc * 10 + k / 10 ^ n % 10 ≤ (acc * 10 + k / 10 ^ n % 10) * 10 ^ n := Nat.le_mul_of_pos_right _ hp
      omega
    rw [eN, Lib.parseUintM, dgv, if_pos (by omega), if_neg (by omega)]
    have e2 : 48 + k / 10 ^ n % 10 - 48 = k / 10 ^ n % 10 := by omega
    rw [e2, if_neg (by omega)]
    exact eN_parse M hM n k _ h
theorem d8_parse {k : Nat} (h : k < 100000000) : Lib.parseUintM 4294967295 0 (d8 k) = .ok k := by
  have e : k % 10 ^ 8 = k := Nat.mod_eq_of_lt (by simpa using h)
  have := eN_parse 4294967295 (Nat.le_refl _) 8 k 0 (by rw [e]; omega)
  rw [d8, this, e]
  simp
theorem d8_inj {k j : Nat} (hk : k < 100000000) (hj : j < 100000000) (h : d8 k = d8 j) : k = j := by
  have h1 := d8_parse hk
  rw [h, d8_parse hj] at h1
  injection h1 with h1
  exact h1.symm
end Go.Proofs.YtekejnjaiccnbaaGreatDoor
