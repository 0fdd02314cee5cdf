/- The document's own Frame, Int, Text. -/
import Derived.Test.YtailaehpgmpaaaaCrest
namespace Go.Proofs.Ytailaehpgmpaaaa
open Go.RowKit
set_option linter.unusedVariables false

def frameR (zs : List Int) : List Int := enc zs.length ++ four (sumR zs) ++ zs

/-- What a number that is read is good for. -/
theorem URel.ok {zs : List Int} {p : Nat} {r1 r2 : Int} (hz : ∀ k, 0 ≤ zs.getD k 0 ∧ zs.getD k 0 ≤ 255) : ∀ (n i : Nat) (v : Int), 9 - i = n → i ≤ 9 → 0 ≤ v → v < 2 ^ (7 * i) → URel zs p i v r1 r2 0 → (p : Int) + i < r2 ∧ r2 ≤ zs.length ∧ 0 ≤ r1 ∧ r1 ≤ 18446744073709551615 := by
  intro n
  induction n with
  | zero =>
    intro i v hn hi hv0 hv h
    have hl : p + i < zs.length := by
      by_cases hl : p + i < zs.length
      · exact hl
      · have := h.over hi (by omega); omega
    by_cases hf : i = 9 ∧ 1 < zs.getD (p + i) 0 ∨ 0 < i ∧ zs.getD (p + i) 0 = 0
    · have := h.form hi hl hf; omega
    · have hc : zs.getD (p + i) 0 < 128 := by omega
      have hd := h.done hi hl hf hc
      have ho := or7 v (zs.getD (p + i) 0) i hv0 hv hi (hz _) (fun h9 => by omega)
      have hp : (0 : Int) < 2 ^ (7 * i) := Int.pow_pos (by decide)
      have hm := Int.mul_nonneg (show 0 ≤ zs.getD (p + i) 0 % 128 by omega) (Int.le_of_lt hp)
      omega
  | succ n ih =>
    intro i v hn hi hv0 hv h
    have hl : p + i < zs.length := by
      by_cases hl : p + i < zs.length
      · exact hl
      · have := h.over hi (by omega); omega
    by_cases hf : i = 9 ∧ 1 < zs.getD (p + i) 0 ∨ 0 < i ∧ zs.getD (p + i) 0 = 0
    · have := h.form hi hl hf; omega
    · have ho := or7 v (zs.getD (p + i) 0) i hv0 hv hi (hz _) (fun h9 => by omega)
      have hp : (0 : Int) < 2 ^ (7 * i) := Int.pow_pos (by decide)
      have hm := Int.mul_nonneg (show 0 ≤ zs.getD (p + i) 0 % 128 by omega) (Int.le_of_lt hp)
      by_cases hc : zs.getD (p + i) 0 < 128
      · have hd := h.done hi hl hf hc
        omega
      · have hs := h.step hi hl hf hc
        have := ih (i + 1) _ (by omega) (by omega) (by omega) (ho.2.2 (by omega)) hs
        omega
theorem ud_ok {zs : List Int} {p : Nat} {r1 r2 : Int} (hz : ∀ k, 0 ≤ zs.getD k 0 ∧ zs.getD k 0 ≤ 255) (h : ud zs p 10 0 0 = (r1, r2, 0)) : (p : Int) < r2 ∧ r2 ≤ zs.length ∧ 0 ≤ r1 ∧ r1 ≤ 18446744073709551615 := by
  have := URel.ok (p := p) hz 9 0 0 rfl (by omega) (by omega) (by decide) h
  simpa using this

set_option maxHeartbeats 400000 in
theorem ruint_out (a : Option Addr) (L cap : Nat) (p : Int) (w : World) (hz : (L : Int) ≤ 140737488355000) (hp : p < 0 ∨ (L : Int) < p) :
    Calls Try.prog 54 #[.slice a L cap, .int .i64 p] w fun e w' => e = .returned (.tuple #[.int .u64 0, .int .i64 0, .int .i64 20]) ∧ w = w' := by
  by_cases h : p < 0
  · have d1 : decide (p < 0) = true := by simpa using h
    go_enter Try.func54, Try.ntmps54
    go_wp2
    go_ret3
    exact ⟨rfl, rfl⟩
  · have d1 : decide (p < 0) = false := by simpa using h
    have d2 : decide ((L : Int) < p) = true := by simp; omega
    go_enter Try.func54, Try.ntmps54
    go_wp2
    go_ret3
    exact ⟨rfl, rfl⟩

/-- The document's Uint, at any place. -/
theorem ruint (a : Option Addr) (zs : List Int) (L cap : Nat) (p r1 r2 r3 : Int) (w : World) (hr : Rd w a zs) (hL : zs.length = L) (hz : (L : Int) ≤ 140737488355000) (hR : uintR zs p = (r1, r2, r3)) :
    Calls Try.prog 54 #[.slice a L cap, .int .i64 p] w fun e w' => e = .returned (.tuple #[.int .u64 r1, .int .i64 r2, .int .i64 r3]) ∧ w = w' := by
  unfold uintR at hR
  by_cases h : p < 0 ∨ (zs.length : Int) < p
  · rw [if_pos h] at hR
    simp only [Prod.mk.injEq] at hR
    obtain ⟨rfl, rfl, rfl⟩ := hR
    exact ruint_out a L cap p w hz (by omega)
  · rw [if_neg h] at hR
    obtain ⟨q, rfl⟩ := Int.eq_ofNat_of_zero_le (show 0 ≤ p by omega)
    exact ruint_in a zs L cap q r1 r2 r3 w hr hL hz (by omega) hR
theorem uintR_ok {zs : List Int} {p r1 r2 : Int} (hz : ∀ k, 0 ≤ zs.getD k 0 ∧ zs.getD k 0 ≤ 255) (h : uintR zs p = (r1, r2, 0)) : 0 ≤ p ∧ p < r2 ∧ r2 ≤ zs.length ∧ 0 ≤ r1 ∧ r1 ≤ 18446744073709551615 := by
  unfold uintR at h
  split at h
  · simp at h
  · have := ud_ok hz h
    omega

/-- The signed number that a number stands for. -/
def unzz (v : Int) : Int := if v % 2 = 0 then v / 2 else -(v / 2) - 1
def intR (zs : List Int) (p : Int) : Int × Int × Int := if (uintR zs p).2.2 = 0 then (unzz (uintR zs p).1, (uintR zs p).2.1, 0) else (0, 0, (uintR zs p).2.2)

theorem and_one_64 (a : Int) (h0 : 0 ≤ a) (h1 : a ≤ 18446744073709551615) : bits .and .u64 a 1 = a % 2 := by
  rw [u64_and _ _ h0 (by omega) (by decide) (by decide)]
  have : (1 : Int).toNat = 1 := rfl
  rw [this, nat_mask1]
  omega

end Go.Proofs.Ytailaehpgmpaaaa
