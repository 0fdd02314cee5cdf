/- Frames as lists (picked from the texts of codec, for a trial). -/
import Derived.Test.YtbhffjeoakalbaaGreatDoorCface
import Derived.Laws.BitsAllLaws
import Derived.Laws.Bits64
namespace Go.Proofs.YtbhffjeoakalbaaGreatDoor
set_option linter.unusedVariables false
theorem uintR_at (xs ys : List Int) (v : Nat) (hv : v < 18446744073709551616) (zs : List Int) (hz : zs = xs ++ (enc v ++ ys)) (p : Int) (hp : p = xs.length) : uintR zs p = ((v : Int), (xs.length : Int) + (enc v).length, 0) := by
  subst hz hp
  rw [uintR_enc xs ys v hv]
  simp
theorem uframeR_at (xs ys rec : List Int) (hr : rec.length ≤ 65536) (zs : List Int) (hz : zs = xs ++ (frameR rec ++ ys)) (p : Int) (hp : p = xs.length) : uframeR zs p = (rec, (xs.length : Int) + (frameR rec).length, 0) := by
  have h := uintR_at xs (four (sumR rec) ++ rec ++ ys) rec.length (by omega) zs (by rw [hz, frameR]; simp) p hp
  unfold uframeR
  rw [h]
  have h4 : (four (sumR rec)).length = 4 := rfl
  have hfl : (frameR rec).length = (enc rec.length).length + 4 + rec.length := by rw [frameR]; simp [h4]; omega
  have hlen : (zs.length : Int) = xs.length + (enc rec.length).length + 4 + rec.length + ys.length := by
    rw [hz]; simp [hfl]; omega
  simp only [ne_eq, not_true_eq_false, if_false]
  rw [if_neg (by omega), if_neg (by omega)]
  have e1 : ((xs.length : Int) + ((enc rec.length).length : Int)).toNat = (xs ++ enc rec.length).length := by simp; omega
  have e2 : ((rec.length : Nat) : Int).toNat = rec.length := by omega
  have ez : zs = (xs ++ enc rec.length) ++ (four (sumR rec) ++ (rec ++ ys)) := by rw [hz, frameR]; simp
  rw [e1, e2]
  have d1 : zs.drop (xs ++ enc rec.length).length = four (sumR rec) ++ (rec ++ ys) := by rw [ez, List.drop_left]
  have d2 : zs.drop ((xs ++ enc rec.length).length + 4) = rec ++ ys := by
    rw [← List.drop_drop, d1, ← h4, List.drop_left]
  rw [d1, d2, List.take_left, show (four (sumR rec) ++ (rec ++ ys)).take 4 = four (sumR rec) from by rw [← h4, List.take_left], if_pos rfl, hfl]
  simp only [Prod.mk.injEq, true_and, and_true]
  omega
/-- A number's bytes cut short end too early. -/
theorem ud_cut (zs : List Int) (p : Nat) : ∀ (m i u j : Nat) (a : Int), 9 - i = m → i ≤ 9 → zs.drop (p + i) = (enc u).take j → j < (enc u).length → (u : Int) * 2 ^ (7 * i) < 18446744073709551616 → ud zs p (10 - i) i a = (0, 0, 20) := by
  intro m
  induction m with
  | zero =>
    intro i u j a hm hi hd hj hb
    obtain rfl : i = 9 := by omega
    have e : (2 : Int) ^ (7 * 9) = 9223372036854775808 := by simp
    rw [e] at hb
    rw [enc_small (show u < 128 by omega)] at hd hj
    have hj0 : j = 0 := by simp at hj; omega
    subst hj0
    have hl : zs.length ≤ p + 9 := by simpa using hd
    rw [show 10 - 9 = 0 + 1 from rfl, ud, if_pos hl]
  | succ m ih =>
    intro i u j a hm hi hd hj hb
    have hp : (0 : Int) < 2 ^ (7 * i) := Int.pow_pos (by decide)
    rw [show 10 - i = (9 - i) + 1 by omega, ud]
    cases j with
    | zero =>
      have hl : zs.length ≤ p + i := by simpa using hd
      rw [if_pos hl]
    | succ j =>
      have h128 : ¬ u < 128 := by
        intro h
        rw [enc_small h] at hj
        simp at hj
      rw [enc_big h128] at hd hj
      have hlen : p + i < zs.length := by
        have h := congrArg List.length hd
        simp at h; omega
      have hg : zs.getD (p + i) 0 = ((u % 128 + 128 : Nat) : Int) := by
        have h := congrArg (fun l => l.getD 0 0) hd
        simpa [List.getD_eq_getElem?_getD] using h
      have hmul : ((u / 128 : Nat) : Int) * 2 ^ (7 * (i + 1)) ≤ (u : Int) * 2 ^ (7 * i) := by
        rw [pow7, show ((u / 128 : Nat) : Int) * (2 ^ (7 * i) * 128) = ((u / 128 : Nat) : Int) * 128 * 2 ^ (7 * i) by rw [Int.mul_comm (2 ^ (7 * i)) 128, Int.mul_assoc]]
        exact Int.mul_le_mul_of_nonneg_right (by omega) (Int.le_of_lt hp)
      have h9 : i ≠ 9 := by omega
      rw [if_neg (by omega), hg, if_neg (by omega), if_neg (by omega)]
      have hd' : zs.drop (p + (i + 1)) = (enc (u / 128)).take j := by
        have h := congrArg (List.drop 1) hd
        rw [List.drop_drop] at h
        simpa [Nat.add_assoc] using h
      have := ih (i + 1) (u / 128) j (a + ((u % 128 + 128 : Nat) : Int) % 128 * 2 ^ (7 * i)) (by omega) (by omega) hd' (by simp at hj; omega) (by omega)
      rw [show 9 - i = 10 - (i + 1) by omega]
      exact this
end Go.Proofs.YtbhffjeoakalbaaGreatDoor
