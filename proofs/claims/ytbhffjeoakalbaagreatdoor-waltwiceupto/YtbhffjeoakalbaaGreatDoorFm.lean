/- The frames of package codec are a framing. -/
import Derived.Test.YtbhffjeoakalbaaGreatDoorCx
import Derived.Test.YtbhffjeoakalbaaGreatDoorWm
namespace Go.Proofs.YtbhffjeoakalbaaGreatDoor
set_option linter.unusedVariables false

theorem uframe_cutAt (xs rec : List Int) (hr : rec.length ≤ 65536) (i : Nat) (hi : i < (frameR rec).length) : uframeR (xs ++ (frameR rec).take i) xs.length = ([], 0, 20) := by
  have h4 : (four (sumR rec)).length = 4 := rfl
  have hfl : (frameR rec).length = (enc rec.length).length + 4 + rec.length := by rw [frameR]; simp [h4]; omega
  have ef : frameR rec = enc rec.length ++ (four (sumR rec) ++ rec) := by rw [frameR]; simp
  by_cases h : i < (enc rec.length).length
  · have e1 : (frameR rec).take i = (enc rec.length).take i := by rw [ef, List.take_append_of_le_length (by omega)]
    have hu : uintR (xs ++ (frameR rec).take i) xs.length = (0, 0, 20) := by
      unfold uintR
      rw [if_neg (by simp; omega)]
      exact ud_cut _ _ 9 0 rec.length i 0 rfl (by omega) (by rw [e1]; simp) h (by simp; omega)
    unfold uframeR
    rw [hu]
    simp
  · have e1 : (frameR rec).take i = enc rec.length ++ (four (sumR rec) ++ rec).take (i - (enc rec.length).length) := by
      rw [ef, List.take_append]
      rw [List.take_of_length_le (by omega)]
    have hu := uintR_at xs ((four (sumR rec) ++ rec).take (i - (enc rec.length).length)) rec.length (by omega) (xs ++ (frameR rec).take i) (by rw [e1]) xs.length rfl
    unfold uframeR
    rw [hu]
    have hl : (xs ++ (frameR rec).take i).length = xs.length + i := by simp; omega
    simp only [ne_eq, not_true_eq_false, if_false, hl]
    rw [if_neg (by omega), if_pos (by simp; omega)]
/-- A record at a place, if one stands whole there. -/
def ufO (zs : List Int) (p : Nat) : Option (List Int × Nat) := if (uframeR zs p).2.2 = 0 then some ((uframeR zs p).1, (uframeR zs p).2.1.toNat) else none
theorem framing : Framing frameR ufO where
  pos r := by
    rw [frameR]
    have := enc_len_pos r.length
    simp; omega
  whole xs r ys hr := by
    unfold ufO
    rw [uframeR_at xs ys r hr _ rfl _ rfl]
    simp
    omega
  torn xs r i hr hi := by
    unfold ufO
    rw [uframe_cutAt xs r hr i hi]
    simp
end Go.Proofs.YtbhffjeoakalbaaGreatDoor
