/- The walk of LabelRunes. -/
import Derived.Test.YtailaehpgmpaaabWRhigh
namespace Go.Proofs.Ytailaehpgmpaaab
open Go.RowKit
set_option linter.unusedVariables false

theorem low_is (x : Int) (w : World) : Calls Try.prog 4 #[.int .i64 x] w fun e w' => e = .returned (.int .i64 (bits .and .i64 x 9223372036854775807)) ∧ w = w' := by
  go_enter Try.func4, Try.ntmps4
  go_wp2
  go_ret
  exact ⟨rfl, rfl⟩

theorem oneV_ok {t : ByteArray} (h : validR t = true) : oneV t = 0 := by unfold oneV; rw [if_pos h]
theorem oneV_bad {t : ByteArray} (h : validR t = false) : oneV t = 32 := by unfold oneV; rw [h]; rfl
theorem cut_ints (R : ByteArray) (h : 1 ≤ R.size) : sInts (R.extract 0 ((R.size : Int) - 1).toNat) = (sInts R).take (R.size - 1) := by
  have e : ((R.size : Int) - 1).toNat = R.size - 1 := by omega
  rw [e]
  unfold sInts
  rw [← List.map_take]
  congr 1
  rw [ByteArray.data_extract, Array.toList_extract]
  simp
set_option maxHeartbeats 1000000 in
theorem labelRunes_walk (x : Int) (head : ByteArray) (W : World) (hx : (Lit.int .i64 x).wf = true) :
    Calls Try.prog 3 #[.int .i64 x, .string head] W fun e w' => e = .returned (.bool true) ∧ Below W.heap.size W w' := by
  suffices hs : Calls Try.prog 3 #[.int .i64 x, .string head] W fun e w' => e = .returned (.bool true) ∧ W.grownBy w' none by
    refine hs.mono ?_
    rintro e w' ⟨rfl, hg⟩
    exact ⟨rfl, gb_below hg⟩
  have hb := and_low x
  have HC := low_is x
  generalize bits .and .i64 x 9223372036854775807 = r at hb HC
  by_cases hout : (55296 ≤ r % 1114112 ∧ r % 1114112 ≤ 57343) ∨ 100 < head.size
  · exact runes_out x head W r hb HC hout
  · have hl : head.size ≤ 100 := by omega
    have hns : ¬ (55296 ≤ r % 1114112 ∧ r % 1114112 ≤ 57343) := fun h => hout (.inl h)
    obtain ⟨v, ev⟩ : ∃ v : Nat, r % 1114112 = (v : Int) := Int.eq_ofNat_of_zero_le (by omega)
    have hv1 : v ≤ 1114111 := by omega
    have hin := enc_ints v hv1 (by omega)
    rw [← ev] at hin
    obtain ⟨R, hR⟩ : ∃ R, Utf8.encode (r % 1114112) = R := ⟨_, rfl⟩
    rw [hR] at hin
    obtain ⟨c1, c2, c3, _⟩ := rune_char hin (by omega) (by omega) hns
    have hcut := cut_ints R c2
    obtain ⟨f1, f2, f3, f4, f5, f6⟩ := rune_facts hin (by omega) (by omega) hns head (R.extract 0 ((R.size : Int) - 1).toNat) hl hcut
    have k1 : (oneV R != 0) = false := by rw [oneV_ok f1]; rfl
    have k2 : (oneV (⟨#[120]⟩ ++ R ++ R ++ ⟨#[121]⟩) != 0) = false := by rw [oneV_ok f2]; rfl
    have k3 : (oneV (R ++ ⟨#[128]⟩) != 32) = false := by rw [oneV_bad f3]; rfl
    have k4 : (oneV (⟨#[255]⟩ ++ R) != 32) = false := by rw [oneV_bad f4]; rfl
    have k8 : R.size ≠ 1 → (oneV (⟨#[120]⟩ ++ R.extract 0 ((R.size : Int) - 1).toNat) == 32) = true := fun h => by rw [oneV_bad (f6 h)]; rfl
    by_cases hlow : r % 1114112 < 55296
    · have hv : 0 ≤ r % 1114112 ∧ r % 1114112 < 55296 := by omega
      cases hh : head.toList.isEmpty with
      | true =>
        by_cases h1 : R.size = 1
        · exact runes_low_empty_1 x head R W r hb HC hv hl hR c2 c3 k1 k2 k3 k4 hh (by simp [h1])
        · exact runes_low_empty_2 x head R W r hb HC hv hl hR c2 c3 k1 k2 k3 k4 hh (by simp; omega) (k8 h1)
      | false =>
        cases hval : validR head with
        | true =>
          have k5 : (oneV head == 0) = true := by rw [oneV_ok hval]; rfl
          have k6 : (oneV (head ++ R) != 0) = false := by rw [oneV_ok (f5 hval)]; rfl
          by_cases h1 : R.size = 1
          · exact runes_low_valid_1 x head R W r hb HC hv hl hR c2 c3 k1 k2 k3 k4 hh k5 k6 (by simp [h1])
          · exact runes_low_valid_2 x head R W r hb HC hv hl hR c2 c3 k1 k2 k3 k4 hh k5 k6 (by simp; omega) (k8 h1)
        | false =>
          have k5 : (oneV head == 0) = false := by rw [oneV_bad hval]; rfl
          by_cases h1 : R.size = 1
          · exact runes_low_bad_1 x head R W r hb HC hv hl hR c2 c3 k1 k2 k3 k4 hh k5 (by simp [h1])
          · exact runes_low_bad_2 x head R W r hb HC hv hl hR c2 c3 k1 k2 k3 k4 hh k5 (by simp; omega) (k8 h1)
    · have hv : 57343 < r % 1114112 ∧ r % 1114112 ≤ 1114111 := by omega
      cases hh : head.toList.isEmpty with
      | true =>
        by_cases h1 : R.size = 1
        · exact runes_high_empty_1 x head R W r hb HC hv hl hR c2 c3 k1 k2 k3 k4 hh (by simp [h1])
        · exact runes_high_empty_2 x head R W r hb HC hv hl hR c2 c3 k1 k2 k3 k4 hh (by simp; omega) (k8 h1)
      | false =>
        cases hval : validR head with
        | true =>
          have k5 : (oneV head == 0) = true := by rw [oneV_ok hval]; rfl
          have k6 : (oneV (head ++ R) != 0) = false := by rw [oneV_ok (f5 hval)]; rfl
          by_cases h1 : R.size = 1
          · exact runes_high_valid_1 x head R W r hb HC hv hl hR c2 c3 k1 k2 k3 k4 hh k5 k6 (by simp [h1])
          · exact runes_high_valid_2 x head R W r hb HC hv hl hR c2 c3 k1 k2 k3 k4 hh k5 k6 (by simp; omega) (k8 h1)
        | false =>
          have k5 : (oneV head == 0) = false := by rw [oneV_bad hval]; rfl
          by_cases h1 : R.size = 1
          · exact runes_high_bad_1 x head R W r hb HC hv hl hR c2 c3 k1 k2 k3 k4 hh k5 (by simp [h1])
          · exact runes_high_bad_2 x head R W r hb HC hv hl hR c2 c3 k1 k2 k3 k4 hh k5 (by simp; omega) (k8 h1)
end Go.Proofs.Ytailaehpgmpaaab
