/- Numbers: what a run says, told by its digits. -/
import Derived.Test.YtkocdmkojoefoaaTx
namespace Go.Proofs.Ytkocdmkojoefoaa
open Go.RowKit
set_option linter.unusedVariables false
set_option maxRecDepth 20000

theorem dig_run {c : Int} (h : digB c = true) (m : Int) : runB m c = true := by unfold runB; rw [h]; rfl
theorem all_tw {p q : Int → Bool} (hpq : ∀ c, p c = true → q c = true) (l : List Int) (k : Nat) (h : RunAt p l k) : l.takeWhile q = l.take k ++ (l.drop k).takeWhile q := by
  conv => lhs; rw [← List.take_append_drop k l]
  rw [List.takeWhile_append_of_pos (fun z hz => hpq z (List.all_eq_true.1 h.2 z hz))]
theorem whole_iff (l : List Int) : wholeB l = true ↔ l.all digB = true ∧ l ≠ [] ∧ (l.length = 1 ∨ l.getD 0 0 ≠ 48) := by
  unfold wholeB
  simp only [Bool.and_eq_true, Bool.or_eq_true, decide_eq_true_eq, and_assoc]
/-- The digits ahead, D of them; what is behind is no digit. -/
structure DigAt (l : List Int) (D : Nat) : Prop where
  run : RunAt digB l D
  pos : 1 ≤ D
  stop : digB (l.getD D 0) = false
theorem take_get {l : List Int} {D : Nat} (hD : 1 ≤ D) (h : D ≤ l.length) : (l.take D).getD 0 0 = l.getD 0 0 := by
  rw [List.getD_eq_getElem?_getD, List.getD_eq_getElem?_getD, List.getElem?_take_of_lt (by omega)]
theorem take_len {l : List Int} {D : Nat} (h : D ≤ l.length) : (l.take D).length = D := by rw [List.length_take]; omega
theorem unit_dig {c : Int} (h : digB c = true) : unitR c = 0 := by
  unfold digB at h
  simp only [Bool.and_eq_true, decide_eq_true_eq] at h
  unfold unitR
  rw [if_neg (by omega), if_neg (by omega), if_neg (by omega), if_neg (by omega)]
theorem dig_dot : digB 46 = false := by decide
theorem let_dig {c : Int} (h : letB c = true) : digB c = false ∧ c ≠ 46 := by
  unfold letB at h
  simp only [Bool.or_eq_true, Bool.and_eq_true, decide_eq_true_eq] at h
  unfold digB
  simp only [Bool.and_eq_false_iff, decide_eq_false_iff_not]
  omega
theorem head_take {l : List Int} (R : List Int) (D : Nat) (hr : RunAt digB l D) (hl : R.take D = l.take D) (hs : D < R.length → R.getD D 0 = 46) : headR R = l.take D := by
  unfold headR
  have e : R = l.take D ++ R.drop D := by rw [← hl, List.take_append_drop]
  have hne : ∀ z ∈ l.take D, decide (z ≠ 46) = true := fun z hz => by
    have := List.all_eq_true.1 hr.2 z hz
    unfold digB at this
    simp only [Bool.and_eq_true, decide_eq_true_eq] at this
    simp only [decide_eq_true_eq]
    omega
  rw [e, List.takeWhile_append_of_pos hne]
  by_cases h : D < R.length
  · rw [drop_cons R D h, hs h, List.takeWhile_cons]
    simp
  · rw [List.drop_eq_nil_of_le (by omega)]
    simp
/-- A nought ahead of digits. -/
theorem num_nought {l : List Int} {D : Nat} (h : DigAt l D) (h0 : l.getD 0 0 = 48) (hD : 1 < D) : numR l = (0, ⟨#[]⟩, 0, 0) := by
  have hr : runR 46 l = l.take D ++ (l.drop D).takeWhile (runB 46) := all_tw (fun c hc => dig_run hc 46) l D h.run
  have hl := take_len h.run.1
  have hw : ∀ m, D ≤ m → wholeB ((runR 46 l).take m) = false := fun m hm => by
    rw [Bool.eq_false_iff]
    intro hx
    obtain ⟨_, _, h3⟩ := (whole_iff _).1 hx
    have e1 : ((runR 46 l).take m).getD 0 0 = 48 := by
      rw [hr, List.getD_eq_getElem?_getD, List.getElem?_take_of_lt (by omega), List.getElem?_append_left (by omega), ← List.getD_eq_getElem?_getD, take_get (by omega) h.run.1, h0]
    have e2 : 2 ≤ ((runR 46 l).take m).length := by
      rw [List.length_take, hr, List.length_append, hl]
      omega
    rw [e1] at h3
    omega
  have hlen : (runR 46 l).length = D + ((l.drop D).takeWhile (runB 46)).length := by rw [hr, List.length_append, hl]
  have hS : spanR (runR 46 l) = 0 := by
    unfold spanR
    by_cases hx : 2 ≤ (runR 46 l).length ∧ (runR 46 l).length ≤ 11 ∧ wholeB ((runR 46 l).take ((runR 46 l).length - 1)) = true
    · by_cases hD2 : D ≤ (runR 46 l).length - 1
      · rw [hw _ hD2] at hx; simp at hx
      · have e0 : (l.drop D).takeWhile (runB 46) = [] := List.eq_nil_of_length_eq_zero (by omega)
        rw [e0, List.append_nil] at hr
        have hu : unitR ((runR 46 l).getD ((runR 46 l).length - 1) 0) = 0 := by
          refine unit_dig ?_
          rw [hr, hl, List.getD_eq_getElem?_getD, List.getElem?_eq_getElem (by omega), Option.getD_some]
          exact List.all_eq_true.1 h.run.2 _ (List.getElem_mem _)
        rw [if_pos hx, hu, if_neg (by omega)]
    · rw [if_neg hx]
  have hN : numB (runR 46 l) = false := by
    unfold numB
    have : wholeB (headR (runR 46 l)) = false := by
      have hp : ∃ m, D ≤ m ∧ headR (runR 46 l) = (runR 46 l).take m := by
        have hh : headR (runR 46 l) = l.take D ++ headR ((l.drop D).takeWhile (runB 46)) := by
          unfold headR
          conv => lhs; rw [hr]
          rw [List.takeWhile_append_of_pos (fun z hz => by
            have := List.all_eq_true.1 h.run.2 z hz
            unfold digB at this
            simp only [Bool.and_eq_true, decide_eq_true_eq] at this
            simp only [decide_eq_true_eq]
            omega)]
        refine ⟨(headR (runR 46 l)).length, by rw [hh, List.length_append, hl]; omega, ?_⟩
        have hpre : headR (runR 46 l) <+: runR 46 l := List.takeWhile_prefix _
        exact List.prefix_iff_eq_take.1 hpre
      obtain ⟨m, hm, e⟩ := hp
      rw [e]
      exact hw m hm
    rw [this]
    rfl
  unfold numR
  rw [hS, hN, if_neg (by omega), if_neg (by simp)]
end Go.Proofs.Ytkocdmkojoefoaa
