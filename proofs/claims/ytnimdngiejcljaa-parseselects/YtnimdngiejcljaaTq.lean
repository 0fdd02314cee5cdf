/- A text that is quoted. -/
import Derived.Test.YtnimdngiejcljaaZc
namespace Go.Proofs.Ytnimdngiejcljaa
open Go.RowKit
set_option linter.unusedVariables false
set_option maxRecDepth 20000

def quo1 (c : Int) : List Int := if c = 10 then [92, 110] else if c = 34 ∨ c = 92 then [92, c] else [c]
def quoL (l : List Int) : List Int := l.flatMap quo1
def okB (c : Int) : Bool := decide (32 ≤ c) || decide (c = 10)
theorem text_cons (c : Int) (r : List Int) : textR (c :: r) = if c = 34 then ([], 1) else if c < 32 then ([], 0) else if c = 92 then (match r with
      | [] => ([], 0)
      | d :: r2 => if d = 34 ∨ d = 92 then (if (textR r2).2 = 0 then ([], 0) else (d :: (textR r2).1, (textR r2).2 + 2)) else if d = 110 then (if (textR r2).2 = 0 then ([], 0) else (10 :: (textR r2).1, (textR r2).2 + 2)) else ([], 0))
    else (if (textR r).2 = 0 then ([], 0) else (c :: (textR r).1, (textR r).2 + 1)) := textR.eq_def (c :: r)
theorem quo_text (l r : List Int) (h : l.all okB = true) : textR (quoL l ++ r) = if (textR r).2 = 0 then ([], 0) else (l ++ (textR r).1, (quoL l).length + (textR r).2) := by
  induction l with
  | nil =>
    show textR r = _
    by_cases h0 : (textR r).2 = 0
    · rw [if_pos h0]
      have := text_none r h0
      exact Prod.ext this h0
    · rw [if_neg h0]
      show textR r = ((textR r).1, 0 + (textR r).2)
      rw [Nat.zero_add]
  | cons c l ih =>
    rw [List.all_cons, Bool.and_eq_true] at h
    have ih := ih h.2
    have hc := h.1
    unfold okB at hc
    simp only [Bool.or_eq_true, decide_eq_true_eq] at hc
    have e : quoL (c :: l) = quo1 c ++ quoL l := rfl
    rw [e, List.append_assoc]
    unfold quo1
    by_cases h10 : c = 10
    · rw [if_pos h10]
      show textR (92 :: 110 :: (quoL l ++ r)) = _
      rw [text_cons, if_neg (by decide), if_neg (by decide), if_pos rfl]
      simp only []
      rw [if_neg (by decide), if_pos trivial, ih]
      by_cases h0 : (textR r).2 = 0
      · simp [h0]
      · rw [if_neg h0, if_neg h0, if_neg (by omega), h10]
        simp
        omega
    · rw [if_neg h10]
      by_cases hq : c = 34 ∨ c = 92
      · rw [if_pos hq]
        show textR (92 :: c :: (quoL l ++ r)) = _
        rw [text_cons, if_neg (by decide), if_neg (by decide), if_pos rfl]
        simp only []
        rw [if_pos hq, ih]
        by_cases h0 : (textR r).2 = 0
        · simp [h0]
        · rw [if_neg h0, if_neg h0, if_neg (by omega)]
          simp
          omega
      · rw [if_neg hq]
        show textR (c :: (quoL l ++ r)) = _
        rw [text_cons, if_neg (fun h => hq (.inl h)), if_neg (by omega), if_neg (fun h => hq (.inr h)), ih]
        by_cases h0 : (textR r).2 = 0
        · simp [h0]
        · rw [if_neg h0, if_neg h0, if_neg (by omega)]
          simp
          omega
end Go.Proofs.Ytnimdngiejcljaa
