/- A text that is quoted. -/
import Derived.Test.YtkocdmkojoefoaaDe
namespace Go.Proofs.Ytkocdmkojoefoaa
open Go.RowKit
set_option linter.unusedVariables false
set_option maxRecDepth 20000

def quo1 (c : Int) : List Int := if c = 10 then [92, 110] else if c = 34 ∨ c = 92 then [92, c] else [c]
def quoL (l : List Int) : List Int := l.flatMap quo1
def okB (c : Int) : Bool := decide (32 ≤ c) || decide (c = 10)
theorem text_cons (c : Int) (r : List Int) : textR (c :: r) = if c = 34 then ([], 1) else if c < 32 then ([], 0) else if c = 92 then (match r with
      | [] => ([], 0)
      | d :: r2 => if d = 34 ∨ d = 92 then (if (textR r2).2 = 0 then ([], 0) else (d :: (textR r2).1, (textR r2).2 + 2)) else if d = 110 then (if (textR r2).2 = 0 then ([], 0) else (10 :: (textR r2).1, (textR r2).2 + 2)) else ([], 0))
    else (if (textR r).2 = 0 then ([], 0) else (c :: (textR r).1, (textR r).2 + 1)) := textR.eq_def (c :: r)
theorem quo_text (l r : List Int) (h : l.all okB = true) : textR (quoL l ++ r) = if (textR r).2 = 0 then ([], 0) else (l ++ (textR r).1, (quoL l).length + (textR r).2) := by
  induction l with
  | nil =>
    show textR r = _
    by_cases h0 : (textR r).2 = 0
    · rw [if_pos h0]
      have := text_none r h0
      exact Prod.ext this h0
    · rw [if_neg h0]
      show textR r = ((textR r).1, 0 + (textR r).2)
      rw [Nat.zero_add]
  | cons c l ih =>
    rw [List.all_cons, Bool.and_eq_true] at h
    have ih := ih h.2
    have hc := h.1
    unfold okB at hc
    simp only [Bool.or_eq_true, decide_eq_true_eq] at hc
    have e : quoL (c :: l) = quo1 c ++ quoL l := rfl
    rw [e, List.append_assoc]
    unfold quo1
    by_cases h10 : c = 10
    · rw [if_pos h10]
      show textR (92 :: 110 :: (quoL l ++ r)) = _
      rw [text_cons, if_neg (by decide), if_neg (by decide), if_pos rfl]
      simp only []
      rw [if_neg (by decide), if_pos trivial, ih]
      by_cases h0 : (textR r).2 = 0
      · simp [h0]
      · rw [if_neg h0, if_neg h0, if_neg (by omega), h10]
        simp
        omega
    · rw [if_neg h10]
      by_cases hq : c = 34 ∨ c = 92
      · rw [if_pos hq]
        show textR (92 :: c :: (quoL l ++ r)) = _
        rw [text_cons, if_neg (by decide), if_neg (by decide), if_pos rfl]
        simp only []
        rw [if_pos hq, ih]
        by_cases h0 : (textR r).2 = 0
        · simp [h0]
        · rw [if_neg h0, if_neg h0, if_neg (by omega)]
          simp
          omega
      · rw [if_neg hq]
        show textR (c :: (quoL l ++ r)) = _
        rw [text_cons, if_neg (fun h => hq (.inl h)), if_neg (by omega), if_neg (fun h => hq (.inr h)), ih]
        by_cases h0 : (textR r).2 = 0
        · simp [h0]
        · rw [if_neg h0, if_neg h0, if_neg (by omega)]
          simp
          omega
theorem txt_tok (l : List Int) : tokR (34 :: l) = (txtR (34 :: l), 173) := rfl
theorem lx_quoted (l : List Int) (h : l.all okB = true) : lexL 0 (34 :: (quoL l ++ [34])) = .ok [(4, 0, strOfNums l, 0), (0, (((quoL l).length + 2 : Nat) : Int), ⟨#[]⟩, 0)] := by
  have ht := quo_text l [34] h
  rw [show textR [34] = ([], 1) from rfl, if_neg (by decide), List.append_nil] at ht
  have hlen : (34 :: (quoL l ++ [34])).length = (quoL l).length + 2 := by simp
  have h2 := lex_whole (l := 34 :: (quoL l ++ [34])) (kd := 4) (sp := 0) (c := 173) (t := strOfNums l) (n := (quoL l).length + 2) (show blankB 34 = false by decide) (by simp) (by
    rw [txt_tok]
    unfold txtR
    rw [show (34 :: (quoL l ++ [34])).drop 1 = quoL l ++ [34] from rfl, ht]
    rw [if_neg (by show ¬ (quoL l).length + 1 = 0; omega)]) hlen.symm
  rw [h2, hlen]
theorem lx_open (l : List Int) (h : l.all okB = true) : lexL 0 (34 :: quoL l) = .bad 0 173 := by
  have ht := quo_text l [] h
  rw [show textR [] = ([], 0) from by rw [textR.eq_def], if_pos rfl, List.append_nil] at ht
  have h2 := lex_fail (l := 34 :: quoL l) (show blankB 34 = false by decide) (by simp) (by
    rw [txt_tok]
    unfold txtR
    rw [show (34 :: quoL l).drop 1 = quoL l from rfl, ht]
    rfl)
  rw [h2, txt_tok]
theorem lx_low (c : Int) (hc : c < 32) : lexL 0 [34, c, 34] = .bad 0 173 := by
  have h2 := lex_fail (l := [34, c, 34]) (show blankB 34 = false by decide) (by simp) (by
    rw [txt_tok]
    unfold txtR
    have e : textR [c, 34] = ([], 0) := by rw [text_cons, if_neg (by omega), if_pos hc]
    rw [show ([34, c, 34] : List Int).drop 1 = [c, 34] from rfl, e]
    rfl)
  rw [h2, txt_tok]
theorem quo_len (l : List Int) : (quoL l).length ≤ 2 * l.length := by
  induction l with
  | nil => simp [quoL]
  | cons c l ih =>
    have e : quoL (c :: l) = quo1 c ++ quoL l := rfl
    rw [e, List.length_append, List.length_cons]
    have : (quo1 c).length ≤ 2 := by unfold quo1; split; · simp
                                     split <;> simp
    omega
theorem quo_next {l : List Int} {k : Nat} (hk : k < l.length) : quoL (l.take (k + 1)) = quoL (l.take k) ++ quo1 (l.getD k 0) := by
  unfold quoL
  rw [List.take_add_one, List.getElem?_eq_getElem hk, Option.toList_some, List.flatMap_append, List.getD_eq_getElem?_getD, List.getElem?_eq_getElem hk]
  simp
theorem ok_next {l : List Int} {k : Nat} (hk : k < l.length) (h : (l.take k).all okB = true) (hc : okB (l.getD k 0) = true) : (l.take (k + 1)).all okB = true := by
  rw [List.take_add_one, List.getElem?_eq_getElem hk, Option.toList_some, List.all_append, h, List.all_cons, List.all_nil]
  rw [List.getD_eq_getElem?_getD, List.getElem?_eq_getElem hk, Option.getD_some] at hc
  rw [hc]; rfl
end Go.Proofs.Ytkocdmkojoefoaa
