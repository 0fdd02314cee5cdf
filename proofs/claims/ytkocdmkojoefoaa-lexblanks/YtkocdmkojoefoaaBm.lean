/- The tokens' bytes, with blanks between. -/
import Derived.Test.YtkocdmkojoefoaaJm
namespace Go.Proofs.Ytkocdmkojoefoaa
open Go.RowKit
set_option linter.unusedVariables false
set_option maxRecDepth 20000

theorem text_take : ∀ (m : Nat) (l : List Int), l.length ≤ m → (textR l).2 ≠ 0 → textR (l.take (textR l).2) = textR l := by
  intro m
  induction m with
  | zero =>
    intro l h hn
    have : l = [] := List.eq_nil_of_length_eq_zero (by omega)
    subst this
    rw [textR.eq_def] at hn
    exact absurd rfl hn
  | succ m ih =>
    intro l h hn
    match l with
    | [] => rw [textR.eq_def] at hn; exact absurd rfl hn
    | c :: l =>
      simp only [List.length_cons] at h
      by_cases h1 : c = 34
      · have e : textR (c :: l) = ([], 1) := by rw [text_cons, if_pos h1]
        rw [e]
        show textR (c :: List.take 0 l) = _
        rw [text_cons, if_pos h1]
      by_cases h2 : c < 32
      · have e : textR (c :: l) = ([], 0) := by rw [text_cons, if_neg h1, if_pos h2]
        rw [e] at hn; exact absurd rfl hn
      by_cases h3 : c = 92
      · match l with
        | [] =>
          have e : textR (c :: []) = ([], 0) := by rw [text_cons, if_neg h1, if_neg h2, if_pos h3]
          rw [e] at hn; exact absurd rfl hn
        | d :: l2 =>
          simp only [List.length_cons] at h
          have e : ∀ r2 : List Int, textR (c :: d :: r2) = if d = 34 ∨ d = 92 then (if (textR r2).2 = 0 then ([], 0) else (d :: (textR r2).1, (textR r2).2 + 2)) else if d = 110 then (if (textR r2).2 = 0 then ([], 0) else (10 :: (textR r2).1, (textR r2).2 + 2)) else ([], 0) := fun r2 => by
            rw [text_cons, if_neg h1, if_neg h2, if_pos h3]
          have h4 : (textR l2).2 ≠ 0 := fun h4 => by
            rw [e, if_pos h4, if_pos h4] at hn
            revert hn
            repeat' split
            all_goals first | (simp; done) | (intro hh; exact absurd rfl hh)
          have i1 := ih l2 (by omega) h4
          have e2 : (textR (c :: d :: l2)).2 = (textR l2).2 + 2 := by
            rw [e] at hn ⊢
            by_cases g1 : d = 34 ∨ d = 92
            · rw [if_pos g1, if_neg h4]
            · rw [if_neg g1] at hn ⊢
              by_cases g2 : d = 110
              · rw [if_pos g2, if_neg h4]
              · rw [if_neg g2] at hn; exact absurd rfl hn
          rw [e2]
          show textR (c :: d :: l2.take (textR l2).2) = _
          rw [e, e, i1]
      · have e : ∀ r : List Int, textR (c :: r) = if (textR r).2 = 0 then ([], 0) else (c :: (textR r).1, (textR r).2 + 1) := fun r => by
          rw [text_cons, if_neg h1, if_neg h2, if_neg h3]
        have h4 : (textR l).2 ≠ 0 := fun h4 => by
          rw [e, if_pos h4] at hn
          exact hn rfl
        have i1 := ih l (by omega) h4
        have e2 : (textR (c :: l)).2 = (textR l).2 + 1 := by rw [e, if_neg h4]
        rw [e2]
        show textR (c :: l.take (textR l).2) = _
        rw [e, e, i1]
theorem tw_tw {α : Type} (p : α → Bool) (l : List α) : (l.takeWhile p).takeWhile p = l.takeWhile p := by
  induction l with
  | nil => rfl
  | cons c l ih =>
    rw [List.takeWhile_cons]
    split
    · rename_i h
      rw [List.takeWhile_cons, if_pos h, ih]
    · rfl
theorem tw_mem {α : Type} {p : α → Bool} (l : List α) {z : α} (h : z ∈ l.takeWhile p) : p z = true := by
  induction l with
  | nil => simp at h
  | cons c l ih =>
    rw [List.takeWhile_cons] at h
    split at h
    · rename_i hc
      rcases List.mem_cons.1 h with rfl | h
      · exact hc
      · exact ih h
    · simp at h
theorem run_take (m : Int) (l : List Int) : runR m (l.take (runR m l).length) = runR m l := by
  have e : l.take (runR m l).length = runR m l := (List.prefix_iff_eq_take.1 (List.takeWhile_prefix _)).symm
  rw [e]
  exact tw_tw _ _
theorem sign_take (l : List Int) : signN (l.take (signN l)) = signN l := by
  match l with
  | [] => rfl
  | [c] =>
    by_cases h : sign1 c = true
    · have e : signN [c] = 1 := by show (if sign1 c = true then 1 else 0) = 1; rw [if_pos h]
      rw [e]; exact e
    · have e : signN [c] = 0 := by show (if sign1 c = true then 1 else 0) = 0; rw [if_neg h]
      rw [e]; rfl
  | c :: d :: l =>
    have e : ∀ r : List Int, signN (c :: d :: r) = if sign2 c d = true then 2 else if sign1 c = true then 1 else 0 := fun r => rfl
    by_cases h2 : sign2 c d = true
    · have e2 : signN (c :: d :: l) = 2 := by rw [e, if_pos h2]
      rw [e2]
      show signN (c :: d :: List.take 0 l) = 2
      rw [e, if_pos h2]
    · by_cases h1 : sign1 c = true
      · have e2 : signN (c :: d :: l) = 1 := by rw [e, if_neg h2, if_pos h1]
        rw [e2]
        show (if sign1 c = true then 1 else 0) = 1
        rw [if_pos h1]
      · have e2 : signN (c :: d :: l) = 0 := by rw [e, if_neg h2, if_neg h1]
        rw [e2]; rfl
/-- A token's own bytes are read as it. -/
theorem tok_take (c : Int) (l : List Int) (hn : (tokR (c :: l)).1.2.2.2 ≠ 0) : tokR ((c :: l).take (tokR (c :: l)).1.2.2.2) = tokR (c :: l) := by
  have hd : ∀ n : Nat, n ≠ 0 → ((c :: l).take n).getD 0 0 = c := fun n h => by
    cases n with
    | zero => exact absurd rfl h
    | succ n => rfl
  have e0 : (c :: l).getD 0 0 = c := rfl
  unfold tokR at hn ⊢
  rw [e0] at hn ⊢
  by_cases g1 : digB c = true
  · rw [if_pos g1] at hn
    rw [if_pos g1, if_pos (by rw [hd _ hn]; exact g1)]
    have hnum : (numR (c :: l)).2.2.2 = (runR 46 (c :: l)).length := by
      have hn' : (numR (c :: l)).2.2.2 ≠ 0 := hn
      unfold numR at hn' ⊢
      split
      · rfl
      · rename_i h
        rw [if_neg h] at hn'
        split
        · rfl
        · rename_i h2
          rw [if_neg h2] at hn'
          exact absurd rfl hn'
    have e : numR ((c :: l).take (runR 46 (c :: l)).length) = numR (c :: l) := by unfold numR; rw [run_take]
    show (numR ((c :: l).take (numR (c :: l)).2.2.2), _) = _
    rw [hnum, e]
  rw [if_neg g1] at hn
  rw [if_neg g1]
  by_cases g2 : letB c = true ∨ c = 58
  · rw [if_pos g2] at hn
    rw [if_pos g2, if_neg (by rw [hd _ hn]; exact g1), if_pos (by rw [hd _ hn]; exact g2)]
    show (wordR ((c :: l).take (runR 58 (c :: l)).length), _) = _
    unfold wordR
    rw [run_take]
  rw [if_neg g2] at hn
  rw [if_neg g2]
  by_cases g3 : c = 34
  · rw [if_pos g3] at hn
    rw [if_pos g3, if_neg (by rw [hd _ hn]; exact g1), if_neg (by rw [hd _ hn]; exact g2), if_pos (by rw [hd _ hn]; exact g3)]
    have ht : (textR ((c :: l).drop 1)).2 ≠ 0 := fun h => by
      unfold txtR at hn
      rw [if_pos h] at hn
      exact hn rfl
    have e1 : (txtR (c :: l)).2.2.2 = (textR l).2 + 1 := by
      unfold txtR
      rw [if_neg ht]
      rfl
    show (txtR ((c :: l).take (txtR (c :: l)).2.2.2), _) = _
    rw [e1]
    have e2 : textR (((c :: l).take ((textR l).2 + 1)).drop 1) = textR ((c :: l).drop 1) := by
      show textR (l.take (textR l).2) = textR l
      exact text_take _ l (Nat.le_refl _) ht
    unfold txtR
    rw [e2]
  · rw [if_neg g3] at hn
    rw [if_neg g3, if_neg (by rw [hd _ hn]; exact g1), if_neg (by rw [hd _ hn]; exact g2), if_neg (by rw [hd _ hn]; exact g3)]
    have hs : signN (c :: l) ≠ 0 := fun h => by
      unfold sgnR at hn
      rw [if_pos h] at hn
      exact hn rfl
    have e1 : (sgnR (c :: l)).2.2.2 = signN (c :: l) := by unfold sgnR; rw [if_neg hs]
    show (sgnR ((c :: l).take (sgnR (c :: l)).2.2.2), _) = _
    rw [e1]
    unfold sgnR
    rw [sign_take, List.take_take, Nat.min_self]
theorem text_last : ∀ (m : Nat) (l : List Int), l.length ≤ m → (textR l).2 ≠ 0 → l.getD ((textR l).2 - 1) 0 = 34 := by
  intro m
  induction m with
  | zero =>
    intro l h hn
    have : l = [] := List.eq_nil_of_length_eq_zero (by omega)
    subst this
    rw [textR.eq_def] at hn
    exact absurd rfl hn
  | succ m ih =>
    intro l h hn
    match l with
    | [] => rw [textR.eq_def] at hn; exact absurd rfl hn
    | c :: l =>
      simp only [List.length_cons] at h
      by_cases h1 : c = 34
      · have e : textR (c :: l) = ([], 1) := by rw [text_cons, if_pos h1]
        rw [e]
        exact h1
      by_cases h2 : c < 32
      · have e : textR (c :: l) = ([], 0) := by rw [text_cons, if_neg h1, if_pos h2]
        rw [e] at hn; exact absurd rfl hn
      by_cases h3 : c = 92
      · match l with
        | [] =>
          have e : textR (c :: []) = ([], 0) := by rw [text_cons, if_neg h1, if_neg h2, if_pos h3]
          rw [e] at hn; exact absurd rfl hn
        | d :: l2 =>
          simp only [List.length_cons] at h
          have e : textR (c :: d :: l2) = if d = 34 ∨ d = 92 then (if (textR l2).2 = 0 then ([], 0) else (d :: (textR l2).1, (textR l2).2 + 2)) else if d = 110 then (if (textR l2).2 = 0 then ([], 0) else (10 :: (textR l2).1, (textR l2).2 + 2)) else ([], 0) := by
            rw [text_cons, if_neg h1, if_neg h2, if_pos h3]
          have h4 : (textR l2).2 ≠ 0 := fun h4 => by
            rw [e, if_pos h4, if_pos h4] at hn
            revert hn
            repeat' split
            all_goals first | (simp; done) | (intro hh; exact absurd rfl hh)
          have i1 := ih l2 (by omega) h4
          have e2 : (textR (c :: d :: l2)).2 = (textR l2).2 + 2 := by
            rw [e] at hn ⊢
            by_cases g1 : d = 34 ∨ d = 92
            · rw [if_pos g1, if_neg h4]
            · rw [if_neg g1] at hn ⊢
              by_cases g2 : d = 110
              · rw [if_pos g2, if_neg h4]
              · rw [if_neg g2] at hn; exact absurd rfl hn
          rw [e2]
          obtain ⟨q, hq⟩ : ∃ q, (textR l2).2 = q + 1 := ⟨(textR l2).2 - 1, by omega⟩
          rw [hq] at i1 ⊢
          exact i1
      · have e : textR (c :: l) = if (textR l).2 = 0 then ([], 0) else (c :: (textR l).1, (textR l).2 + 1) := by
          rw [text_cons, if_neg h1, if_neg h2, if_neg h3]
        have h4 : (textR l).2 ≠ 0 := fun h4 => by
          rw [e, if_pos h4] at hn
          exact hn rfl
        have i1 := ih l (by omega) h4
        have e2 : (textR (c :: l)).2 = (textR l).2 + 1 := by rw [e, if_neg h4]
        rw [e2]
        obtain ⟨q, hq⟩ : ∃ q, (textR l).2 = q + 1 := ⟨(textR l).2 - 1, by omega⟩
        rw [hq] at i1 ⊢
        exact i1
theorem run_last (m : Int) (l : List Int) (h : (runR m l).length ≠ 0) : runB m (l.getD ((runR m l).length - 1) 0) = true := by
  have hp : RunAt (runB m) l (runR m l).length := by
    have e : l.take (runR m l).length = runR m l := (List.prefix_iff_eq_take.1 (List.takeWhile_prefix _)).symm
    refine ⟨run_len m l, ?_⟩
    rw [e]
    unfold runR
    rw [List.all_eq_true]
    intro z hz
    exact tw_mem _ hz
  exact hp.at _ (by omega)
theorem run_nb {m c : Int} (hm : m = 46 ∨ m = 58) (h : runB m c = true) : blankB c = false := by
  cases hb : blankB c with
  | false => rfl
  | true =>
    have := blank_run hb
    rcases hm with rfl | rfl
    · rw [this.1] at h; cases h
    · rw [this.2] at h; cases h
/-- The last byte of a token is no blank. -/
theorem tok_last (c : Int) (l : List Int) (hn : (tokR (c :: l)).1.2.2.2 ≠ 0) : blankB ((c :: l).getD ((tokR (c :: l)).1.2.2.2 - 1) 0) = false := by
  have e0 : (c :: l).getD 0 0 = c := rfl
  unfold tokR at hn ⊢
  rw [e0] at hn ⊢
  by_cases g1 : digB c = true
  · rw [if_pos g1] at hn ⊢
    have hnum : (numR (c :: l)).2.2.2 = (runR 46 (c :: l)).length := by
      have hn' : (numR (c :: l)).2.2.2 ≠ 0 := hn
      unfold numR at hn' ⊢
      split
      · rfl
      · rename_i h
        rw [if_neg h] at hn'
        split
        · rfl
        · rename_i h2
          rw [if_neg h2] at hn'
          exact absurd rfl hn'
    have hn' : (numR (c :: l)).2.2.2 ≠ 0 := hn
    show blankB ((c :: l).getD ((numR (c :: l)).2.2.2 - 1) 0) = false
    rw [hnum] at hn' ⊢
    exact run_nb (.inl rfl) (run_last 46 _ hn')
  rw [if_neg g1] at hn ⊢
  by_cases g2 : letB c = true ∨ c = 58
  · rw [if_pos g2] at hn ⊢
    exact run_nb (.inr rfl) (run_last 58 _ hn)
  rw [if_neg g2] at hn ⊢
  by_cases g3 : c = 34
  · rw [if_pos g3] at hn ⊢
    have ht : (textR ((c :: l).drop 1)).2 ≠ 0 := fun h => by
      unfold txtR at hn
      rw [if_pos h] at hn
      exact hn rfl
    have e1 : (txtR (c :: l)).2.2.2 = (textR l).2 + 1 := by
      unfold txtR
      rw [if_neg ht]
      rfl
    show blankB ((c :: l).getD ((txtR (c :: l)).2.2.2 - 1) 0) = false
    rw [e1]
    have h34 := text_last _ l (Nat.le_refl _) ht
    obtain ⟨q, hq⟩ : ∃ q, (textR l).2 = q + 1 := ⟨(textR l).2 - 1, by have h : (textR l).2 ≠ 0 := ht; omega⟩
    rw [hq] at h34 ⊢
    have : (c :: l).getD (q + 1 + 1 - 1) 0 = 34 := h34
    rw [this]
    decide
  · rw [if_neg g3] at hn ⊢
    have hs : signN (c :: l) ≠ 0 := fun h => by
      unfold sgnR at hn
      rw [if_pos h] at hn
      exact hn rfl
    have e1 : (sgnR (c :: l)).2.2.2 = signN (c :: l) := by unfold sgnR; rw [if_neg hs]
    show blankB ((c :: l).getD ((sgnR (c :: l)).2.2.2 - 1) 0) = false
    rw [e1]
    have one : sign1 c = true → blankB c = false := fun h => by
      cases hb : blankB c with
      | false => rfl
      | true => rcases blank_in hb with rfl | rfl | rfl | rfl <;> revert h <;> decide
    match l with
    | [] =>
      have hs1 : sign1 c = true := by
        cases h : sign1 c with
        | true => rfl
        | false => exact absurd (show signN [c] = 0 by show (if sign1 c = true then 1 else 0) = 0; rw [h]; rfl) hs
      have e : signN [c] = 1 := by show (if sign1 c = true then 1 else 0) = 1; rw [if_pos hs1]
      rw [e]
      exact one hs1
    | d :: l =>
      have e : signN (c :: d :: l) = if sign2 c d = true then 2 else if sign1 c = true then 1 else 0 := rfl
      by_cases h2 : sign2 c d = true
      · have e2 : signN (c :: d :: l) = 2 := by rw [e, if_pos h2]
        rw [e2]
        show blankB d = false
        unfold sign2 at h2
        simp only [Bool.or_eq_true, decide_eq_true_eq, or_assoc] at h2
        rcases h2 with ⟨_, rfl⟩ | ⟨_, rfl⟩ | ⟨_, rfl⟩ | ⟨_, rfl⟩ | ⟨_, rfl⟩ | ⟨_, rfl⟩ <;> decide
      · by_cases h1 : sign1 c = true
        · have e2 : signN (c :: d :: l) = 1 := by rw [e, if_neg h2, if_pos h1]
          rw [e2]
          exact one h1
        · exact absurd (by rw [e, if_neg h2, if_neg h1]) hs
/-- The tokens of a text, each with its bytes. -/
inductive Ch (L : List Int) : List Tok → Prop where
  | fin : Ch L [(0, (L.length : Int), ⟨#[]⟩, 0)]
  | tok (p n : Nat) (kd sp c : Int) (t : ByteArray) (u : Tok) (us : List Tok) (q : Nat) : tokR (L.drop p) = ((kd, t, sp, n), c) → n ≠ 0 → p + n ≤ q → q ≤ L.length → u.2.1 = (q : Int) → blankB (L.getD p 0) = false → (∀ i, p + n ≤ i → i < q → blankB (L.getD i 0) = true) → Ch L (u :: us) → Ch L ((kd, (p : Int), t, sp) :: u :: us)
theorem lex_ch (L : List Int) : ∀ (m at_ : Nat) (ts : List Tok), L.length - at_ ≤ m → at_ ≤ L.length → lexL at_ (L.drop at_) = .ok ts → Ch L ts ∧ ∃ (q : Nat) (u : Tok) (us : List Tok), ts = u :: us ∧ u.2.1 = (q : Int) ∧ at_ ≤ q ∧ q ≤ L.length ∧ ∀ i, at_ ≤ i → i < q → blankB (L.getD i 0) = true := by
  intro m
  induction m with
  | zero =>
    intro at_ ts h hl e
    rw [List.drop_eq_nil_of_le (by omega), lexL] at e
    cases e
    have : at_ = L.length := by omega
    subst this
    exact ⟨.fin, L.length, _, _, rfl, rfl, Nat.le_refl _, Nat.le_refl _, fun i h1 h2 => by omega⟩
  | succ m ih =>
    intro at_ ts h hl e
    by_cases hlt : at_ < L.length
    · have ed := drop_cons L at_ hlt
      rw [ed, lexL, ← ed] at e
      by_cases hb : blankB (L.getD at_ 0) = true
      · rw [if_pos hb] at e
        obtain ⟨h1, q, u, us, h2, h3, h4, h5, h6⟩ := ih (at_ + 1) ts (by omega) hlt e
        refine ⟨h1, q, u, us, h2, h3, by omega, h5, fun i hi1 hi2 => ?_⟩
        by_cases hi : i = at_
        · rw [hi]; exact hb
        · exact h6 i (by omega) hi2
      · rw [if_neg hb] at e
        have hlen := tok_len (L.drop at_) (by rw [List.length_drop]; omega)
        rw [List.length_drop] at hlen
        by_cases hn : (tokR (L.drop at_)).1.2.2.2 = 0
        · rw [if_pos hn] at e; cases e
        · rw [if_neg hn, List.drop_drop] at e
          generalize hX : tokR (L.drop at_) = X at e hn hlen
          obtain ⟨⟨kd, t, sp, n⟩, code⟩ := X
          simp only at e hn hlen
          rw [show at_ + 1 + (n - 1) = at_ + n by omega] at e
          cases h2 : lexL (at_ + n) (L.drop (at_ + n)) with
          | bad p d => rw [h2] at e; cases e
          | ok vs =>
            rw [h2] at e
            cases e
            obtain ⟨h1, q, u, us, rfl, h3, h4, h5, h6⟩ := ih (at_ + n) vs (by omega) (by omega) h2
            exact ⟨.tok at_ n kd sp code t u us q hX hn h4 h5 h3 (by simpa using hb) h6 h1, at_, _, _, rfl, rfl, Nat.le_refl _, hl, fun i h1 h2 => by omega⟩
    · rw [List.drop_eq_nil_of_le (by omega), lexL] at e
      cases e
      have : at_ = L.length := by omega
      subst this
      exact ⟨.fin, L.length, _, _, rfl, rfl, Nat.le_refl _, Nat.le_refl _, fun i h1 h2 => by omega⟩
end Go.Proofs.Ytkocdmkojoefoaa
