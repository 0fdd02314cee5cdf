/- What a query's tokens are like. -/
import Derived.Test.YtnimdngiejcljaaPa
namespace Go.Proofs.Ytnimdngiejcljaa
open Go.RowKit
set_option linter.unusedVariables false
set_option linter.unusedSimpArgs false
set_option maxRecDepth 20000

/-- A token that is no end, within those places. -/
def TokIn (a b : Int) (q : Tok) : Prop := q.1 ≠ 0 ∧ a ≤ q.2.1 ∧ q.2.1 < b
theorem tok_kind {l : List Int} (h : (tokR l).1.2.2.2 ≠ 0) : (tokR l).1.1 ≠ 0 := by
  unfold tokR at h ⊢
  split at h
  · rename_i hd
    rw [if_pos hd]
    unfold numR at h ⊢
    split at h
    · rename_i h1; rw [if_pos h1]; show (2 : Int) ≠ 0; decide
    · rename_i h1
      rw [if_neg h1]
      split at h
      · rename_i h2; rw [if_pos h2]; show (1 : Int) ≠ 0; decide
      · exact absurd rfl h
  · rename_i hd
    rw [if_neg hd]
    split at h
    · rename_i h1; rw [if_pos h1]; show (3 : Int) ≠ 0; decide
    · rename_i h1
      rw [if_neg h1]
      split at h
      · rename_i h2
        rw [if_pos h2]
        unfold txtR at h ⊢
        split at h
        · exact absurd rfl h
        · rename_i h3; rw [if_neg h3]; show (4 : Int) ≠ 0; decide
      · rename_i h2
        rw [if_neg h2]
        unfold sgnR at h ⊢
        split at h
        · exact absurd rfl h
        · rename_i h3; rw [if_neg h3]; show (5 : Int) ≠ 0; decide
theorem tok_code {c : Int} {r : List Int} (h : (tokR (c :: r)).1.2.2.2 = 0) : 171 ≤ (tokR (c :: r)).2 ∧ (tokR (c :: r)).2 ≤ 173 := by
  unfold tokR at h ⊢
  split
  · show (171 : Int) ≤ 171 + 1 ∧ (171 + 1 : Int) ≤ 173; decide
  · rename_i hd
    rw [if_neg hd] at h
    split
    · rename_i h1
      rw [if_pos h1] at h
      exfalso
      unfold wordR runR at h
      have hc : runB 58 c = true := by
        simp only [List.getD_cons_zero] at h1
        unfold runB
        rcases h1 with h1 | h1
        · rw [h1]; simp
        · subst h1; decide
      rw [List.takeWhile_cons, if_pos hc] at h
      simp at h
    · split
      · show (171 : Int) ≤ 173 ∧ (173 : Int) ≤ 173; decide
      · show (171 : Int) ≤ 171 ∧ (171 : Int) ≤ 173; decide
theorem lexL_toks : ∀ (n at_ : Nat) (l : List Int) (ts : List Tok), l.length ≤ n → lexL at_ l = .ok ts → ∃ us, ts = us ++ [(0, ((at_ + l.length : Nat) : Int), ⟨#[]⟩, 0)] ∧ (∀ q ∈ us, TokIn (at_ : Int) ((at_ + l.length : Nat) : Int) q) ∧ us.length ≤ l.length := by
  intro n
  induction n with
  | zero =>
    intro at_ l ts hl h
    obtain rfl : l = [] := List.eq_nil_of_length_eq_zero (by omega)
    rw [lexL] at h
    cases h
    exact ⟨[], rfl, by simp, by simp⟩
  | succ n ih =>
    intro at_ l ts hl h
    cases l with
    | nil =>
      rw [lexL] at h
      cases h
      exact ⟨[], rfl, by simp, by simp⟩
    | cons c r =>
      simp only [List.length_cons] at hl
      rw [lexL] at h
      split at h
      · obtain ⟨us, e, hu, hn⟩ := ih _ r ts (by omega) h
        refine ⟨us, ?_, fun q hq => ?_, by simp only [List.length_cons]; omega⟩
        · rw [e, List.length_cons]; congr 4; omega
        · obtain ⟨h1, h2, h3⟩ := hu q hq
          simp only [List.length_cons]
          exact ⟨h1, by omega, by omega⟩
      · rename_i hb
        split at h
        · cases h
        · rename_i hn0
          cases hx : lexL (at_ + (tokR (c :: r)).1.2.2.2) (r.drop ((tokR (c :: r)).1.2.2.2 - 1)) with
          | bad p q => rw [hx] at h; cases h
          | ok us =>
            rw [hx] at h
            cases h
            have hle := tok_len (c :: r) (by simp)
            simp only [List.length_cons] at hle
            obtain ⟨vs, e, hu, hn⟩ := ih _ _ us (by rw [List.length_drop]; omega) hx
            rw [List.length_drop] at e hu hn
            refine ⟨((tokR (c :: r)).1.1, (at_ : Int), (tokR (c :: r)).1.2.1, (tokR (c :: r)).1.2.2.1) :: vs, ?_, fun q hq => ?_, by simp only [List.length_cons]; omega⟩
            · rw [e, List.cons_append, List.length_cons]; congr 5; omega
            · simp only [List.length_cons]
              rcases List.mem_cons.1 hq with rfl | hq
              · exact ⟨tok_kind hn0, Int.le_refl _, by show (at_ : Int) < _; omega⟩
              · obtain ⟨h1, h2, h3⟩ := hu q hq
                exact ⟨h1, by omega, by omega⟩
theorem lexL_bad : ∀ (n at_ : Nat) (l : List Int) (p : Nat) (c : Int), l.length ≤ n → lexL at_ l = .bad p c → 171 ≤ c ∧ c ≤ 173 := by
  intro n
  induction n with
  | zero =>
    intro at_ l p c hl h
    obtain rfl : l = [] := List.eq_nil_of_length_eq_zero (by omega)
    rw [lexL] at h
    cases h
  | succ n ih =>
    intro at_ l p c hl h
    cases l with
    | nil => rw [lexL] at h; cases h
    | cons d r =>
      simp only [List.length_cons] at hl
      rw [lexL] at h
      split at h
      · exact ih _ r p c (by omega) h
      · split at h
        · rename_i hn
          cases h
          exact tok_code hn
        · cases hx : lexL (at_ + (tokR (d :: r)).1.2.2.2) (r.drop ((tokR (d :: r)).1.2.2.2 - 1)) with
          | ok us => rw [hx] at h; cases h
          | bad p q =>
            rw [hx] at h
            cases h
            exact ih _ _ _ _ (by rw [List.length_drop]; omega) hx
theorem lexR_bad {s : ByteArray} {p : Nat} {c : Int} (h : lexR s = .bad p c) : c ≠ 0 ∧ 170 ≤ c ∧ c ≤ 173 := by
  unfold lexR at h
  split at h
  · cases h; decide
  · have := lexL_bad _ 0 (sInts s) p c (Nat.le_refl _) h
    exact ⟨by omega, by omega, by omega⟩
/-- What the tokens of a text are. -/
structure Toks (s : ByteArray) (ts : List Tok) : Prop where
  ex : ∃ us, ts = us ++ [(0, (s.size : Int), ⟨#[]⟩, 0)] ∧ (∀ q ∈ us, TokIn 0 (s.size : Int) q) ∧ us.length ≤ s.size ∧ s.size ≤ 4096
theorem lexR_toks {s : ByteArray} {ts : List Tok} (h : lexR s = .ok ts) : Toks s ts := by
  unfold lexR at h
  split at h
  · cases h
  · rename_i hs
    obtain ⟨us, e, hu, hn⟩ := lexL_toks _ 0 (sInts s) ts (Nat.le_refl _) h
    rw [sInts_len] at e hu hn
    simp only [Nat.zero_add] at e hu
    exact ⟨us, e, hu, hn, by omega⟩
theorem endL_app (us : List Tok) (z : Tok) (h : z.1 = 0) : EndL (us ++ [z]) := by
  induction us with
  | nil => exact h
  | cons u r ih =>
    cases r with
    | nil => exact h
    | cons v r => exact ih
theorem lexR_end {s : ByteArray} {ts : List Tok} (h : lexR s = .ok ts) : EndL ts ∧ ts.length ≤ 4097 := by
  obtain ⟨us, e, hu, hn, hs⟩ := (lexR_toks h).ex
  subst e
  exact ⟨endL_app us _ rfl, by rw [List.length_append, List.length_singleton]; omega⟩
end Go.Proofs.Ytnimdngiejcljaa
