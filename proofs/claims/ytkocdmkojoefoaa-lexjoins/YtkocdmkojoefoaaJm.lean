/- Two texts with a blank between: the tokens of both. -/
import Derived.Test.YtkocdmkojoefoaaTm
namespace Go.Proofs.Ytkocdmkojoefoaa
open Go.RowKit
set_option linter.unusedVariables false
set_option maxRecDepth 20000

theorem blank_run {g : Int} (h : blankB g = true) : runB 46 g = false ∧ runB 58 g = false := by
  rcases blank_in h with rfl | rfl | rfl | rfl <;> decide
theorem run_app {m g : Int} (hg : runB m g = false) (l r : List Int) : runR m (l ++ g :: r) = runR m l := by
  unfold runR
  induction l with
  | nil => rw [List.nil_append, List.takeWhile_cons, hg]; simp
  | cons c l ih =>
    rw [List.cons_append, List.takeWhile_cons, List.takeWhile_cons]
    split
    · rw [ih]
    · rfl
theorem text_app (r : List Int) : ∀ (m : Nat) (l : List Int), l.length ≤ m → (textR l).2 ≠ 0 → textR (l ++ r) = textR l := by
  intro m
  induction m with
  | zero =>
    intro l h hn
    have : l = [] := List.eq_nil_of_length_eq_zero (by omega)
    subst this
    rw [textR.eq_def] at hn
    exact absurd rfl hn
  | succ m ih =>
    intro l h hn
    match l with
    | [] => rw [textR.eq_def] at hn; exact absurd rfl hn
    | c :: l =>
      simp only [List.length_cons] at h
      rw [List.cons_append, text_cons, text_cons]
      rw [text_cons] at hn
      by_cases h1 : c = 34
      · rw [if_pos h1, if_pos h1]
      rw [if_neg h1, if_neg h1]
      rw [if_neg h1] at hn
      by_cases h2 : c < 32
      · rw [if_pos h2, if_pos h2]
      rw [if_neg h2, if_neg h2]
      rw [if_neg h2] at hn
      by_cases h3 : c = 92
      · rw [if_pos h3, if_pos h3]
        rw [if_pos h3] at hn
        match l with
        | [] => exact absurd rfl hn
        | d :: l2 =>
          simp only [List.length_cons] at h
          simp only [] at hn
          simp only [List.cons_append]
          by_cases h4 : (textR l2).2 = 0
          · rw [h4] at hn
            exfalso
            revert hn
            repeat' split
            all_goals first | (simp; done) | (rename_i hh; exact absurd rfl hh)
          · rw [ih l2 (by omega) h4]
      · rw [if_neg h3, if_neg h3]
        rw [if_neg h3] at hn
        by_cases h4 : (textR l).2 = 0
        · rw [if_pos h4] at hn; exact absurd rfl hn
        · rw [ih l (by omega) h4]
theorem sign_app {g : Int} (hg : blankB g = true) (c : Int) (l r : List Int) : signN (c :: l ++ g :: r) = signN (c :: l) := by
  match l with
  | [] =>
    show signN (c :: g :: r) = signN [c]
    have h2 : sign2 c g = false := by
      unfold sign2
      rcases blank_in hg with rfl | rfl | rfl | rfl <;> simp
    show (if sign2 c g = true then 2 else if sign1 c = true then 1 else 0) = (if sign1 c = true then 1 else 0)
    rw [h2]
    rfl
  | d :: l => rfl
theorem tok_app {g : Int} (hg : blankB g = true) (c : Int) (l r : List Int) (hn : (tokR (c :: l)).1.2.2.2 ≠ 0) : tokR (c :: l ++ g :: r) = tokR (c :: l) := by
  obtain ⟨h1, h2⟩ := blank_run hg
  have eN : numR (c :: l ++ g :: r) = numR (c :: l) := by unfold numR; rw [run_app h1]
  have eW : wordR (c :: l ++ g :: r) = wordR (c :: l) := by unfold wordR; rw [run_app h2]
  unfold tokR at hn ⊢
  have e0 : (c :: l ++ g :: r).getD 0 0 = (c :: l).getD 0 0 := rfl
  rw [e0, eN, eW]
  by_cases g1 : digB ((c :: l).getD 0 0) = true
  · rw [if_pos g1, if_pos g1]
  rw [if_neg g1, if_neg g1]
  rw [if_neg g1] at hn
  by_cases g2 : letB ((c :: l).getD 0 0) = true ∨ (c :: l).getD 0 0 = 58
  · rw [if_pos g2, if_pos g2]
  rw [if_neg g2, if_neg g2]
  rw [if_neg g2] at hn
  by_cases g3 : (c :: l).getD 0 0 = 34
  · rw [if_pos g3, if_pos g3]
    rw [if_pos g3] at hn
    have ht : (textR ((c :: l).drop 1)).2 ≠ 0 := fun h => by
      unfold txtR at hn
      rw [if_pos h] at hn
      exact hn rfl
    have e : textR ((c :: l ++ g :: r).drop 1) = textR ((c :: l).drop 1) := text_app (g :: r) _ l (Nat.le_refl _) ht
    unfold txtR
    rw [e]
  · rw [if_neg g3, if_neg g3]
    unfold sgnR
    rw [sign_app hg]
    have hs := sign_len (c :: l)
    rw [List.take_append_of_le_length hs]
theorem ne_len {ts : List Tok} (h : 1 ≤ ts.length) : ts ≠ [] := fun e => by rw [e] at h; simp at h
theorem lex_app {g : Int} (hg : blankB g = true) (r : List Int) : ∀ (m at_ : Nat) (l : List Int) (ts : List Tok), l.length ≤ m → lexL at_ l = .ok ts → lexL at_ (l ++ g :: r) = Lx.cat ts.dropLast (lexL (at_ + l.length + 1) r) := by
  intro m
  induction m with
  | zero =>
    intro at_ l ts h e
    have : l = [] := List.eq_nil_of_length_eq_zero (by omega)
    subst this
    rw [lexL] at e
    cases e
    rw [List.nil_append, lexL, if_pos hg]
    exact (cat_nil _).symm
  | succ m ih =>
    intro at_ l ts h e
    match l with
    | [] =>
      rw [lexL] at e
      cases e
      rw [List.nil_append, lexL, if_pos hg]
      exact (cat_nil _).symm
    | c :: l =>
      simp only [List.length_cons] at h
      rw [lexL] at e
      rw [List.cons_append, lexL]
      by_cases hb : blankB c = true
      · rw [if_pos hb] at e ⊢
        rw [ih _ l ts (by omega) e, List.length_cons]
        congr 2
        omega
      · rw [if_neg hb] at e ⊢
        by_cases hn : (tokR (c :: l)).1.2.2.2 = 0
        · rw [if_pos hn] at e; cases e
        · rw [if_neg hn] at e
          have ht := tok_app hg c l r hn
          have hlen := tok_len (c :: l) (by simp)
          rw [List.cons_append] at ht
          rw [ht, if_neg hn]
          generalize tokR (c :: l) = X at e hn hlen ⊢
          obtain ⟨⟨kd, t, sp, n⟩, code⟩ := X
          simp only at e hn hlen ⊢
          simp only [List.length_cons] at hlen
          cases h2 : lexL (at_ + n) (l.drop (n - 1)) with
          | bad p d => rw [h2] at e; cases e
          | ok us =>
            rw [h2] at e
            cases e
            have hus := (lex_len _ _ _ us (Nat.le_refl _) h2).1
            have i1 := ih (at_ + n) (l.drop (n - 1)) us (by rw [List.length_drop]; omega) h2
            rw [List.drop_append_of_le_length (by omega), i1, List.length_drop, List.length_cons]
            have ed : (((kd, (at_ : Int), t, sp) : Tok) :: us).dropLast = (kd, (at_ : Int), t, sp) :: us.dropLast := by
              cases us with
              | nil => exact absurd rfl (ne_len hus)
              | cons u us => rfl
            rw [ed]
            rw [show at_ + n + (l.length - (n - 1)) + 1 = at_ + (l.length + 1) + 1 by omega]
            cases lexL (at_ + (l.length + 1) + 1) r with
            | ok vs => rfl
            | bad p d => rfl
def shT (k : Nat) (t : Tok) : Tok := (t.1, t.2.1 + (k : Int), t.2.2.1, t.2.2.2)
def Lx.sh (k : Nat) : Lx → Lx
  | .ok ts => .ok (ts.map (shT k))
  | .bad p c => .bad (p + k) c
theorem lex_shift (k : Nat) : ∀ (m at_ : Nat) (l : List Int), l.length ≤ m → lexL (at_ + k) l = (lexL at_ l).sh k := by
  intro m
  induction m with
  | zero =>
    intro at_ l h
    have : l = [] := List.eq_nil_of_length_eq_zero (by omega)
    subst this
    rw [lexL, lexL]
    simp [Lx.sh, shT]
  | succ m ih =>
    intro at_ l h
    match l with
    | [] => rw [lexL, lexL]; simp [Lx.sh, shT]
    | c :: l =>
      simp only [List.length_cons] at h
      rw [lexL, lexL]
      by_cases hb : blankB c = true
      · rw [if_pos hb, if_pos hb, ← ih _ l (by omega), show at_ + k + 1 = at_ + 1 + k by omega]
      · rw [if_neg hb, if_neg hb]
        by_cases hn : (tokR (c :: l)).1.2.2.2 = 0
        · rw [if_pos hn, if_pos hn]; rfl
        · rw [if_neg hn, if_neg hn]
          rw [show at_ + k + (tokR (c :: l)).1.2.2.2 = at_ + (tokR (c :: l)).1.2.2.2 + k by omega, ih _ _ (by rw [List.length_drop]; omega)]
          cases lexL (at_ + (tokR (c :: l)).1.2.2.2) (l.drop ((tokR (c :: l)).1.2.2.2 - 1)) with
          | bad p d => rfl
          | ok us => simp [Lx.sh, Lx.cons, shT]
theorem tok_code (c : Int) (l : List Int) (hn : (tokR (c :: l)).1.2.2.2 = 0) : (tokR (c :: l)).2 ≠ 0 := by
  unfold tokR at hn ⊢
  by_cases g1 : digB ((c :: l).getD 0 0) = true
  · rw [if_pos g1]; show (171 + 1 : Int) ≠ 0; decide
  rw [if_neg g1] at hn ⊢
  by_cases g2 : letB ((c :: l).getD 0 0) = true ∨ (c :: l).getD 0 0 = 58
  · rw [if_pos g2] at hn
    exact absurd hn (word_pos _ (by unfold runB; rcases g2 with h | h; rw [h]; simp; rw [h]; decide))
  rw [if_neg g2] at hn ⊢
  by_cases g3 : (c :: l).getD 0 0 = 34
  · rw [if_pos g3]; show (173 : Int) ≠ 0; decide
  · rw [if_neg g3]; show (171 : Int) ≠ 0; decide
theorem lex_code : ∀ (m at_ : Nat) (l : List Int) (p : Nat) (c : Int), l.length ≤ m → lexL at_ l = .bad p c → c ≠ 0 := by
  intro m
  induction m with
  | zero =>
    intro at_ l p c h e
    have : l = [] := List.eq_nil_of_length_eq_zero (by omega)
    subst this
    rw [lexL] at e; cases e
  | succ m ih =>
    intro at_ l p d h e
    match l with
    | [] => rw [lexL] at e; cases e
    | c :: l =>
      simp only [List.length_cons] at h
      rw [lexL] at e
      by_cases hb : blankB c = true
      · rw [if_pos hb] at e; exact ih _ l p d (by omega) e
      · rw [if_neg hb] at e
        by_cases hn : (tokR (c :: l)).1.2.2.2 = 0
        · rw [if_pos hn] at e; cases e; exact tok_code c l hn
        · rw [if_neg hn] at e
          cases h2 : lexL (at_ + (tokR (c :: l)).1.2.2.2) (l.drop ((tokR (c :: l)).1.2.2.2 - 1)) with
          | ok us => rw [h2] at e; cases e
          | bad p2 d2 =>
            rw [h2] at e
            cases e
            exact ih _ _ p d (by rw [List.length_drop]; omega) h2
theorem lexR_code {s : ByteArray} {p : Nat} {c : Int} (h : lexR s = .bad p c) : c ≠ 0 := by
  unfold lexR at h
  by_cases hs : 4096 < s.size
  · rw [if_pos hs] at h; cases h; decide
  · rw [if_neg hs] at h
    exact lex_code _ 0 (sInts s) p c (Nat.le_refl _) h
/-- Two texts with a blank between. -/
theorem lexR_join {a b : ByteArray} {xs : List Tok} (ha : lexR a = .ok xs) (hs : a.size + b.size + 1 ≤ 4096) : lexR (a ++ ⟨#[32]⟩ ++ b) = Lx.cat xs.dropLast ((lexR b).sh (a.size + 1)) := by
  have e : sInts (a ++ ⟨#[32]⟩ ++ b) = sInts a ++ 32 :: sInts b := by rw [sInts_app, sInts_app, List.append_assoc]; rfl
  have hl : (sInts a ++ 32 :: sInts b).length ≤ 4096 := by rw [List.length_append, List.length_cons, sInts_len, sInts_len]; omega
  have ha2 : lexL 0 (sInts a) = .ok xs := by
    unfold lexR at ha
    rwa [if_neg (by omega)] at ha
  have hb2 : lexR b = lexL 0 (sInts b) := by unfold lexR; rw [if_neg (by omega)]
  refine lexR_of e hl ?_
  rw [lex_app (g := 32) (by decide) (sInts b) _ 0 (sInts a) xs (Nat.le_refl _) ha2, hb2, ← lex_shift (a.size + 1) _ 0 (sInts b) (Nat.le_refl _), sInts_len, Nat.zero_add, Nat.zero_add]
end Go.Proofs.Ytkocdmkojoefoaa
