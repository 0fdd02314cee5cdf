/- A text with a bracket or a blank behind it: its tokens, elsewhere. -/
import Derived.Test.YtnimdngiejcljaaVa
import Derived.Test.YtnimdngiejcljaaZd
namespace Go.Proofs.Ytnimdngiejcljaa
open Go.RowKit
set_option linter.unusedVariables false
set_option linter.unusedSimpArgs false
set_option maxRecDepth 20000

/-- A byte that ends what is before it. -/
def Gap (g : Int) : Prop := runB 46 g = false ∧ runB 58 g = false ∧ ∀ c, sign2 c g = false
theorem gap_blank : Gap 32 := ⟨by decide, by decide, fun c => by unfold sign2; simp⟩
theorem gap_close : Gap 41 := ⟨by decide, by decide, fun c => by unfold sign2; simp⟩
theorem text_consV (c : Int) (r : List Int) : textR (c :: r) = if c = 34 then ([], 1) else if c < 32 then ([], 0) else if c = 92 then (match r with
      | [] => ([], 0)
      | d :: r2 => if d = 34 ∨ d = 92 then (if (textR r2).2 = 0 then ([], 0) else (d :: (textR r2).1, (textR r2).2 + 2)) else if d = 110 then (if (textR r2).2 = 0 then ([], 0) else (10 :: (textR r2).1, (textR r2).2 + 2)) else ([], 0))
    else (if (textR r).2 = 0 then ([], 0) else (c :: (textR r).1, (textR r).2 + 1)) := textR.eq_def (c :: r)
theorem run_gap {m g : Int} (hg : runB m g = false) (l r : List Int) : runR m (l ++ g :: r) = runR m l := by
  unfold runR
  induction l with
  | nil => rw [List.nil_append, List.takeWhile_cons, hg]; simp
  | cons c l ih =>
    rw [List.cons_append, List.takeWhile_cons, List.takeWhile_cons]
    split
    · rw [ih]
    · rfl
theorem text_gap (r : List Int) : ∀ (m : Nat) (l : List Int), l.length ≤ m → (textR l).2 ≠ 0 → textR (l ++ r) = textR l := by
  intro m
  induction m with
  | zero =>
    intro l h hn
    have : l = [] := List.eq_nil_of_length_eq_zero (by omega)
    subst this
    rw [textR.eq_def] at hn
    exact absurd rfl hn
  | succ m ih =>
    intro l h hn
    match l with
    | [] => rw [textR.eq_def] at hn; exact absurd rfl hn
    | c :: l =>
      simp only [List.length_cons] at h
      rw [List.cons_append, text_consV, text_consV]
      rw [text_consV] at hn
      by_cases h1 : c = 34
      · rw [if_pos h1, if_pos h1]
      rw [if_neg h1, if_neg h1]
      rw [if_neg h1] at hn
      by_cases h2 : c < 32
      · rw [if_pos h2, if_pos h2]
      rw [if_neg h2, if_neg h2]
      rw [if_neg h2] at hn
      by_cases h3 : c = 92
      · rw [if_pos h3, if_pos h3]
        rw [if_pos h3] at hn
        match l with
        | [] => exact absurd rfl hn
        | d :: l2 =>
          simp only [List.length_cons] at h
          simp only [] at hn
          simp only [List.cons_append]
          by_cases h4 : (textR l2).2 = 0
          · rw [h4] at hn
            exfalso
            revert hn
            repeat' split
            all_goals first | (simp; done) | (rename_i hh; exact absurd rfl hh)
          · rw [ih l2 (by omega) h4]
      · rw [if_neg h3, if_neg h3]
        rw [if_neg h3] at hn
        by_cases h4 : (textR l).2 = 0
        · rw [if_pos h4] at hn; exact absurd rfl hn
        · rw [ih l (by omega) h4]
theorem sign_gap {g : Int} (hg : Gap g) (c : Int) (l r : List Int) : signN (c :: l ++ g :: r) = signN (c :: l) := by
  match l with
  | [] =>
    show (if sign2 c g = true then 2 else if sign1 c = true then 1 else 0) = (if sign1 c = true then 1 else 0)
    rw [hg.2.2 c]
    rfl
  | d :: l => rfl
theorem tok_gap {g : Int} (hg : Gap g) (c : Int) (l r : List Int) (hn : (tokR (c :: l)).1.2.2.2 ≠ 0) : tokR (c :: l ++ g :: r) = tokR (c :: l) := by
  have h1 := hg.1
  have h2 := hg.2.1
  have eN : numR (c :: l ++ g :: r) = numR (c :: l) := by unfold numR; rw [run_gap h1]
  have eW : wordR (c :: l ++ g :: r) = wordR (c :: l) := by unfold wordR; rw [run_gap h2]
  unfold tokR at hn ⊢
  have e0 : (c :: l ++ g :: r).getD 0 0 = (c :: l).getD 0 0 := rfl
  rw [e0, eN, eW]
  by_cases g1 : digB ((c :: l).getD 0 0) = true
  · rw [if_pos g1, if_pos g1]
  rw [if_neg g1, if_neg g1]
  rw [if_neg g1] at hn
  by_cases g2 : letB ((c :: l).getD 0 0) = true ∨ (c :: l).getD 0 0 = 58
  · rw [if_pos g2, if_pos g2]
  rw [if_neg g2, if_neg g2]
  rw [if_neg g2] at hn
  by_cases g3 : (c :: l).getD 0 0 = 34
  · rw [if_pos g3, if_pos g3]
    rw [if_pos g3] at hn
    have ht : (textR ((c :: l).drop 1)).2 ≠ 0 := fun h => by
      unfold txtR at hn
      rw [if_pos h] at hn
      exact hn rfl
    have e : textR ((c :: l ++ g :: r).drop 1) = textR ((c :: l).drop 1) := text_gap (g :: r) _ l (Nat.le_refl _) ht
    unfold txtR
    rw [e]
  · rw [if_neg g3, if_neg g3]
    unfold sgnR
    rw [sign_gap hg]
    have hs := sign_len (c :: l)
    rw [List.take_append_of_le_length hs]
/-- The same tokens elsewhere. -/
inductive El : List Tok → List Tok → Prop
  | nil : El [] []
  | cons (t t' : Tok) (r r' : List Tok) : t.1 ≠ 0 → t.1 = t'.1 → t.2.2 = t'.2.2 → El r r' → El (t :: r) (t' :: r')
theorem El.al {T us vs : List Tok} {z : Tok} (h : El us vs) (hz : z.1 = 0) (hT : Stop (hd T)) : Al T (us ++ [z]) (vs ++ T) := by
  induction h with
  | nil => exact .fin z hz hT
  | cons t t' r r' h0 h1 h2 _ ih => exact .cons t t' _ _ h0 h1 h2 ih
theorem Al.done {T r r' : List Tok} (h : Al T r r') (h0 : (hd r).1 = 0) : r' = T := by
  cases h with
  | cons t t' r r' g0 g1 g2 g3 => exact absurd h0 g0
  | fin z g0 g1 => rfl
theorem cat_con (t : Tok) (ts : List Tok) (x : Lx) : Lx.cons t (Lx.cat ts x) = Lx.cat (t :: ts) x := by
  cases x <;> rfl
theorem lex_gap {g : Int} (hg : Gap g) (r : List Int) : ∀ (m a b : Nat) (l : List Int) (ts : List Tok), l.length ≤ m → lexL a l = .ok ts →
    ∃ us vs z, ts = us ++ [z] ∧ z.1 = 0 ∧ El us vs ∧ lexL b (l ++ g :: r) = Lx.cat vs (lexL (b + l.length) (g :: r)) := by
  intro m
  induction m with
  | zero =>
    intro a b l ts h e
    have : l = [] := List.eq_nil_of_length_eq_zero (by omega)
    subst this
    rw [lexL] at e
    cases e
    exact ⟨[], [], _, rfl, rfl, .nil, (cat_nil _).symm⟩
  | succ m ih =>
    intro a b l ts h e
    match l with
    | [] =>
      rw [lexL] at e
      cases e
      exact ⟨[], [], _, rfl, rfl, .nil, (cat_nil _).symm⟩
    | c :: l =>
      simp only [List.length_cons] at h
      rw [lexL] at e
      rw [List.cons_append, lexL]
      by_cases hb : blankB c = true
      · rw [if_pos hb] at e ⊢
        obtain ⟨us, vs, z, h1, h2, h3, h4⟩ := ih (a + 1) (b + 1) l ts (by omega) e
        refine ⟨us, vs, z, h1, h2, h3, ?_⟩
        rw [h4, List.length_cons]
        congr 2
        omega
      · rw [if_neg hb] at e ⊢
        by_cases hn : (tokR (c :: l)).1.2.2.2 = 0
        · rw [if_pos hn] at e; cases e
        · rw [if_neg hn] at e
          have ht := tok_gap hg c l r hn
          have hlen := tok_len (c :: l) (by simp)
          have hkd := tok_kind hn
          rw [List.cons_append] at ht
          rw [ht, if_neg hn]
          generalize tokR (c :: l) = X at e hn hlen hkd ⊢
          obtain ⟨⟨kd, t, sp, n⟩, code⟩ := X
          simp only at e hn hlen hkd ⊢
          simp only [List.length_cons] at hlen
          cases h2 : lexL (a + n) (l.drop (n - 1)) with
          | bad p d => rw [h2] at e; cases e
          | ok us =>
            rw [h2] at e
            cases e
            obtain ⟨xs, vs, z, i1, i2, i3, i4⟩ := ih (a + n) (b + n) (l.drop (n - 1)) us (by rw [List.length_drop]; omega) h2
            refine ⟨(kd, (a : Int), t, sp) :: xs, (kd, (b : Int), t, sp) :: vs, z, by rw [i1]; rfl, i2, .cons _ _ _ _ hkd rfl rfl i3, ?_⟩
            rw [List.drop_append_of_le_length (by omega), i4, List.length_drop, List.length_cons, cat_con]
            congr 2
            omega
theorem lex_blank (b : Nat) (r : List Int) : lexL b (32 :: r) = lexL (b + 1) r := by rw [lexL, if_pos (by decide)]
theorem tok_sign {c : Int} (h1 : sign1 c = true) (h0 : digB c = false) (h2 : letB c = false) (h3 : c ≠ 58) (h4 : c ≠ 34) (hs : ∀ d, sign2 c d = false) (r : List Int) : tokR (c :: r) = ((5, strOfNums [c], 0, 1), 171) := by
  have hN : signN (c :: r) = 1 := by
    match r with
    | [] => show (if sign1 c = true then 1 else 0) = 1; rw [if_pos h1]
    | d :: _ => show (if sign2 c d = true then 2 else if sign1 c = true then 1 else 0) = 1; rw [hs d, if_pos h1]; rfl
  unfold tokR
  have e : (c :: r).getD 0 0 = c := rfl
  rw [e, h0, h2, if_neg (by decide), if_neg (by rintro (h | h); cases h; exact h3 h), if_neg h4]
  unfold sgnR
  rw [hN]
  rfl
theorem lex_open (b : Nat) (r : List Int) : lexL b (40 :: r) = Lx.cons (5, (b : Int), ⟨#[40]⟩, 0) (lexL (b + 1) r) := by
  have e := tok_sign (c := 40) (by decide) (by decide) (by decide) (by decide) (by decide) (fun d => by unfold sign2; simp) r
  rw [lexL, if_neg (by decide), e]
  rfl
theorem lex_close (b : Nat) (r : List Int) : lexL b (41 :: r) = Lx.cons (5, (b : Int), clS, 0) (lexL (b + 1) r) := by
  have e := tok_sign (c := 41) (by decide) (by decide) (by decide) (by decide) (by decide) (fun d => by unfold sign2; simp) r
  rw [lexL, if_neg (by decide), e]
  rfl
end Go.Proofs.Ytnimdngiejcljaa
