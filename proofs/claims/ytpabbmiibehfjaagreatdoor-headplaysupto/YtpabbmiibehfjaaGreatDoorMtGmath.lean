/- Patterns: what a text is like, and how patterns and texts are cut. -/
import Derived.Test.YtpabbmiibehfjaaGreatDoorRows
namespace Go.Proofs.YtpabbmiibehfjaaGreatDoor.Mt

/-- An alternative and a text, as bytes: 42 says any bytes. -/
def glob : List Int → List Int → Bool
  | [], s => s.isEmpty
  | c :: p, [] => if c = 42 then glob p [] else false
  | c :: p, d :: s => if c = 42 then glob p (d :: s) || glob (c :: p) s else decide (c = d) && glob p s
termination_by p s => p.length + s.length
theorem glob_nil (s : List Int) : glob [] s = s.isEmpty := by rw [glob]
theorem glob_star (p s : List Int) : glob (42 :: p) s = (glob p s || match s with | [] => false | _ :: t => glob (42 :: p) t) := by
  cases s with
  | nil => rw [glob, if_pos rfl, Bool.or_false]
  | cons d s => rw [glob, if_pos rfl]
theorem glob_one {c : Int} (hc : c ≠ 42) (p s : List Int) : glob (c :: p) s = match s with | [] => false | d :: t => decide (c = d) && glob p t := by
  cases s with
  | nil => rw [glob, if_neg hc]
  | cons d s => rw [glob, if_neg hc]
/-- Is there a place at which a text can be cut so? -/
def cuts (f : List Int → List Int → Bool) (s : List Int) : Prop := ∃ x y, s = x ++ y ∧ f x y = true
theorem glob_app (p : List Int) : ∀ (q s : List Int), glob (p ++ q) s = true ↔ ∃ x y, s = x ++ y ∧ glob p x = true ∧ glob q y = true := by
  induction p with
  | nil =>
    intro q s
    simp only [List.nil_append, glob_nil]
    constructor
    · intro h; exact ⟨[], s, rfl, rfl, h⟩
    · rintro ⟨x, y, rfl, hx, hy⟩
      cases x with
      | nil => exact hy
      | cons a x => simp at hx
  | cons c p ih =>
    intro q s
    by_cases hc : c = 42
    · subst hc
      rw [List.cons_append]
      induction s with
      | nil =>
        rw [glob_star]
        simp only [Bool.or_false]
        rw [ih]
        constructor
        · rintro ⟨x, y, e, hx, hy⟩
          exact ⟨x, y, e, by rw [glob_star, hx, Bool.true_or], hy⟩
        · rintro ⟨x, y, e, hx, hy⟩
          have hx0 : x = [] := by cases x with | nil => rfl | cons => simp at e
          have hy0 : y = [] := by subst hx0; simpa using e.symm
          subst hx0 hy0
          rw [glob_star] at hx
          simp only [Bool.or_false] at hx
          exact ⟨[], [], rfl, hx, hy⟩
      | cons d s ihs =>
        rw [glob_star]
        simp only [Bool.or_eq_true]
        rw [ih, ihs]
        constructor
        · rintro (⟨x, y, e, hx, hy⟩ | ⟨x, y, e, hx, hy⟩)
          · exact ⟨x, y, e, by rw [glob_star, hx, Bool.true_or], hy⟩
          · refine ⟨d :: x, y, by rw [e]; rfl, ?_, hy⟩
            rw [glob_star]
            simp [hx]
        · rintro ⟨x, y, e, hx, hy⟩
          rw [glob_star] at hx
          simp only [Bool.or_eq_true] at hx
          rcases hx with hx | hx
          · exact .inl ⟨x, y, e, hx, hy⟩
          · cases x with
            | nil => simp at hx
            | cons a x =>
              simp only [List.cons_append, List.cons.injEq] at e
              exact .inr ⟨x, y, e.2, hx, hy⟩
    · rw [List.cons_append, glob_one hc]
      cases s with
      | nil =>
        simp only [Bool.false_eq_true, false_iff]
        rintro ⟨x, y, e, hx, hy⟩
        have hx0 : x = [] := by cases x with | nil => rfl | cons => simp at e
        subst hx0
        rw [glob_one hc] at hx
        simp at hx
      | cons d s =>
        simp only [Bool.and_eq_true, decide_eq_true_eq]
        rw [ih]
        constructor
        · rintro ⟨rfl, x, y, e, hx, hy⟩
          refine ⟨c :: x, y, by rw [e]; rfl, ?_, hy⟩
          rw [glob_one hc]
          simp [hx]
        · rintro ⟨x, y, e, hx, hy⟩
          rw [glob_one hc] at hx
          cases x with
          | nil => simp at hx
          | cons a x =>
            simp only [List.cons_append, List.cons.injEq] at e
            simp only [Bool.and_eq_true, decide_eq_true_eq] at hx
            exact ⟨hx.1.trans e.1.symm, x, y, e.2, hx.2, hy⟩
theorem glob_all (s : List Int) : glob [42] s = true := by
  induction s with
  | nil => rw [glob_star, glob_nil]; rfl
  | cons d s ih => rw [glob_star]; simp [ih]
theorem glob_last_star (p s : List Int) (d : Int) : glob (p ++ [42]) (s ++ [d]) = (glob p (s ++ [d]) || glob (p ++ [42]) s) := by
  rw [Bool.eq_iff_iff, Bool.or_eq_true, glob_app, glob_app]
  constructor
  · rintro ⟨x, y, e, hx, hy⟩
    rcases List.eq_nil_or_concat y with rfl | ⟨y', b, rfl⟩
    · left; rw [List.append_nil] at e; rw [e]; exact hx
    · right
      rw [List.concat_eq_append, ← List.append_assoc] at e
      have := List.append_inj_left' e rfl
      exact ⟨x, y', this, hx, glob_all _⟩
  · rintro (h | ⟨x, y, e, hx, hy⟩)
    · exact ⟨s ++ [d], [], by simp, h, glob_all _⟩
    · exact ⟨x, y ++ [d], by rw [e, List.append_assoc], hx, glob_all _⟩
theorem glob_last_star_nil (p : List Int) : glob (p ++ [42]) [] = glob p [] := by
  rw [Bool.eq_iff_iff, glob_app]
  constructor
  · rintro ⟨x, y, e, hx, hy⟩
    have hx0 : x = [] := by cases x with | nil => rfl | cons => simp at e
    rw [hx0] at hx; exact hx
  · intro h; exact ⟨[], [], rfl, h, glob_all _⟩
theorem glob_single {c : Int} (hc : c ≠ 42) (s : List Int) : glob [c] s = true ↔ s = [c] := by
  rw [glob_one hc]
  cases s with
  | nil => simp
  | cons d s =>
    simp only [Bool.and_eq_true, decide_eq_true_eq, glob_nil, List.isEmpty_iff, List.cons.injEq]
    constructor
    · rintro ⟨rfl, rfl⟩; exact ⟨rfl, rfl⟩
    · rintro ⟨rfl, rfl⟩; exact ⟨rfl, rfl⟩
theorem glob_last {c : Int} (hc : c ≠ 42) (p s : List Int) (d : Int) : glob (p ++ [c]) (s ++ [d]) = (decide (c = d) && glob p s) := by
  rw [Bool.eq_iff_iff, Bool.and_eq_true, decide_eq_true_eq, glob_app]
  constructor
  · rintro ⟨x, y, e, hx, hy⟩
    rw [glob_single hc] at hy
    subst hy
    obtain ⟨e1, e2⟩ := List.append_inj' e rfl
    simp only [List.cons.injEq, and_true] at e2
    exact ⟨e2.symm, by rw [e1]; exact hx⟩
  · rintro ⟨rfl, h⟩
    exact ⟨s, [c], rfl, h, (glob_single hc _).2 rfl⟩
theorem glob_last_nil {c : Int} (hc : c ≠ 42) (p : List Int) : glob (p ++ [c]) [] = false := by
  rw [Bool.eq_false_iff]
  intro h
  obtain ⟨x, y, e, hx, hy⟩ := (glob_app _ _ _).1 h
  rw [glob_single hc] at hy
  subst hy
  cases x <;> simp at e

/-- The alternatives of a pattern. -/
def alts : List Int → List (List Int)
  | [] => [[]]
  | c :: p => if c = 124 then [] :: alts p else match alts p with | [] => [[c]] | a :: r => (c :: a) :: r
theorem alts_ne (p : List Int) : alts p ≠ [] := by
  cases p with
  | nil => simp [alts]
  | cons c p => rw [alts]; split <;> (try split) <;> simp
def likeL (p s : List Int) : Bool := (alts p).any (fun a => glob a s)
theorem alts_app (p q : List Int) : alts (p ++ 124 :: q) = alts p ++ alts q := by
  induction p with
  | nil => simp [alts]
  | cons c p ih =>
    rw [List.cons_append, alts, alts, ih]
    split
    · rfl
    · cases h : alts p with
      | nil => exact absurd h (alts_ne p)
      | cons a r => rfl
theorem like_or (p q s : List Int) : likeL (p ++ 124 :: q) s = (likeL p s || likeL q s) := by
  unfold likeL
  rw [alts_app, List.any_append]
theorem alts_plain {p : List Int} (h : ∀ c ∈ p, c ≠ 124) : alts p = [p] := by
  induction p with
  | nil => rfl
  | cons c p ih =>
    rw [alts, if_neg (h c (by simp)), ih (fun d hd => h d (by simp [hd]))]
theorem like_plain {p : List Int} (h : ∀ c ∈ p, c ≠ 124) (s : List Int) : likeL p s = glob p s := by
  unfold likeL
  rw [alts_plain h]
  simp
/-- A text without signs is like itself alone. -/
theorem glob_self {p : List Int} (h : ∀ c ∈ p, c ≠ 42) (s : List Int) : glob p s = decide (p = s) := by
  induction p generalizing s with
  | nil => rw [glob_nil]; cases s <;> simp
  | cons c p ih =>
    rw [glob_one (h c (by simp))]
    cases s with
    | nil => simp
    | cons d s =>
      simp only [ih (fun e he => h e (by simp [he]))]
      by_cases e1 : c = d <;> by_cases e2 : p = s <;> simp [e1, e2]
theorem glob_amid {s : List Int} (h : ∀ c ∈ s, c ≠ 42) (a b : List Int) : glob (42 :: (s ++ [42])) (a ++ (s ++ b)) = true := by
  rw [show (42 : Int) :: (s ++ [42]) = [42] ++ (s ++ [42]) from rfl, glob_app]
  refine ⟨a, s ++ b, rfl, glob_all a, ?_⟩
  rw [glob_app]
  exact ⟨s, b, rfl, by rw [glob_self h]; simp, glob_all b⟩
theorem glob_ahead {s : List Int} (h : ∀ c ∈ s, c ≠ 42) (b : List Int) : glob (s ++ [42]) (s ++ b) = true := by
  rw [glob_app]
  exact ⟨s, b, rfl, by rw [glob_self h]; simp, glob_all b⟩
theorem glob_behind {s : List Int} (h : ∀ c ∈ s, c ≠ 42) (a : List Int) : glob (42 :: s) (a ++ s) = true := by
  rw [show (42 : Int) :: s = [42] ++ s from rfl, glob_app]
  exact ⟨a, s, rfl, glob_all a, by rw [glob_self h]; simp⟩
end Go.Proofs.YtpabbmiibehfjaaGreatDoor.Mt
