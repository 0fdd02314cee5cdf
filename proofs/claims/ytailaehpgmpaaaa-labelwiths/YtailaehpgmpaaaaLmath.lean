/- The order of texts and of lists of labels. -/
import Derived.Test.YtailaehpgmpaaaaRlab
namespace Go.Proofs.Ytailaehpgmpaaaa
open Go.RowKit
set_option linter.unusedVariables false

theorem bl_cons (a b : UInt8) (x y : List UInt8) : Op.bytesLess (a :: x) (b :: y) = true ↔ a.toNat < b.toNat ∨ a.toNat = b.toNat ∧ Op.bytesLess x y = true := by
  simp only [Op.bytesLess, Bool.or_eq_true, Bool.and_eq_true, decide_eq_true_eq, beq_iff_eq, UInt8.lt_iff_toNat_lt, ← UInt8.toNat_inj]
theorem bl_nil (x : List UInt8) : Op.bytesLess x [] = false := by cases x <;> rfl
theorem bl_nil_cons (b : UInt8) (y : List UInt8) : Op.bytesLess [] (b :: y) = true := rfl
theorem bl_irrefl (x : List UInt8) : ¬ Op.bytesLess x x = true := by
  induction x with
  | nil => simp [Op.bytesLess]
  | cons a x ih =>
    rw [bl_cons]
    intro h
    rcases h with h | ⟨_, h⟩
    · omega
    · exact ih h
theorem bl_asym : ∀ (x y : List UInt8), Op.bytesLess x y = true → ¬ Op.bytesLess y x = true := by
  intro x
  induction x with
  | nil => intro y _; rw [bl_nil]; simp
  | cons a x ih =>
    intro y h
    cases y with
    | nil => rw [bl_nil] at h; simp at h
    | cons b y =>
      rw [bl_cons] at h ⊢
      have := ih y
      rcases h with h | ⟨h1, h2⟩
      · omega
      · intro h'
        rcases h' with h' | ⟨_, h'⟩
        · omega
        · exact this h2 h'
theorem bl_total : ∀ (x y : List UInt8), Op.bytesLess x y = true ∨ x = y ∨ Op.bytesLess y x = true := by
  intro x
  induction x with
  | nil => intro y; cases y with
    | nil => exact .inr (.inl rfl)
    | cons b y => exact .inl rfl
  | cons a x ih =>
    intro y
    cases y with
    | nil => exact .inr (.inr rfl)
    | cons b y =>
      rw [bl_cons, bl_cons]
      by_cases h1 : a.toNat < b.toNat
      · exact .inl (.inl h1)
      · by_cases h2 : b.toNat < a.toNat
        · exact .inr (.inr (.inl h2))
        · have e : a.toNat = b.toNat := by omega
          rcases ih y with h | h | h
          · exact .inl (.inr ⟨e, h⟩)
          · exact .inr (.inl (by rw [h, UInt8.toNat_inj.1 e]))
          · exact .inr (.inr (.inr ⟨e.symm, h⟩))
theorem bl_trans : ∀ (x y z : List UInt8), Op.bytesLess x y = true → Op.bytesLess y z = true → Op.bytesLess x z = true := by
  intro x
  induction x with
  | nil =>
    intro y z h1 h2
    cases z with
    | nil => rw [bl_nil] at h2; simp at h2
    | cons c z => rfl
  | cons a x ih =>
    intro y z h1 h2
    cases y with
    | nil => rw [bl_nil] at h1; simp at h1
    | cons b y =>
      cases z with
      | nil => rw [bl_nil] at h2; simp at h2
      | cons c z =>
        rw [bl_cons] at h1 h2 ⊢
        rcases h1 with h1 | ⟨e1, h1⟩
        · rcases h2 with h2 | ⟨e2, _⟩ <;> (left; omega)
        · rcases h2 with h2 | ⟨e2, h2⟩
          · left; omega
          · exact .inr ⟨by omega, ih y z h1 h2⟩

/-- A comparing function that is an order. -/
structure Ord3 {α : Type} (f : α → α → Int) : Prop where
  anti : ∀ x y, f x y = - f y x
  zero : ∀ x y, f x y = 0 ↔ x = y
  trans : ∀ x y z, f x y ≤ 0 → f y z ≤ 0 → f x z ≤ 0
theorem Ord3.all {α : Type} {f : α → α → Int} (h : Ord3 f) (x y z : α) : (f x y ≤ 0 → f y z ≤ 0 → f x z ≤ 0) ∧ (f x y < 0 → f y z ≤ 0 → f x z < 0) ∧ (f x y ≤ 0 → f y z < 0 → f x z < 0) ∧ (f x y = 0 → f y z = 0 → f x z = 0) := by
  have t := h.trans x y z
  refine ⟨t, fun h1 h2 => ?_, fun h1 h2 => ?_, fun h1 h2 => ?_⟩
  · have := t (by omega) h2
    by_cases e : f x z = 0
    · have := (h.zero x z).1 e
      subst this
      have := h.anti y x
      omega
    · omega
  · have := t h1 (by omega)
    by_cases e : f x z = 0
    · have := (h.zero x z).1 e
      subst this
      have := h.anti y x
      omega
    · omega
  · rw [(h.zero x y).1 h1]; exact h2
theorem toList_inj {a b : ByteArray} (h : a.toList = b.toList) : a = b := by
  have := str_eq a b
  rw [beq_iff_eq.2 h] at this
  exact of_decide_eq_true this.symm
theorem ord_ordR : Ord3 ordR := by
  refine ⟨fun x y => ?_, fun x y => ?_, fun x y z => ?_⟩
  · unfold ordR bless
    rcases bl_total x.toList y.toList with h | h | h
    · have h' := bl_asym _ _ h
      have hne : ¬ y = x := fun e => by rw [e] at h; exact bl_irrefl _ h
      rw [if_pos h, if_neg h', if_neg hne]
    · have e := toList_inj h
      subst e
      rw [if_neg (bl_irrefl _), if_pos rfl]; rfl
    · have h' := bl_asym _ _ h
      have hne : ¬ x = y := fun e => by rw [e] at h; exact bl_irrefl _ h
      rw [if_neg h', if_neg hne, if_pos h]; rfl
  · unfold ordR bless
    constructor
    · intro h
      split at h
      · simp at h
      · split at h
        · assumption
        · simp at h
    · intro h
      subst h
      rw [if_neg (bl_irrefl _), if_pos rfl]
  · unfold ordR bless
    intro h1 h2
    have a1 : Op.bytesLess x.toList y.toList = true ∨ x = y := by
      split at h1
      · left; assumption
      · split at h1
        · right; assumption
        · omega
    have a2 : Op.bytesLess y.toList z.toList = true ∨ y = z := by
      split at h2
      · left; assumption
      · split at h2
        · right; assumption
        · omega
    rcases a1 with a1 | rfl
    · rcases a2 with a2 | rfl
      · rw [if_pos (bl_trans _ _ _ a1 a2)]; omega
      · rw [if_pos a1]; omega
    · rcases a2 with a2 | rfl
      · rw [if_pos a2]; omega
      · rw [if_neg (bl_irrefl _), if_pos rfl]; omega

theorem cmp_anti : ∀ (xs ys : List Lab), cmpR xs ys = - cmpR ys xs := by
  intro xs
  induction xs with
  | nil => intro ys; cases ys <;> rfl
  | cons x xs ih =>
    intro ys
    cases ys with
    | nil => rfl
    | cons y ys =>
      rw [cmpR, cmpR, ih ys]
      have h1 := ord_ordR.anti x.1 y.1
      have h2 := ord_ordR.anti x.2 y.2
      split <;> split <;> (try split) <;> (try split) <;> omega
theorem cmp_zero : ∀ (xs ys : List Lab), cmpR xs ys = 0 ↔ xs = ys := by
  intro xs
  induction xs with
  | nil => intro ys; cases ys <;> simp [cmpR]
  | cons x xs ih =>
    intro ys
    cases ys with
    | nil => simp [cmpR]
    | cons y ys =>
      have h1 := ord_ordR.zero x.1 y.1
      have h2 := ord_ordR.zero x.2 y.2
      have h3 := ih ys
      rw [cmpR]
      constructor
      · intro h
        split at h
        · contradiction
        · split at h
          · contradiction
          · rename_i q1 q2
            have e1 := h1.1 (by omega)
            have e2 := h2.1 (by omega)
            rw [h3.1 h, Prod.ext e1 e2]
      · intro h
        simp only [List.cons.injEq] at h
        obtain ⟨rfl, rfl⟩ := h
        rw [if_neg (by simp [h1]), if_neg (by simp [h2])]
        exact h3.2 rfl
theorem cmp_trans : ∀ (xs ys zs : List Lab), cmpR xs ys ≤ 0 → cmpR ys zs ≤ 0 → cmpR xs zs ≤ 0 := by
  intro xs
  induction xs with
  | nil => intro ys zs _ _; cases zs <;> simp [cmpR]
  | cons x xs ih =>
    intro ys zs h1 h2
    cases ys with
    | nil => simp [cmpR] at h1
    | cons y ys =>
      cases zs with
      | nil => simp [cmpR] at h2
      | cons z zs =>
        have a := ord_ordR.all x.1 y.1 z.1
        have b := ord_ordR.all x.2 y.2 z.2
        have c := ih ys zs
        rw [cmpR] at h1 h2 ⊢
        generalize ordR x.1 y.1 = p1 at *
        generalize ordR y.1 z.1 = p2 at *
        generalize ordR x.1 z.1 = p3 at *
        generalize ordR x.2 y.2 = q1 at *
        generalize ordR y.2 z.2 = q2 at *
        generalize ordR x.2 z.2 = q3 at *
        generalize cmpR xs ys = r1 at *
        generalize cmpR ys zs = r2 at *
        generalize cmpR xs zs = r3 at *
        obtain ⟨a1, a2, a3, a4⟩ := a
        obtain ⟨b1, b2, b3, b4⟩ := b
        by_cases e1 : p1 = 0
        · by_cases e2 : p2 = 0
          · have e3 := a4 e1 e2
            rw [if_neg (by simpa using e1)] at h1
            rw [if_neg (by simpa using e2)] at h2
            rw [if_neg (by simpa using e3)]
            by_cases f1 : q1 = 0
            · by_cases f2 : q2 = 0
              · have f3 := b4 f1 f2
                rw [if_neg (by simpa using f1)] at h1
                rw [if_neg (by simpa using f2)] at h2
                rw [if_neg (by simpa using f3)]
                exact c h1 h2
              · rw [if_pos (by simpa using f2)] at h2
                have := b3 (by omega) (by omega)
                rw [if_pos (by omega)]; omega
            · rw [if_pos (by simpa using f1)] at h1
              have q2n : q2 ≤ 0 := by split at h2 <;> omega
              have := b2 (by omega) q2n
              rw [if_pos (by omega)]; omega
          · rw [if_pos (by simpa using e2)] at h2
            have := a3 (by omega) (by omega)
            rw [if_pos (by omega)]; omega
        · rw [if_pos (by simpa using e1)] at h1
          have p2n : p2 ≤ 0 := by split at h2 <;> omega
          have := a2 (by omega) p2n
          rw [if_pos (by omega)]; omega
theorem ord_cmpR : Ord3 cmpR := ⟨cmp_anti, cmp_zero, cmp_trans⟩
theorem cmp_bd : ∀ (xs ys : List Lab), -1 ≤ cmpR xs ys ∧ cmpR xs ys ≤ 1 := by
  intro xs
  induction xs with
  | nil => intro ys; cases ys <;> simp [cmpR]
  | cons x xs ih =>
    intro ys
    cases ys with
    | nil => simp [cmpR]
    | cons y ys =>
      rw [cmpR]
      have h1 := ordR_bd x.1 y.1
      have h2 := ordR_bd x.2 y.2
      have h3 := ih ys
      split
      · exact h1
      · split
        · exact h2
        · exact h3
end Go.Proofs.Ytailaehpgmpaaaa
