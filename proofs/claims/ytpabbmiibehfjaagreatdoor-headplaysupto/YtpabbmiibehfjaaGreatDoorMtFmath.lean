/- Patterns cut at their signs, and texts taken at the first place where they are found: the same as the document's likeness. -/
import Derived.Test.YtpabbmiibehfjaaGreatDoorMtGmath
import Derived.Lib.SplitLaws
namespace Go.Proofs.YtpabbmiibehfjaaGreatDoor.Mt
set_option linter.unusedVariables false

def f8 (b : UInt8) : Int := (b.toNat : Int)
theorem f8_inj {a b : UInt8} (h : f8 a = f8 b) : a = b := UInt8.toNat_inj.1 (by unfold f8 at h; exact_mod_cast h)
theorem f8_map_inj {a b : List UInt8} (h : a.map f8 = b.map f8) : a = b := (List.map_inj_right (fun _ _ e => f8_inj e)).1 h

/-- Where a text is found first. -/
theorem idx_cases (q : List UInt8) : ∀ s : List UInt8, (Lib.index s q = -1 ∧ ∀ x y, s ≠ x ++ (q ++ y)) ∨ ∃ i : Nat, Lib.index s q = i ∧ (∃ x y, s = x ++ (q ++ y) ∧ x.length = i) ∧ ∀ x y, s = x ++ (q ++ y) → i ≤ x.length := by
  intro s
  induction s with
  | nil =>
    unfold Lib.index
    cases q with
    | nil => right; exact ⟨0, by simp, ⟨[], [], by simp, rfl⟩, fun _ _ _ => Nat.zero_le _⟩
    | cons c q => left; exact ⟨by simp, fun x y e => by simp at e⟩
  | cons b l ih =>
    by_cases hp : q.isPrefixOf (b :: l) = true
    · right
      refine ⟨0, by unfold Lib.index; rw [if_pos hp]; rfl, ?_, fun _ _ _ => Nat.zero_le _⟩
      obtain ⟨y, hy⟩ := List.isPrefixOf_iff_prefix.1 hp
      exact ⟨[], y, by simp [hy], rfl⟩
    · have hno : ∀ x y, b :: l = x ++ (q ++ y) → ∃ x', x = b :: x' ∧ l = x' ++ (q ++ y) := by
        intro x y e
        cases x with
        | nil => exact absurd (List.isPrefixOf_iff_prefix.2 ⟨y, e.symm⟩) hp
        | cons a x' =>
          simp only [List.cons_append, List.cons.injEq] at e
          exact ⟨x', by rw [e.1], e.2⟩
      rcases ih with ⟨h1, h2⟩ | ⟨i, h1, ⟨x, y, e, hx⟩, h3⟩
      · left
        refine ⟨by unfold Lib.index; rw [if_neg hp, h1]; rfl, fun x y e => ?_⟩
        obtain ⟨x', _, e'⟩ := hno x y e
        exact h2 x' y e'
      · right
        refine ⟨i + 1, ?_, ⟨b :: x, y, by rw [e]; rfl, by simp [hx]⟩, fun x y e => ?_⟩
        · unfold Lib.index
          rw [if_neg hp, h1, if_neg (by simp)]
          rfl
        · obtain ⟨x', rfl, e'⟩ := hno x y e
          have := h3 x' y e'
          simp
          omega

/-- A text cut at every place of a byte. -/
def sp (c : UInt8) : List UInt8 → List (List UInt8)
  | [] => [[]]
  | b :: l => if b = c then [] :: sp c l else match sp c l with | [] => [[b]] | a :: r => (b :: a) :: r
theorem sp_ne (c : UInt8) (l : List UInt8) : sp c l ≠ [] := by
  cases l with
  | nil => simp [sp]
  | cons b l => rw [sp]; split <;> (try split) <;> simp
theorem sp_plain {c : UInt8} {l : List UInt8} (h : c ∉ l) : sp c l = [l] := by
  induction l with
  | nil => rfl
  | cons b l ih =>
    simp only [List.mem_cons, not_or] at h
    rw [sp, if_neg (fun e => h.1 e.symm), ih h.2]
theorem sp_cut {c : UInt8} {l : List UInt8} (h : c ∉ l) (r : List UInt8) : sp c (l ++ c :: r) = l :: sp c r := by
  induction l with
  | nil => rw [List.nil_append, sp, if_pos rfl]
  | cons b l ih =>
    simp only [List.mem_cons, not_or] at h
    rw [List.cons_append, sp, if_neg (fun e => h.1 e.symm), ih h.2]
theorem sp_mem {c : UInt8} (l : List UInt8) : ∀ a ∈ sp c l, c ∉ a := by
  induction l with
  | nil => simp [sp]
  | cons b l ih =>
    rw [sp]
    split
    · intro a ha
      rcases List.mem_cons.1 ha with rfl | ha
      · simp
      · exact ih a ha
    · rename_i hb
      split
      · rename_i e; exact absurd e (sp_ne c l)
      · rename_i a r e
        rw [e] at ih
        intro x hx
        rcases List.mem_cons.1 hx with rfl | hx
        · simp only [List.mem_cons, not_or]
          exact ⟨fun e => hb e.symm, ih a (by simp)⟩
        · exact ih x (by simp [hx])
theorem idx_byte (c : UInt8) (s : List UInt8) : (Lib.index s [c] = -1 ∧ c ∉ s) ∨ ∃ i : Nat, Lib.index s [c] = i ∧ i < s.length ∧ c ∉ s.take i ∧ s = s.take i ++ c :: s.drop (i + 1) := by
  rcases idx_cases [c] s with ⟨h1, h2⟩ | ⟨i, h1, ⟨x, y, e, hx⟩, h3⟩
  · left
    refine ⟨h1, fun hm => ?_⟩
    obtain ⟨x, y, e⟩ := List.append_of_mem hm
    exact h2 x y e
  · right
    have e1 : s.take i = x := by rw [e, ← hx, List.take_left']; rfl
    have e2 : s.drop (i + 1) = y := by rw [e, ← hx, ← List.append_assoc, List.drop_left']; simp
    refine ⟨i, h1, by rw [e]; simp; omega, ?_, ?_⟩
    · rw [e1]
      intro hm
      obtain ⟨u, v, e'⟩ := List.append_of_mem hm
      have := h3 u (v ++ ([c] ++ y)) (by rw [e, e']; simp)
      rw [e'] at hx
      simp at hx
      omega
    · rw [e1, e2]; exact e
theorem splitK_sp (c : UInt8) : ∀ (n : Nat) (s : List UInt8), s.length ≤ n → Lib.splitK [c] 0 (Lib.count s [c]) s = sp c s := by
  intro n
  induction n with
  | zero =>
    intro s hs
    have : s = [] := List.length_eq_zero_iff.1 (by omega)
    subst this
    rfl
  | succ n ih =>
    intro s hs
    rcases idx_byte c s with ⟨h1, h2⟩ | ⟨i, h1, hi, h2, h3⟩
    · rw [Lib.count_miss h1, sp_plain h2]; rfl
    · rw [Lib.count_hit (by simp) h1, Nat.add_comm 1, Lib.splitK, h1, if_neg (by simp), Int.toNat_natCast, Nat.add_zero, ih _ (by simp; omega)]
      conv => rhs; rw [h3, sp_cut h2]
      rfl
theorem split_sp (c : UInt8) (s : List UInt8) : Lib.split s [c] = sp c s := splitK_sp c s.length s (Nat.le_refl _)
theorem count_sp (c : UInt8) (s : List UInt8) : s.count c + 1 = (sp c s).length := by
  induction s with
  | nil => rfl
  | cons b l ih =>
    rw [sp]
    by_cases h : b = c
    · subst h
      rw [if_pos rfl, List.length_cons, List.count_cons_self, ih]
    · rw [if_neg h, List.count_cons_of_ne h]
      split
      · rename_i e; exact absurd e (sp_ne c l)
      · rename_i a r e; rw [e] at ih; simpa using ih
theorem alts_sp (p : List UInt8) : alts (p.map f8) = (sp 124 p).map (List.map f8) := by
  induction p with
  | nil => rfl
  | cons b l ih =>
    rw [List.map_cons, alts, sp, ih]
    by_cases h : b = 124
    · subst h
      rw [if_pos rfl, if_pos (by rfl)]
      rfl
    · rw [if_neg h, if_neg (fun e => h (f8_inj (by rw [e]; rfl)))]
      cases e : sp 124 l with
      | nil => exact absurd e (sp_ne 124 l)
      | cons a r => rfl

/-- What an alternative's pieces say of a text: one behind the other, any bytes between. -/
def GP : List (List UInt8) → List UInt8 → Prop
  | [], _ => False
  | [p], s => s = p
  | p :: q :: r, s => ∃ x y, s = p ++ (x ++ y) ∧ GP (q :: r) y
theorem star_iff (r s : List Int) : glob (42 :: r) s = true ↔ ∃ x y, s = x ++ y ∧ glob r y = true := by
  rw [show (42 : Int) :: r = [42] ++ r from rfl, glob_app]
  constructor
  · rintro ⟨x, y, e, _, h⟩; exact ⟨x, y, e, h⟩
  · rintro ⟨x, y, e, h⟩; exact ⟨x, y, e, glob_all x, h⟩
theorem plain_iff {l : List UInt8} (h : (42 : UInt8) ∉ l) (x : List Int) : glob (l.map f8) x = true ↔ x = l.map f8 := by
  rw [glob_self]
  · simp [eq_comm]
  · intro c hc
    obtain ⟨b, hb, rfl⟩ := List.mem_map.1 hc
    intro e
    have : b = 42 := f8_inj (by rw [e]; rfl)
    exact h (this ▸ hb)
theorem glob_GP : ∀ (n : Nat) (a s : List UInt8), a.length ≤ n → (glob (a.map f8) (s.map f8) = true ↔ GP (sp 42 a) s) := by
  intro n
  induction n with
  | zero =>
    intro a s hs
    have : a = [] := List.length_eq_zero_iff.1 (by omega)
    subst this
    rw [plain_iff (by simp)]
    show _ ↔ s = []
    simp
  | succ n ih =>
    intro a s hs
    rcases idx_byte 42 a with ⟨h1, h2⟩ | ⟨i, h1, hi, h2, h3⟩
    · rw [sp_plain h2, plain_iff h2]
      exact ⟨f8_map_inj, fun e => by rw [show s = a from e]⟩
    · obtain ⟨l, el⟩ : ∃ l, a.take i = l := ⟨_, rfl⟩
      obtain ⟨r, er⟩ : ∃ r, a.drop (i + 1) = r := ⟨_, rfl⟩
      have hr : r.length ≤ n := by rw [← er]; simp; omega
      rw [el] at h2 h3
      rw [er] at h3
      rw [h3, sp_cut h2, List.map_append, List.map_cons, show f8 42 = 42 from rfl, glob_app]
      cases e : sp 42 r with
      | nil => exact absurd e (sp_ne 42 r)
      | cons q t =>
        show _ ↔ ∃ x y, s = l ++ (x ++ y) ∧ GP (q :: t) y
        constructor
        · rintro ⟨u, v, e1, hu, hv⟩
          rw [plain_iff h2] at hu
          rw [star_iff] at hv
          obtain ⟨x, y, e2, hy⟩ := hv
          subst hu e2
          obtain ⟨l', t', rfl, e3, e4⟩ := List.map_eq_append_iff.1 e1
          obtain ⟨x', y', rfl, e5, e6⟩ := List.map_eq_append_iff.1 e4
          rw [← e6, ih r y' hr, e] at hy
          exact ⟨x', y', by rw [f8_map_inj e3], hy⟩
        · rintro ⟨x, y, rfl, hy⟩
          refine ⟨l.map f8, (x ++ y).map f8, by simp, (plain_iff h2 _).2 rfl, ?_⟩
          rw [star_iff]
          exact ⟨x.map f8, y.map f8, by simp, by rw [ih r y hr, e]; exact hy⟩

/-- Behind a star. -/
def Tl (ts : List (List UInt8)) (s : List UInt8) : Prop := ∃ x y, s = x ++ y ∧ GP ts y
theorem Tl.later {ts : List (List UInt8)} {y : List UInt8} (h : Tl ts y) (z : List UInt8) : Tl ts (z ++ y) := by
  obtain ⟨a, b, rfl, h⟩ := h
  exact ⟨z ++ a, b, by simp, h⟩
theorem Tl.two (q q2 : List UInt8) (r : List (List UInt8)) (s : List UInt8) : Tl (q :: q2 :: r) s ↔ ∃ x y, s = x ++ (q ++ y) ∧ Tl (q2 :: r) y := by
  constructor
  · rintro ⟨x, y, rfl, u, v, rfl, h⟩
    exact ⟨x, u ++ v, rfl, u, v, rfl, h⟩
  · rintro ⟨x, y, rfl, u, v, rfl, h⟩
    exact ⟨x, q ++ (u ++ v), rfl, u, v, rfl, h⟩
/-- The loop of a matcher: what is left of the text, and whether all was found. -/
def fin (last : List UInt8) : List (List UInt8) → List UInt8 → Bool → Bool
  | [], s, ok => ok && Lib.hasSuffix s last
  | t :: ts, s, ok => if ok then fin last ts (Lib.cut s t).2.1 (Lib.cut s t).2.2 else false
theorem fin_false (last : List UInt8) (ts : List (List UInt8)) (s : List UInt8) : fin last ts s false = false := by cases ts <;> rfl
theorem fin_true (last : List UInt8) : ∀ (ts : List (List UInt8)) (s : List UInt8), fin last ts s true = true ↔ Tl (ts ++ [last]) s := by
  intro ts
  induction ts with
  | nil =>
    intro s
    show (true && Lib.hasSuffix s last) = true ↔ _
    rw [Bool.true_and]
    unfold Lib.hasSuffix
    rw [List.isSuffixOf_iff_suffix]
    constructor
    · rintro ⟨x, e⟩; exact ⟨x, last, e.symm, rfl⟩
    · rintro ⟨x, y, e, h⟩
      have h : y = last := h
      exact ⟨x, by rw [e, h]⟩
  | cons t ts ih =>
    intro s
    have hne : ∃ q r, ts ++ [last] = q :: r := by cases ts with | nil => exact ⟨_, _, rfl⟩ | cons a b => exact ⟨_, _, rfl⟩
    obtain ⟨q, r, eq⟩ := hne
    rw [List.cons_append, eq, Tl.two, ← eq]
    show (if true = true then fin last ts (Lib.cut s t).2.1 (Lib.cut s t).2.2 else false) = true ↔ _
    rw [if_pos rfl]
    rcases idx_cases t s with ⟨h1, h2⟩ | ⟨i, h1, ⟨x, y, e, hx⟩, h3⟩
    · unfold Lib.cut
      rw [h1, if_neg (by decide), fin_false]
      constructor
      · intro h; cases h
      · rintro ⟨x, y, e, _⟩; exact absurd e (h2 x y)
    · unfold Lib.cut
      rw [h1, if_pos (by omega)]
      show fin last ts (s.drop ((i : Int).toNat + t.length)) true = true ↔ _
      have ey : s.drop ((i : Int).toNat + t.length) = y := by
        rw [Int.toNat_natCast, e, ← List.append_assoc, List.drop_left' (by simp [hx])]
      rw [ey, ih]
      constructor
      · intro h; exact ⟨x, y, e, h⟩
      · rintro ⟨x', y', e', h⟩
        have hle := h3 x' y' e'
        have hd : ∃ z, y = z ++ y' := by
          have e1 : s = (x ++ t) ++ y := by rw [e, List.append_assoc]
          have e2 : s = (x' ++ t) ++ y' := by rw [e', List.append_assoc]
          rw [e1] at e2
          rcases List.append_eq_append_iff.1 e2 with ⟨z, e3, e4⟩ | ⟨z, e3, e4⟩
          · exact ⟨z, e4⟩
          · have hz : z.length = 0 := by have := congrArg List.length e3; simp at this; omega
            have : z = [] := List.length_eq_zero_iff.1 hz
            subst this
            exact ⟨[], by simpa using e4.symm⟩
        obtain ⟨z, rfl⟩ := hd
        exact h.later z
/-- The whole matcher at an alternative's pieces. -/
def fitsL : List (List UInt8) → List UInt8 → Bool
  | [], s => false
  | [p], s => decide (s = p)
  | p :: q :: r, s => fin ((q :: r).getLast (by simp)) (q :: r).dropLast (Lib.trimPrefix s p) (Lib.hasPrefix s p)
theorem fitsL_GP : ∀ (ps : List (List UInt8)) (s : List UInt8), fitsL ps s = true ↔ GP ps s
  | [], s => by simp [fitsL, GP]
  | [p], s => by simp [fitsL, GP]
  | p :: q :: r, s => by
    show fin ((q :: r).getLast (by simp)) (q :: r).dropLast (Lib.trimPrefix s p) (Lib.hasPrefix s p) = true ↔ ∃ x y, s = p ++ (x ++ y) ∧ GP (q :: r) y
    by_cases h : Lib.hasPrefix s p = true
    · have h0 := h
      unfold Lib.hasPrefix at h0
      obtain ⟨t, e⟩ := List.isPrefixOf_iff_prefix.1 h0
      subst e
      rw [h]
      have et : Lib.trimPrefix (p ++ t) p = t := by unfold Lib.trimPrefix; rw [if_pos h, List.drop_left' rfl]
      rw [et, fin_true, List.dropLast_concat_getLast]
      constructor
      · rintro ⟨x, y, rfl, hy⟩; exact ⟨x, y, rfl, hy⟩
      · rintro ⟨x, y, e, hy⟩; exact ⟨x, y, List.append_cancel_left e, hy⟩
    · rw [Bool.not_eq_true] at h
      rw [h, fin_false]
      constructor
      · intro h; cases h
      · rintro ⟨x, y, rfl, _⟩
        have : Lib.hasPrefix (p ++ (x ++ y)) p = true := by
          unfold Lib.hasPrefix
          exact List.isPrefixOf_iff_prefix.2 ⟨_, rfl⟩
        rw [this] at h; cases h
theorem fitsL_glob (a s : List UInt8) : fitsL (sp 42 a) s = glob (a.map f8) (s.map f8) := by
  rw [Bool.eq_iff_iff, fitsL_GP, glob_GP a.length a s (Nat.le_refl _)]
theorem like_fits (p s : List UInt8) : likeL (p.map f8) (s.map f8) = (sp 124 p).any (fun a => fitsL (sp 42 a) s) := by
  unfold likeL
  rw [alts_sp, List.any_map]
  congr 1
  funext a
  exact (fitsL_glob a s).symm
end Go.Proofs.YtpabbmiibehfjaaGreatDoor.Mt
