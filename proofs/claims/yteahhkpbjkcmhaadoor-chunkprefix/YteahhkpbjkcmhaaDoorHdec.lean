/- What has been read, between two rounds. -/
import Derived.Test.YteahhkpbjkcmhaaDoorRzero2
import Derived.Test.YteahhkpbjkcmhaaDoorMh
namespace Go.Proofs.YteahhkpbjkcmhaaDoor
open Go.RowKit
set_option linter.unusedVariables false

/-- A value's difference, read. -/
def ValR (a w : Int) (st st' : Option (List Bool)) (x a' w' : Int) : Prop :=
  match st with
  | none => st' = none
  | some l => match decV a w l with
    | some (q, r) => q = (x, a', w') ∧ st' = some r
    | none => st' = none
theorem get1_nil {l : List Bool} (h : Go.Proofs.YteahhkpbjkcmhaaDoor.get 1 l = none) : l = [] := by
  unfold Go.Proofs.YteahhkpbjkcmhaaDoor.get at h
  split at h
  · cases h
  · exact List.length_eq_zero_iff.1 (by omega)
/-- One bit that is read, and what it says. -/
theorem bit_one {st st' : Option (List Bool)} {c : Int} (h : GetR 1 st st' c) (hc : c = 1) : (st = none ∧ st' = none) ∨ ∃ r, st = some (true :: r) ∧ st' = some r := by
  unfold GetR at h
  cases st with
  | none => exact .inl ⟨rfl, h⟩
  | some l =>
    simp only at h
    cases e : Go.Proofs.YteahhkpbjkcmhaaDoor.get 1 l with
    | none => rw [e] at h; exact absurd (hc.symm.trans h.1) (by decide)
    | some q =>
      obtain ⟨u, r⟩ := q
      rw [e] at h
      simp only at h
      rcases get_one e with ⟨hu, _⟩ | ⟨_, el⟩
      · exact absurd (hc.symm.trans (h.1.trans hu)) (by decide)
      · exact .inr ⟨r, by rw [el], h.2⟩
theorem bit_not {st st' : Option (List Bool)} {c : Int} (h : GetR 1 st st' c) (hc : c ≠ 1) : (st = none ∧ st' = none) ∨ (st = some [] ∧ st' = none) ∨ ∃ r, st = some (false :: r) ∧ st' = some r := by
  unfold GetR at h
  cases st with
  | none => exact .inl ⟨rfl, h⟩
  | some l =>
    simp only at h
    cases e : Go.Proofs.YteahhkpbjkcmhaaDoor.get 1 l with
    | none => rw [e] at h; exact .inr (.inl ⟨by rw [get1_nil e], h.2⟩)
    | some q =>
      obtain ⟨u, r⟩ := q
      rw [e] at h
      simp only at h
      rcases get_one e with ⟨_, el⟩ | ⟨hu, _⟩
      · exact .inr (.inr ⟨r, by rw [el], h.2⟩)
      · exact absurd (h.1.trans hu) hc
theorem ValR.zero {a w c : Int} {s s1 : Option (List Bool)} (h : GetR 1 s s1 c) (hc : c ≠ 1) : ValR a w s s1 0 a w := by
  rcases bit_not h hc with ⟨rfl, rfl⟩ | ⟨rfl, rfl⟩ | ⟨r, rfl, rfl⟩
  · rfl
  · rfl
  · exact ⟨rfl, rfl⟩
theorem ValR.oldbad {a w c c2 x : Int} {s s1 s2 : Option (List Bool)} (h : GetR 1 s s1 c) (hc : c = 1) (h2 : GetR 1 s1 s2 c2) (hc2 : c2 ≠ 1) (hb : a + w > 64) : ValR a w s none x a w := by
  rcases bit_one h hc with ⟨rfl, rfl⟩ | ⟨r, rfl, rfl⟩
  · rfl
  · rcases bit_not h2 hc2 with ⟨h, _⟩ | ⟨h, _⟩ | ⟨r', h, _⟩
    · cases h
    · cases h; rfl
    · cases h
      unfold ValR decV
      simp only [if_pos hb]
theorem ValR.old {a w c c2 u : Int} {s s1 s2 s3 : Option (List Bool)} (h : GetR 1 s s1 c) (hc : c = 1) (h2 : GetR 1 s1 s2 c2) (hc2 : c2 ≠ 1) (hb : ¬ a + w > 64) (h3 : GetR w.toNat s2 s3 u) : ValR a w s s3 (u * 2 ^ (64 - a - w).toNat) a w := by
  rcases bit_one h hc with ⟨rfl, rfl⟩ | ⟨r, rfl, rfl⟩
  · rcases bit_not h2 hc2 with ⟨_, rfl⟩ | ⟨h, _⟩ | ⟨r', h, _⟩
    · exact h3
    · cases h
    · cases h
  · rcases bit_not h2 hc2 with ⟨h, _⟩ | ⟨h, rfl⟩ | ⟨r', h, rfl⟩
    · cases h
    · cases h; exact h3
    · cases h
      unfold ValR decV
      simp only [if_neg hb]
      unfold GetR at h3
      simp only at h3
      cases e : Go.Proofs.YteahhkpbjkcmhaaDoor.get w.toNat r' with
      | none => rw [e] at h3; exact h3.2
      | some q =>
        obtain ⟨y, r2⟩ := q
        rw [e] at h3
        simp only at h3
        obtain ⟨rfl, rfl⟩ := h3
        exact ⟨rfl, rfl⟩
theorem ValR.new {a w c c2 a' w6 : Int} {s s1 s2 s3 s4 : Option (List Bool)} (h : GetR 1 s s1 c) (hc : c = 1) (h2 : GetR 1 s1 s2 c2) (hc2 : c2 = 1) (h5 : GetR 5 s2 s3 a') (h6 : GetR 6 s3 s4 w6) :
    (s = none ∧ s4 = none) ∨ (∃ l, s = some l ∧ decV a w l = none ∧ s4 = none) ∨ ∃ l r, s = some l ∧ s4 = some r ∧ decV a w l = if a' + (w6 + 1) > 64 then none else (Go.Proofs.YteahhkpbjkcmhaaDoor.get (w6 + 1).toNat r).map fun u => ((u.1 * 2 ^ (64 - a' - (w6 + 1)).toNat, a', w6 + 1), u.2) := by
  rcases bit_one h hc with ⟨rfl, rfl⟩ | ⟨r, rfl, rfl⟩
  · rcases bit_one h2 hc2 with ⟨_, rfl⟩ | ⟨r, h, _⟩
    · unfold GetR at h5; simp only at h5; subst h5; exact .inl ⟨rfl, h6⟩
    · cases h
  · rcases bit_one h2 hc2 with ⟨h, _⟩ | ⟨r', h, rfl⟩
    · cases h
    · cases h
      unfold GetR at h5
      simp only at h5
      refine .inr ?_
      cases e : Go.Proofs.YteahhkpbjkcmhaaDoor.get 5 r' with
      | none =>
        rw [e] at h5
        obtain ⟨_, rfl⟩ := h5
        exact .inl ⟨_, rfl, by simp only [decV, e, Option.bind_none], h6⟩
      | some q =>
        obtain ⟨y, r2⟩ := q
        rw [e] at h5
        simp only at h5
        obtain ⟨rfl, rfl⟩ := h5
        unfold GetR at h6
        simp only at h6
        cases e2 : Go.Proofs.YteahhkpbjkcmhaaDoor.get 6 r2 with
        | none =>
          rw [e2] at h6
          exact .inl ⟨_, rfl, by simp only [decV, e, e2, Option.bind_none, Option.bind_some], h6.2⟩
        | some q2 =>
          obtain ⟨y2, r3⟩ := q2
          rw [e2] at h6
          simp only at h6
          obtain ⟨rfl, rfl⟩ := h6
          exact .inr ⟨_, r3, rfl, rfl, by simp only [decV, e, e2, Option.bind_some]⟩
theorem ValR.newbad {a w c c2 a' w6 x : Int} {s s1 s2 s3 s4 : Option (List Bool)} (h : GetR 1 s s1 c) (hc : c = 1) (h2 : GetR 1 s1 s2 c2) (hc2 : c2 = 1) (h5 : GetR 5 s2 s3 a') (h6 : GetR 6 s3 s4 w6) (hb : a' + (w6 + 1) > 64) : ValR a w s none x a' (w6 + 1) := by
  rcases ValR.new (a := a) (w := w) h hc h2 hc2 h5 h6 with ⟨rfl, rfl⟩ | ⟨l, rfl, e, rfl⟩ | ⟨l, r, rfl, rfl, e⟩
  · rfl
  · unfold ValR; simp only [e]
  · unfold ValR; simp only [e, if_pos hb]
theorem ValR.newok {a w c c2 a' w6 u : Int} {s s1 s2 s3 s4 s5 : Option (List Bool)} (h : GetR 1 s s1 c) (hc : c = 1) (h2 : GetR 1 s1 s2 c2) (hc2 : c2 = 1) (h5 : GetR 5 s2 s3 a') (h6 : GetR 6 s3 s4 w6) (hb : ¬ a' + (w6 + 1) > 64) (h7 : GetR (w6 + 1).toNat s4 s5 u) : ValR a w s s5 (u * 2 ^ (64 - a' - (w6 + 1)).toNat) a' (w6 + 1) := by
  rcases ValR.new (a := a) (w := w) h hc h2 hc2 h5 h6 with ⟨rfl, rfl⟩ | ⟨l, rfl, e, rfl⟩ | ⟨l, r, rfl, rfl, e⟩
  · exact h7
  · unfold ValR; simp only [e]; exact h7
  · unfold ValR
    simp only [e, if_neg hb]
    unfold GetR at h7
    simp only at h7
    cases e7 : Go.Proofs.YteahhkpbjkcmhaaDoor.get (w6 + 1).toNat r with
    | none => rw [e7] at h7; exact h7.2
    | some q =>
      obtain ⟨y, r2⟩ := q
      rw [e7] at h7
      simp only at h7
      obtain ⟨rfl, rfl⟩ := h7
      exact ⟨rfl, rfl⟩
/-- So many points have been read. -/
def DecAt (zs : List Int) (n : Int) (i : Nat) (ps : List Pt) (st : Option (List Bool)) (d a w : Int) : Prop :=
  (st = none ∧ decP (unpack zs) = none) ∨ ∃ l, st = some l ∧ ((i = 0 ∧ ps = [] ∧ d = 0 ∧ a = 0 ∧ w = 0 ∧ Go.Proofs.YteahhkpbjkcmhaaDoor.get 13 (unpack zs) = some (n, l)) ∨
    (0 < i ∧ ∃ t v, ps[i - 1]? = some (t, v) ∧ decP (unpack zs) = (decL (n.toNat - i) t v d a w l).map fun u => (ps ++ u.1, u.2)))
theorem DecAt.start {zs : List Int} {n : Int} {s : Option (List Bool)} (h : GetR 13 (some (unpack zs)) s n) : DecAt zs n 0 [] s 0 0 0 := by
  unfold GetR at h
  simp only at h
  cases e : Go.Proofs.YteahhkpbjkcmhaaDoor.get 13 (unpack zs) with
  | none => rw [e] at h; exact .inl ⟨h.2, by unfold decP; rw [e]; rfl⟩
  | some q =>
    obtain ⟨y, r⟩ := q
    rw [e] at h
    simp only at h
    obtain ⟨rfl, rfl⟩ := h
    exact .inr ⟨r, rfl, .inl ⟨rfl, rfl, rfl, rfl, rfl, e⟩⟩
theorem DecAt.one {zs : List Int} {n d a w x y : Int} {ps : List Pt} {st s1 s2 : Option (List Bool)} (h : DecAt zs n 0 ps st d a w) (hn : 0 < n) (h1 : GetSR 64 st s1 x) (h2 : GetR 64 s1 s2 y) : DecAt zs n 1 [(x, y)] s2 d a w := by
  rcases h with ⟨rfl, hd⟩ | ⟨l, rfl, ⟨_, rfl, rfl, rfl, rfl, hg⟩ | ⟨h0, _⟩⟩
  · unfold GetSR at h1; simp only at h1; subst h1; exact .inl ⟨h2, hd⟩
  · unfold GetSR at h1
    simp only at h1
    have hp : decP (unpack zs) = (getS 64 l).bind fun t => (Go.Proofs.YteahhkpbjkcmhaaDoor.get 64 t.2).bind fun v => (decL (n.toNat - 1) t.1 v.1 0 0 0 v.2).map fun u => ((t.1, v.1) :: u.1, u.2) := by
      unfold decP
      rw [hg, Option.bind_some]
      simp only
      rw [if_neg (by omega)]
    cases e : getS 64 l with
    | none => rw [e] at h1 hp; simp only at h1; subst h1; exact .inl ⟨h2, hp⟩
    | some q =>
      obtain ⟨x', r⟩ := q
      rw [e] at h1 hp
      simp only at h1
      obtain ⟨rfl, rfl⟩ := h1
      unfold GetR at h2
      simp only at h2
      rw [Option.bind_some] at hp
      simp only at hp
      cases e2 : Go.Proofs.YteahhkpbjkcmhaaDoor.get 64 r with
      | none => rw [e2] at h2 hp; exact .inl ⟨h2.2, hp⟩
      | some q2 =>
        obtain ⟨y', r2⟩ := q2
        rw [e2] at h2 hp
        simp only at h2
        obtain ⟨rfl, rfl⟩ := h2
        exact .inr ⟨r2, rfl, .inr ⟨by omega, x, y, rfl, hp⟩⟩
  · omega
theorem DecAt.more {zs : List Int} {n d a w z x a' w' t v : Int} {i : Nat} {ps : List Pt} {st s1 s2 : Option (List Bool)} (h : DecAt zs n i ps st d a w) (hi : 0 < i) (hn : (i : Int) < n) (hl : ps.length = i) (hq : ps[i - 1]? = some (t, v)) (h1 : GetZR st s1 z) (h2 : ValR a w s1 s2 x a' w') :
    DecAt zs n (i + 1) (ps ++ [(IntKind.i64.wrap (t + IntKind.i64.wrap (d + z)), xorI v x)]) s2 (IntKind.i64.wrap (d + z)) a' w' := by
  rcases h with ⟨rfl, hd⟩ | ⟨l, rfl, ⟨h0, _⟩ | ⟨_, t', v', hq', hp⟩⟩
  · unfold GetZR at h1; simp only at h1; subst h1; exact .inl ⟨h2, hd⟩
  · omega
  · rw [hq'] at hq
    simp only [Option.some.injEq, Prod.mk.injEq] at hq
    obtain ⟨rfl, rfl⟩ := hq
    have en : n.toNat - i = (n.toNat - (i + 1)) + 1 := by omega
    rw [en] at hp
    simp only [decL] at hp
    unfold GetZR at h1
    simp only at h1
    cases e : decZ l with
    | none => rw [e] at h1 hp; simp only at h1; subst h1; exact .inl ⟨h2, hp⟩
    | some q =>
      obtain ⟨z', r⟩ := q
      rw [e] at h1 hp
      simp only at h1
      obtain ⟨rfl, rfl⟩ := h1
      rw [Option.bind_some] at hp
      simp only at hp
      unfold ValR at h2
      simp only at h2
      cases e2 : decV a w r with
      | none => rw [e2] at h2 hp; exact .inl ⟨h2, hp⟩
      | some q2 =>
        obtain ⟨y', r2⟩ := q2
        rw [e2] at h2 hp
        simp only at h2
        obtain ⟨rfl, rfl⟩ := h2
        refine .inr ⟨r2, rfl, .inr ⟨by omega, IntKind.i64.wrap (t' + IntKind.i64.wrap (d + z)), xorI v' x, ?_, ?_⟩⟩
        · rw [Nat.add_sub_cancel, ← hl, List.getElem?_append_right (Nat.le_refl _), Nat.sub_self]
          rfl
        · rw [hp, Option.bind_some]
          simp only
          cases decL (n.toNat - (i + 1)) (IntKind.i64.wrap (t' + IntKind.i64.wrap (d + z))) (xorI v' x) (IntKind.i64.wrap (d + z)) a' w' r2 with
          | none => rfl
          | some u => simp
theorem DecAt.bad {zs : List Int} {n d a w : Int} {i : Nat} {ps : List Pt} (h : DecAt zs n i ps none d a w) : decR zs = none := by
  rcases h with ⟨_, hd⟩ | ⟨l, h, _⟩
  · unfold decR; rw [hd]
  · cases h
theorem DecAt.done {zs : List Int} {n d a w : Int} {i : Nat} {ps : List Pt} {st : Option (List Bool)} (h : DecAt zs n i ps st d a w) (hs : st ≠ none) (hn : n = i) : decR zs = if okTimes ps = true ∧ pack (encP ps) = zs then some ps else none := by
  rcases h with ⟨h, _⟩ | ⟨l, rfl, ⟨rfl, rfl, rfl, rfl, rfl, hg⟩ | ⟨h0, t, v, hq, hp⟩⟩
  · exact absurd h hs
  · unfold decR decP
    rw [hg, Option.bind_some]
    simp only
    rw [if_pos (by omega)]
  · have en : n.toNat - i = 0 := by omega
    rw [en] at hp
    simp only [decL, Option.map_some, List.append_nil] at hp
    unfold decR
    rw [hp]
end Go.Proofs.YteahhkpbjkcmhaaDoor
