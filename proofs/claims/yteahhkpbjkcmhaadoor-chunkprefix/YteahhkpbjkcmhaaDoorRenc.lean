/- The document's own Encode. -/
import Derived.Test.YteahhkpbjkcmhaaDoorRedge
import Derived.Test.YteahhkpbjkcmhaaDoorRpts
namespace Go.Proofs.YteahhkpbjkcmhaaDoor
open Go.RowKit
set_option linter.unusedVariables false

theorem since_gb {w w' : World} (h : w.Since w.heap.size w') : w.grownBy w' none := ⟨h.os, h.tape, h.output, h.size, fun k hk _ => h.block k hk⟩
theorem gb_since {w w' : World} (h : w.grownBy w' none) : w.Since w.heap.size w' := ⟨h.os, h.tape, h.output, h.size, fun k hk => h.block k hk (by simp)⟩
theorem tape_new (w : World) : TapeIs (w.alloc (.cells #[.slice none 0 0, .int .i64 0] 48)) w.heap.size w.heap.size [] := by
  refine ⟨.slice none 0 0, ?_, Nat.le_refl _, ?_, by simp [Value.ownBlock]⟩
  · refine ⟨_, heap_alloc_new w _, rfl, fun i hi => ?_⟩
    match i, hi with
    | 0, _ => rfl
    | 1, _ => rfl
  · exact ⟨rfl, .inl ⟨rfl, rfl⟩⟩
/-- Between two rounds. -/
structure EncAt (ps : List Pt) (k : Nat) (l : List Bool) (d a b : Int) : Prop where
  len : l.length ≤ 200 + 160 * k
  zero : k = 0 → l = bitsI 13 ps.length ∧ d = 0 ∧ a = -1 ∧ b = 0
  next : ∀ t v, 0 < k → ps[k - 1]? = some (t, v) → encP ps = l ++ encL t v d a b (ps.drop k)
  win : a = -1 ∨ (0 ≤ a ∧ a ≤ 31 ∧ 0 ≤ b ∧ a + b ≤ 63)
  dist : -1099511627776 * 2 ≤ d ∧ d ≤ 1099511627776 * 2
theorem encZ_len (z : Int) : (encZ z).length ≤ 68 := by
  unfold encZ
  split
  · simp
  · split
    · simp [bitsI_len]
    · split
      · simp [bitsI_len]
      · split <;> simp [bitsI_len]
theorem EncAt.start (ps : List Pt) : EncAt ps 0 (bitsI 13 ps.length) 0 (-1) 0 := ⟨by rw [bitsI_len]; omega, fun _ => ⟨rfl, rfl, rfl, rfl⟩, fun _ _ h => absurd h (Nat.lt_irrefl _), .inl rfl, by omega⟩
theorem EncAt.one {ps : List Pt} {l : List Bool} {d a b t v : Int} (h : EncAt ps 0 l d a b) (hq : ps[0]? = some (t, v)) : EncAt ps 1 (l ++ bitsI 64 t ++ bitsI 64 v) d a b := by
  obtain ⟨e1, e2, e3, e4⟩ := h.zero rfl
  subst e1 e2 e3 e4
  refine ⟨by simp [bitsI_len], fun h => by omega, fun t' v' _ hq' => ?_, .inl rfl, by omega⟩
  match ps, hq, hq' with
  | q :: r, hq, hq' =>
    simp only [List.getElem?_cons_zero, Option.some.injEq, Nat.sub_self] at hq hq'
    subst hq
    cases hq'
    rw [encP]
    simp [List.append_assoc]
theorem EncAt.more {ps : List Pt} {k : Nat} {l : List Bool} {d a b t v t' v' : Int} (h : EncAt ps (k + 1) l d a b) (hp : ps[k]? = some (t, v)) (hq : ps[k + 1]? = some (t', v')) (hd : -1099511627776 * 2 ≤ t' - t ∧ t' - t ≤ 1099511627776 * 2)
    (hw : (encV a b (xorI v' v)).2.1 = -1 ∨ (0 ≤ (encV a b (xorI v' v)).2.1 ∧ (encV a b (xorI v' v)).2.1 ≤ 31 ∧ 0 ≤ (encV a b (xorI v' v)).2.2 ∧ (encV a b (xorI v' v)).2.1 + (encV a b (xorI v' v)).2.2 ≤ 63)) (hl : (encV a b (xorI v' v)).1.length ≤ 90) :
    EncAt ps (k + 1 + 1) (l ++ encZ (t' - t - d) ++ (encV a b (xorI v' v)).1) (t' - t) (encV a b (xorI v' v)).2.1 (encV a b (xorI v' v)).2.2 := by
  refine ⟨?_, fun h => by omega, fun t2 v2 _ hq2 => ?_, hw, hd⟩
  · have := h.len
    have := encZ_len (t' - t - d)
    simp only [List.length_append]
    omega
  · rw [Nat.add_sub_cancel, hq] at hq2
    cases hq2
    have e := h.next t v (by omega) (by rw [Nat.add_sub_cancel]; exact hp)
    obtain ⟨h1, h2⟩ := List.getElem?_eq_some_iff.1 hq
    rw [e, List.drop_eq_getElem_cons h1, h2, encL]
    simp [List.append_assoc]
theorem encV_len {a b x : Int} (hw : a = -1 ∨ (0 ≤ a ∧ a ≤ 31 ∧ 0 ≤ b ∧ a + b ≤ 63)) : (encV a b x).1.length ≤ 90 := by
  unfold encV
  split
  · simp
  · split
    · simp [bitsI_len]; omega
    · simp [bitsI_len]; omega
theorem encV_win {a b x : Int} (hw : a = -1 ∨ (0 ≤ a ∧ a ≤ 31 ∧ 0 ≤ b ∧ a + b ≤ 63)) (h0 : 0 ≤ x) (h1 : x < 2 ^ 64) : (encV a b x).2.1 = -1 ∨ (0 ≤ (encV a b x).2.1 ∧ (encV a b x).2.1 ≤ 31 ∧ 0 ≤ (encV a b x).2.2 ∧ (encV a b x).2.1 + (encV a b x).2.2 ≤ 63) := by
  unfold encV
  by_cases hx : x = 0
  · rw [if_pos hx]; exact hw
  · rw [if_neg hx]
    have hf := (edges_facts (by omega) h1).1
    split
    · exact hw
    · right
      show 0 ≤ min (leadN x : Int) 31 ∧ min (leadN x : Int) 31 ≤ 31 ∧ 0 ≤ (trailN x : Int) ∧ min (leadN x : Int) 31 + (trailN x : Int) ≤ 63
      omega
end Go.Proofs.YteahhkpbjkcmhaaDoor
