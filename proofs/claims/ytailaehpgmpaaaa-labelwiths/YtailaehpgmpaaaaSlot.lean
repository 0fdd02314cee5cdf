/- Slices of elements of any one type: read, and made by the call. -/
import Derived.Test.YtailaehpgmpaaaaRows
import Derived.WalkKit
import Derived.WalkSpells
import Derived.WalkLawsBesides
import Derived.Laws.AppendOwnNone
import Derived.Deep.AppendLies
import Derived.Laws.CopyOwn
import Derived.ArgAppend
import Derived.Deep.QuietTactic
import Derived.BigQuiet
import Derived.BigRegion
import Derived.ProofKit
import Derived.OpenShut
import Derived.ShutString
import Derived.ChangeOld
import Derived.SizedLaws
namespace Go.Proofs.Ytailaehpgmpaaaa
open Go.ChangeShapes Go.WideShapes Go.ChangeAt Go.RowKit

/-- How elements of a type lie in memory: so many cells each. -/
structure Elem (α : Type) where
  cells : α → List Value
  size : Nat
  pos : 0 < size
  len : ∀ x, (cells x).length = size
  one : ∀ x, ∀ v ∈ cells x, v.oneCell' = true

section
variable {α : Type} (E : Elem α)
def Elem.flat (l : List α) : List Value := l.flatMap E.cells
theorem Elem.flat_len (l : List α) : (E.flat l).length = l.length * E.size := by
  unfold Elem.flat
  induction l with
  | nil => simp
  | cons x r ih => rw [List.flatMap_cons, List.length_append, E.len, ih, List.length_cons, Nat.succ_mul]; omega
theorem Elem.flat_app (l r : List α) : E.flat (l ++ r) = E.flat l ++ E.flat r := by simp [Elem.flat]
theorem Elem.flat_one (l : List α) : ∀ v ∈ E.flat l, v.oneCell' = true := by
  intro v hv
  simp only [Elem.flat, List.mem_flatMap] at hv
  obtain ⟨x, _, h⟩ := hv
  exact E.one x v h
theorem Elem.flat_get (l : List α) : ∀ (i : Nat) (x : α) (j : Nat), l[i]? = some x → j < E.size → (E.flat l)[i * E.size + j]? = (E.cells x)[j]? := by
  induction l with
  | nil => intro i x j h; simp at h
  | cons y r ih =>
    intro i x j h hj
    have hl := E.len y
    unfold Elem.flat
    rw [List.flatMap_cons]
    cases i with
    | zero =>
      simp only [List.getElem?_cons_zero, Option.some.injEq] at h
      subst h
      rw [Nat.zero_mul, Nat.zero_add, List.getElem?_append_left (by omega)]
    | succ i =>
      simp only [List.getElem?_cons_succ] at h
      rw [List.getElem?_append_right (by rw [hl, Nat.succ_mul]; omega), hl, show (i + 1) * E.size + j - E.size = i * E.size + j by rw [Nat.succ_mul]; omega]
      exact ih i x j h hj
theorem Elem.flat_take (l : List α) (n : Nat) : E.flat (l.take n) = (E.flat l).take (n * E.size) := by
  induction l generalizing n with
  | nil => simp [Elem.flat]
  | cons x r ih =>
    cases n with
    | zero => simp [Elem.flat]
    | succ n =>
      have hl := E.len x
      have := ih n
      unfold Elem.flat at this ⊢
      rw [List.take_succ_cons, List.flatMap_cons, List.flatMap_cons, this, List.take_append, hl, show (n + 1) * E.size - E.size = n * E.size by rw [Nat.succ_mul]; omega, List.take_of_length_le (l := E.cells x) (by rw [hl, Nat.succ_mul]; omega)]

/-- A slice is read as a list. -/
def SRd (w : World) (a : Option Addr) (l : List α) : Prop := l = [] ∨ ∃ b off, a = some ⟨b, off, none⟩ ∧ ∀ j v, (E.flat l)[j]? = some v → w.cell? ⟨b, off + j, none⟩ = some v
end
section
variable {α : Type} {E : Elem α}
theorem SRd.at {w : World} {a : Option Addr} {l : List α} (h : SRd E w a l) (hl : 0 < l.length) : ∃ b off, a = some ⟨b, off, none⟩ ∧ ∀ i x j v, l[i]? = some x → (E.cells x)[j]? = some v → w.cell? ⟨b, off + (i * E.size + j), none⟩ = some v := by
  rcases h with rfl | ⟨b, off, e, h⟩
  · simp at hl
  · refine ⟨b, off, e, fun i x j v hx hv => h _ _ ?_⟩
    rw [E.flat_get l i x j hx (by have h1 := (List.getElem?_eq_some_iff.1 hv).1; rw [E.len] at h1; exact h1)]
    exact hv
theorem SRd.none {w : World} {l : List α} (h : SRd E w none l) : l = [] := by
  rcases h with h | ⟨b, off, e, _⟩
  · exact h
  · cases e
theorem SRd.nil (w : World) (a : Option Addr) : SRd E w a [] := .inl rfl
theorem SRd.news {w : World} {ad : Addr} {l : List α} (h : SRd E w (some ad) l) : ∀ j u, (E.flat l)[j]? = some u → w.cell? (ad.add j) = some u := by
  intro j u hj
  rcases h with rfl | ⟨b, off, e, h⟩
  · simp [Elem.flat] at hj
  · cases e
    by_cases h0 : j = 0
    · subst h0; exact h 0 u hj
    · have := h j u hj
      simpa [Addr.add, h0] using this
theorem SRd.grown {w w' : World} {row : Option Nat} {a : Option Addr} {l : List α} (h : SRd E w a l) (hg : w.grownBy w' row) (hne : ∀ x, a = some x → some x.block ≠ row) : SRd E w' a l := by
  rcases h with h | ⟨b, off, e, h⟩
  · exact .inl h
  · exact .inr ⟨b, off, e, fun j v hj => hg.cell (h j v hj) (hne ⟨b, off, Option.none⟩ e)⟩
theorem SRd.drewN {w : World} {a : Option Addr} {l : List α} (h : SRd E w a l) (n : Nat) : SRd E (w.drewN n) a l := h

/-- A slice that the call made, or none yet. -/
def SOwn (E : Elem α) (e : TypeId) (w : World) (base : Nat) (v : Value) (n : Nat) (l : List α) : Prop := w.ownsRow base e E.size v n (E.flat l)
theorem SOwn.len {e : TypeId} {w : World} {base n : Nat} {v : Value} {l : List α} (h : SOwn E e w base v n l) : l.length = n := by
  have h1 := h.1
  rw [E.flat_len] at h1
  exact Nat.eq_of_mul_eq_mul_right E.pos h1
theorem SOwn.nil (e : TypeId) (w : World) (base : Nat) : SOwn E e w base (.slice none 0 0) 0 ([] : List α) := World.ownsRow_nil w base e E.size
theorem SOwn.kept {e : TypeId} {w w' : World} {row : Option Nat} {base n : Nat} {v : Value} {l : List α} (h : SOwn E e w base v n l) (hg : w.grownBy w' row) (hne : v.ownBlock = none ∨ v.ownBlock ≠ row) : SOwn E e w' base v n l := World.ownsRow.kept h hg hne
theorem SOwn.block {e : TypeId} {w : World} {base n : Nat} {v : Value} {l : List α} (h : SOwn E e w base v n l) : ∀ k, v.ownBlock = some k → base ≤ k ∧ k < w.heap.size := World.ownsRow.lt h
theorem SOwn.some {e : TypeId} {w : World} {base n : Nat} {v : Value} {l : List α} (h : SOwn E e w base v n l) (hn : v ≠ .slice none 0 0) : ∃ g cap, v = .slice (some ⟨g, 0, none⟩) n cap ∧ base ≤ g ∧ g < w.heap.size ∧ n ≤ cap ∧ cap ≤ maxLen := by
  rcases h.2 with ⟨h', _⟩ | ⟨g, cap, cur, h', h1, h2, h3, h4, _⟩
  · exact absurd h' hn
  · exact ⟨g, cap, h', h1, (Array.getElem?_eq_some_iff.1 h2).1, h3, h4⟩
theorem SOwn.rd {e : TypeId} {w : World} {base n : Nat} {a : Option Addr} {c : Nat} {l : List α} (h : SOwn E e w base (.slice a n c) n l) : SRd E w a l := by
  rcases h.2 with ⟨h', h0⟩ | ⟨g, cap, cur, h', h1, h2, h3, h4, h5, h6⟩
  · refine .inl (List.eq_nil_of_length_eq_zero ?_)
    rw [h.len, h0]
  · simp only [Value.slice.injEq] at h'
    obtain ⟨rfl, _, rfl⟩ := h'
    refine .inr ⟨g, 0, rfl, fun j v hj => ?_⟩
    rw [Nat.zero_add, cell_of_row w g j cur e _ h2]
    rw [← h6] at hj
    rw [List.getElem?_take] at hj
    split at hj
    · simpa using hj
    · simp at hj
theorem SOwn.base {e : TypeId} {w : World} {base base' n : Nat} {v : Value} {l : List α} (h : SOwn E e w base v n l) (hb : base' ≤ base) : SOwn E e w base' v n l := by
  refine ⟨h.1, ?_⟩
  rcases h.2 with h' | ⟨g', cap', cur, h', h0, r⟩
  · exact .inl h'
  · exact .inr ⟨g', cap', cur, h', Nat.le_trans hb h0, r⟩
theorem SOwn.empty (E : Elem α) (e : TypeId) (w : World) : SOwn E e (w.alloc (.cells #[] e)) w.heap.size (.slice (Option.some ⟨w.heap.size, 0, Option.none⟩) 0 0) 0 ([] : List α) := by
  have := World.ownsRow_made (e := e) (size := E.size) (base := w.heap.size) w #[] 0 (Nat.le_refl _) (Nat.zero_le _) (by simp)
  simpa [SOwn, Elem.flat] using this

/-- What is known of an element's type. -/
structure ElemOf (E : Elem α) (P : Program) (t e : TypeId) (bytes : Nat) : Prop where
  under : P.underlying t = some (.slice e)
  info : ∃ i z, P.info? e = some i ∧ i.zero = some z ∧ i.size = E.size ∧ i.bytes = bytes ∧ z.cells.size = E.size

/-- append(out, xs...): out is the call's own or none, xs whatever is read. -/
theorem wpList_append_s {P : Program} {t e : TypeId} {bytes : Nat} (T : ElemOf E P t e bytes) {w : World} {ops : Array Oper} {rest : List Oper} {o : Oper} {a : Act} {Q : Exit → Act → World → Prop} (hgd : o.guard = none) (s x : Operand)
    (ho : o.op = .call { callee := .builtin .append, args := #[s, x], argTypes := #[t, t] }) (base : Nat) (v : Value) (n : Nat) (xs : List α) (hs : a.eval s = v) (hown : SOwn E e w base v n xs)
    (src : Option Addr) (zs : List α) (m cap : Nat) (hx : a.eval x = .slice src m cap) (hm : zs.length = m) (hr : SRd E w src zs) (hnil : src = Option.none → cap = 0) (hlen : (n + m) * bytes ≤ 140737488355328) (hmax : n + m ≤ maxLen) (hb : base ≤ w.heap.size)
    (h : ∀ v' w', SOwn E e w' base v' (n + m) (xs ++ zs) → w.grownBy w' v.ownBlock → (v' = .slice Option.none 0 0 → v = .slice Option.none 0 0 ∧ m = 0) → wpList P ops Q rest (a.put o.dst v') w') : wpList P ops Q (o :: rest) a w := by
  obtain ⟨i0, z, hi, hz0, hz1, hz2, hz3⟩ := T.info
  subst hm
  cases src with
  | none =>
    obtain rfl := hnil rfl
    obtain rfl := hr.none
    refine wpList_append_own_none hgd s x t ho base e i0 E.size T.under hi v n (E.flat xs) hs hown hx ?_
    have := h v w (by simpa using hown) (World.grownBy.refl _ _) (fun h => ⟨h, rfl⟩)
    simpa using this
  | some ad =>
    refine wpList_append_own _ hgd s x t ho base e i0 z E.size bytes T.under hi hz0 hz1 hz2 hz3 E.pos _ n (E.flat xs) hs hown ad zs.length cap (E.flat zs) hx (E.flat_len zs) hr.news (E.flat_one zs) hmax hlen hb ?_
    intro v' w' hown' hg hne
    rw [← E.flat_app] at hown'
    exact h v' w' hown' hg (fun h => hne.1 h)
end
end Go.Proofs.Ytailaehpgmpaaaa
