/- Several texts in one: Slot, Bytes, Labs, Txts. -/
import Derived.Test.YtecnocdffhmkaaaDoorRows
import Derived.WalkKit
import Derived.WalkSpells
import Derived.WalkLawsBesides
import Derived.Laws.AppendOwnNone
import Derived.Deep.AppendLies
import Derived.Laws.CopyOwn
import Derived.ArgAppend
import Derived.Deep.QuietTactic
import Derived.BigQuiet
import Derived.BigRegion
import Derived.ProofKit
import Derived.OpenShut
import Derived.ShutString
import Derived.ChangeOld
import Derived.SizedLaws
/- Slices of elements of any one type: read, and made by the call. -/
namespace Go.Proofs.YtecnocdffhmkaaaDoor
set_option linter.unusedVariables false
set_option maxRecDepth 20000
open Go.ChangeShapes Go.WideShapes Go.ChangeAt Go.RowKit

/-- How elements of a type lie in memory: so many cells each. -/
structure Elem (α : Type) where
  cells : α → List Value
  size : Nat
  pos : 0 < size
  len : ∀ x, (cells x).length = size
  one : ∀ x, ∀ v ∈ cells x, v.oneCell' = true

section
variable {α : Type} (E : Elem α)
def Elem.flat (l : List α) : List Value := l.flatMap E.cells
theorem Elem.flat_len (l : List α) : (E.flat l).length = l.length * E.size := by
  unfold Elem.flat
  induction l with
  | nil => simp
  | cons x r ih => rw [List.flatMap_cons, List.length_append, E.len, ih, List.length_cons, Nat.succ_mul]; omega
theorem Elem.flat_app (l r : List α) : E.flat (l ++ r) = E.flat l ++ E.flat r := by simp [Elem.flat]
theorem Elem.flat_one (l : List α) : ∀ v ∈ E.flat l, v.oneCell' = true := by
  intro v hv
  simp only [Elem.flat, List.mem_flatMap] at hv
  obtain ⟨x, _, h⟩ := hv
  exact E.one x v h
theorem Elem.flat_get (l : List α) : ∀ (i : Nat) (x : α) (j : Nat), l[i]? = some x → j < E.size → (E.flat l)[i * E.size + j]? = (E.cells x)[j]? := by
  induction l with
  | nil => intro i x j h; simp at h
  | cons y r ih =>
    intro i x j h hj
    have hl := E.len y
    unfold Elem.flat
    rw [List.flatMap_cons]
    cases i with
    | zero =>
      simp only [List.getElem?_cons_zero, Option.some.injEq] at h
      subst h
      rw [Nat.zero_mul, Nat.zero_add, List.getElem?_append_left (by omega)]
    | succ i =>
      simp only [List.getElem?_cons_succ] at h
      rw [List.getElem?_append_right (by rw [hl, Nat.succ_mul]; omega), hl, show (i + 1) * E.size + j - E.size = i * E.size + j by rw [Nat.succ_mul]; omega]
      exact ih i x j h hj
theorem Elem.flat_take (l : List α) (n : Nat) : E.flat (l.take n) = (E.flat l).take (n * E.size) := by
  induction l generalizing n with
  | nil => simp [Elem.flat]
  | cons x r ih =>
    cases n with
    | zero => simp [Elem.flat]
    | succ n =>
      have hl := E.len x
      have := ih n
      unfold Elem.flat at this ⊢
      rw [List.take_succ_cons, List.flatMap_cons, List.flatMap_cons, this, List.take_append, hl, show (n + 1) * E.size - E.size = n * E.size by rw [Nat.succ_mul]; omega, List.take_of_length_le (l := E.cells x) (by rw [hl, Nat.succ_mul]; omega)]

/-- A slice is read as a list. -/
def SRd (w : World) (a : Option Addr) (l : List α) : Prop := l = [] ∨ ∃ b off, a = some ⟨b, off, none⟩ ∧ ∀ j v, (E.flat l)[j]? = some v → w.cell? ⟨b, off + j, none⟩ = some v
end
section
variable {α : Type} {E : Elem α}
theorem SRd.at {w : World} {a : Option Addr} {l : List α} (h : SRd E w a l) (hl : 0 < l.length) : ∃ b off, a = some ⟨b, off, none⟩ ∧ ∀ i x j v, l[i]? = some x → (E.cells x)[j]? = some v → w.cell? ⟨b, off + (i * E.size + j), none⟩ = some v := by
  rcases h with rfl | ⟨b, off, e, h⟩
  · simp at hl
  · refine ⟨b, off, e, fun i x j v hx hv => h _ _ ?_⟩
    rw [E.flat_get l i x j hx (by have h1 := (List.getElem?_eq_some_iff.1 hv).1; rw [E.len] at h1; exact h1)]
    exact hv
theorem SRd.none {w : World} {l : List α} (h : SRd E w none l) : l = [] := by
  rcases h with h | ⟨b, off, e, _⟩
  · exact h
  · cases e
theorem SRd.nil (w : World) (a : Option Addr) : SRd E w a [] := .inl rfl
theorem SRd.news {w : World} {ad : Addr} {l : List α} (h : SRd E w (some ad) l) : ∀ j u, (E.flat l)[j]? = some u → w.cell? (ad.add j) = some u := by
  intro j u hj
  rcases h with rfl | ⟨b, off, e, h⟩
  · simp [Elem.flat] at hj
  · cases e
    by_cases h0 : j = 0
    · subst h0; exact h 0 u hj
    · have := h j u hj
      simpa [Addr.add, h0] using this
theorem SRd.grown {w w' : World} {row : Option Nat} {a : Option Addr} {l : List α} (h : SRd E w a l) (hg : w.grownBy w' row) (hne : ∀ x, a = some x → some x.block ≠ row) : SRd E w' a l := by
  rcases h with h | ⟨b, off, e, h⟩
  · exact .inl h
  · exact .inr ⟨b, off, e, fun j v hj => hg.cell (h j v hj) (hne ⟨b, off, Option.none⟩ e)⟩
theorem SRd.drewN {w : World} {a : Option Addr} {l : List α} (h : SRd E w a l) (n : Nat) : SRd E (w.drewN n) a l := h

/-- A slice that the call made, or none yet. -/
def SOwn (E : Elem α) (e : TypeId) (w : World) (base : Nat) (v : Value) (n : Nat) (l : List α) : Prop := w.ownsRow base e E.size v n (E.flat l)
theorem SOwn.len {e : TypeId} {w : World} {base n : Nat} {v : Value} {l : List α} (h : SOwn E e w base v n l) : l.length = n := by
  have h1 := h.1
  rw [E.flat_len] at h1
  exact Nat.eq_of_mul_eq_mul_right E.pos h1
theorem SOwn.nil (e : TypeId) (w : World) (base : Nat) : SOwn E e w base (.slice none 0 0) 0 ([] : List α) := World.ownsRow_nil w base e E.size
theorem SOwn.kept {e : TypeId} {w w' : World} {row : Option Nat} {base n : Nat} {v : Value} {l : List α} (h : SOwn E e w base v n l) (hg : w.grownBy w' row) (hne : v.ownBlock = none ∨ v.ownBlock ≠ row) : SOwn E e w' base v n l := World.ownsRow.kept h hg hne
theorem SOwn.block {e : TypeId} {w : World} {base n : Nat} {v : Value} {l : List α} (h : SOwn E e w base v n l) : ∀ k, v.ownBlock = some k → base ≤ k ∧ k < w.heap.size := World.ownsRow.lt h
theorem SOwn.some {e : TypeId} {w : World} {base n : Nat} {v : Value} {l : List α} (h : SOwn E e w base v n l) (hn : v ≠ .slice none 0 0) : ∃ g cap, v = .slice (some ⟨g, 0, none⟩) n cap ∧ base ≤ g ∧ g < w.heap.size ∧ n ≤ cap ∧ cap ≤ maxLen := by
  rcases h.2 with ⟨h', _⟩ | ⟨g, cap, cur, h', h1, h2, h3, h4, _⟩
  · exact absurd h' hn
  · exact ⟨g, cap, h', h1, (Array.getElem?_eq_some_iff.1 h2).1, h3, h4⟩
theorem SOwn.rd {e : TypeId} {w : World} {base n : Nat} {a : Option Addr} {c : Nat} {l : List α} (h : SOwn E e w base (.slice a n c) n l) : SRd E w a l := by
  rcases h.2 with ⟨h', h0⟩ | ⟨g, cap, cur, h', h1, h2, h3, h4, h5, h6⟩
  · refine .inl (List.eq_nil_of_length_eq_zero ?_)
    rw [h.len, h0]
  · simp only [Value.slice.injEq] at h'
    obtain ⟨rfl, _, rfl⟩ := h'
    refine .inr ⟨g, 0, rfl, fun j v hj => ?_⟩
    rw [Nat.zero_add, cell_of_row w g j cur e _ h2]
    rw [← h6] at hj
    rw [List.getElem?_take] at hj
    split at hj
    · simpa using hj
    · simp at hj
theorem SOwn.base {e : TypeId} {w : World} {base base' n : Nat} {v : Value} {l : List α} (h : SOwn E e w base v n l) (hb : base' ≤ base) : SOwn E e w base' v n l := by
  refine ⟨h.1, ?_⟩
  rcases h.2 with h' | ⟨g', cap', cur, h', h0, r⟩
  · exact .inl h'
  · exact .inr ⟨g', cap', cur, h', Nat.le_trans hb h0, r⟩
theorem SOwn.empty (E : Elem α) (e : TypeId) (w : World) : SOwn E e (w.alloc (.cells #[] e)) w.heap.size (.slice (Option.some ⟨w.heap.size, 0, Option.none⟩) 0 0) 0 ([] : List α) := by
  have := World.ownsRow_made (e := e) (size := E.size) (base := w.heap.size) w #[] 0 (Nat.le_refl _) (Nat.zero_le _) (by simp)
  simpa [SOwn, Elem.flat] using this

/-- What is known of an element's type. -/
structure ElemOf (E : Elem α) (P : Program) (t e : TypeId) (bytes : Nat) : Prop where
  under : P.underlying t = some (.slice e)
  info : ∃ i z, P.info? e = some i ∧ i.zero = some z ∧ i.size = E.size ∧ i.bytes = bytes ∧ z.cells.size = E.size

/-- append(out, xs...): out is the call's own or none, xs whatever is read. -/
theorem wpList_append_s {P : Program} {t e : TypeId} {bytes : Nat} (T : ElemOf E P t e bytes) {w : World} {ops : Array Oper} {rest : List Oper} {o : Oper} {a : Act} {Q : Exit → Act → World → Prop} (hgd : o.guard = none) (s x : Operand)
    (ho : o.op = .call { callee := .builtin .append, args := #[s, x], argTypes := #[t, t] }) (base : Nat) (v : Value) (n : Nat) (xs : List α) (hs : a.eval s = v) (hown : SOwn E e w base v n xs)
    (src : Option Addr) (zs : List α) (m cap : Nat) (hx : a.eval x = .slice src m cap) (hm : zs.length = m) (hr : SRd E w src zs) (hnil : src = Option.none → cap = 0) (hlen : (n + m) * bytes ≤ 140737488355328) (hmax : n + m ≤ maxLen) (hb : base ≤ w.heap.size)
    (h : ∀ v' w', SOwn E e w' base v' (n + m) (xs ++ zs) → w.grownBy w' v.ownBlock → (v' = .slice Option.none 0 0 → v = .slice Option.none 0 0 ∧ m = 0) → wpList P ops Q rest (a.put o.dst v') w') : wpList P ops Q (o :: rest) a w := by
  obtain ⟨i0, z, hi, hz0, hz1, hz2, hz3⟩ := T.info
  subst hm
  cases src with
  | none =>
    obtain rfl := hnil rfl
    obtain rfl := hr.none
    refine wpList_append_own_none hgd s x t ho base e i0 E.size T.under hi v n (E.flat xs) hs hown hx ?_
    have := h v w (by simpa using hown) (World.grownBy.refl _ _) (fun h => ⟨h, rfl⟩)
    simpa using this
  | some ad =>
    refine wpList_append_own _ hgd s x t ho base e i0 z E.size bytes T.under hi hz0 hz1 hz2 hz3 E.pos _ n (E.flat xs) hs hown ad zs.length cap (E.flat zs) hx (E.flat_len zs) hr.news (E.flat_one zs) hmax hlen hb ?_
    intro v' w' hown' hg hne
    rw [← E.flat_app] at hown'
    exact h v' w' hown' hg (fun h => hne.1 h)
end
end Go.Proofs.YtecnocdffhmkaaaDoor

/- Slices of bytes that come in and that the calls make: read, copied, lent, held against one another, written over. -/
namespace Go.Proofs.YtecnocdffhmkaaaDoor
set_option linter.unusedVariables false
set_option maxRecDepth 20000
open Go.ChangeShapes Go.WideShapes Go.ChangeAt Go.RowKit

theorem ret_int {k : IntKind} {a b : Int} (h : a = b) : Ending.returned (.int k a) = .returned (.int k b) := by rw [h]
theorem ret_bool {a b : Bool} (h : a = b) : Ending.returned (.bool a) = .returned (.bool b) := by rw [h]

/-- What is read of a slice of bytes: its cells, wherever it lies. -/
def Rd (w : World) (a : Option Addr) (zs : List Int) : Prop :=
  (zs = [] ∨ ∃ b off, a = some ⟨b, off, none⟩ ∧ ∀ i, i < zs.length → w.cell? ⟨b, off + i, none⟩ = some (.int .u8 (zs.getD i 0))) ∧ ∀ z ∈ zs, 0 ≤ z ∧ z ≤ 255

theorem Rd.at {w : World} {a : Option Addr} {zs : List Int} (h : Rd w a zs) (hz : 0 < zs.length) :
    ∃ b off, a = some ⟨b, off, none⟩ ∧ ∀ i, i < zs.length → w.cell? ⟨b, off + i, none⟩ = some (.int .u8 (zs.getD i 0)) := by
  rcases h.1 with rfl | h
  · simp at hz
  · exact h
theorem Rd.byte {w : World} {a : Option Addr} {zs : List Int} (h : Rd w a zs) (i : Nat) : 0 ≤ zs.getD i 0 ∧ zs.getD i 0 ≤ 255 := by
  by_cases hi : i < zs.length
  · have := h.2 zs[i] (List.getElem_mem hi)
    simpa [List.getD_eq_getElem?_getD, hi] using this
  · simp [List.getD_eq_getElem?_getD, List.getElem?_eq_none (Nat.le_of_not_lt hi)]


theorem info5 : (Tryd.prog.info? 5).map (fun i => (i.zero, i.size, i.bytes)) = some (some (.int .u8 0), 1, 1) := by kernel_rfl

def bs (zs : List Int) : List Value := zs.map (Value.int .u8)
theorem bs_len (zs : List Int) : (bs zs).length = zs.length := by simp [bs]
theorem bs_app (xs ys : List Int) : bs (xs ++ ys) = bs xs ++ bs ys := by simp [bs]
theorem bs_one (zs : List Int) : ∀ u ∈ bs zs, u.oneCell' = true := ints_oneCell .u8 zs

/-- Behind two steps: what the second wrote is new, or what the first wrote. -/
theorem gb_trans {w w1 w2 : World} {row row' : Option Nat} (h : w.grownBy w1 row) (h' : w1.grownBy w2 row') (hr : ∀ k, row' = some k → w.heap.size ≤ k ∨ row = some k) : w.grownBy w2 row :=
  ⟨h'.os.trans h.os, h'.tape.trans h.tape, h'.output.trans h.output, Nat.le_trans h.size h'.size, fun k hk hne =>
    (h'.block k (Nat.lt_of_lt_of_le hk h.size) (fun e => by
      rcases hr k e.symm with h1 | h1
      · omega
      · exact hne h1.symm)).trans (h.block k hk hne)⟩
theorem gb_any {w w1 : World} (h : w.grownBy w1 none) (row : Option Nat) : w.grownBy w1 row := ⟨h.os, h.tape, h.output, h.size, fun k hk _ => h.block k hk (by simp)⟩
theorem gb_drewN (w : World) (n : Nat) : w.grownBy (w.drewN n) none := ⟨rfl, rfl, rfl, Nat.le_refl _, fun _ _ _ => rfl⟩
theorem gb_set {w : World} {p : Addr} {u : Value} {g : Nat} (h : p.block = g) : w.grownBy (w.setCell p u) (some g) :=
  ⟨rfl, rfl, rfl, by simp [World.setCell], fun k _ hne => Below.heap_setCell w p u k (fun e => hne (by rw [e, h]))⟩
theorem gb_below {w w1 : World} (h : w.grownBy w1 none) : Below w.heap.size w w1 := (Below.refl _ _).grown h (Nat.le_refl _) (by simp)

theorem Rd.grown {w w' : World} {row : Option Nat} {a : Option Addr} {zs : List Int} (h : Rd w a zs) (hg : w.grownBy w' row) (hne : ∀ x, a = some x → some x.block ≠ row) : Rd w' a zs := by
  refine ⟨?_, h.2⟩
  rcases h.1 with rfl | ⟨b, off, rfl, hc⟩
  · exact .inl rfl
  · exact .inr ⟨b, off, rfl, fun i hi => hg.cell (hc i hi) (hne ⟨b, off, none⟩ rfl)⟩

theorem Rd.news {w : World} {ad : Addr} {zs : List Int} (h : Rd w (some ad) zs) : ∀ j u, (bs zs)[j]? = some u → w.cell? (ad.add j) = some u := by
  intro j u hu
  rcases h.1 with rfl | ⟨b, off, e, hc⟩
  · simp [bs] at hu
  · obtain rfl := Option.some.inj e
    have hj : j < zs.length := by
      rw [← bs_len]; exact (List.getElem?_eq_some_iff.1 hu).1
    have := hc j hj
    simp only [bs, List.getElem?_map, List.getElem?_eq_getElem hj, Option.map_some, Option.some.injEq] at hu
    subst hu
    have e : (⟨b, off, none⟩ : Addr).add j = ⟨b, off + j, none⟩ := by
      by_cases h0 : j = 0
      · subst h0; rfl
      · simp [Addr.add, h0]
    rw [e, this]
    simp [List.getD_eq_getElem?_getD, List.getElem?_eq_getElem hj]

/-- A slice of bytes that the call made. -/
def Own (w : World) (base g n cap : Nat) (zs : List Int) : Prop := w.ownsRow base 5 1 (.slice (some ⟨g, 0, none⟩) n cap) n (bs zs) ∧ ∀ z ∈ zs, 0 ≤ z ∧ z ≤ 255
theorem Own.len {w : World} {base g n cap : Nat} {zs : List Int} (h : Own w base g n cap zs) : zs.length = n := by
  have := h.1.1; rw [bs_len] at this; omega
theorem Own.ge {w : World} {base g n cap : Nat} {zs : List Int} (h : Own w base g n cap zs) : base ≤ g ∧ g < w.heap.size := h.1.lt g rfl
theorem Own.cap {w : World} {base g n cap : Nat} {zs : List Int} (h : Own w base g n cap zs) : n ≤ cap ∧ cap ≤ maxLen := by
  rcases h.1.2 with ⟨h', _⟩ | ⟨g', cap', cur, h', _, hg, h1, h2, _⟩
  · simp at h'
  · simp only [Value.slice.injEq] at h'
    obtain ⟨_, _, rfl⟩ := h'
    exact ⟨h1, h2⟩
theorem Own.cell {w : World} {base g n cap : Nat} {zs : List Int} (h : Own w base g n cap zs) (i : Nat) (hi : i < n) : w.cell? ⟨g, i, none⟩ = some (.int .u8 (zs.getD i 0)) := by
  have hl := h.len
  rw [h.1.cellAt i (by omega)]
  simp only [bs, List.getElem?_map, List.getElem?_eq_getElem (show i < zs.length by omega), Option.map_some, List.getD_eq_getElem?_getD, Option.getD_some]
theorem Own.kept {w w' : World} {row : Option Nat} {base g n cap : Nat} {zs : List Int} (h : Own w base g n cap zs) (hg : w.grownBy w' row) (hne : some g ≠ row) : Own w' base g n cap zs :=
  ⟨h.1.kept hg (.inr (by simpa [Value.ownBlock] using hne)), h.2⟩
theorem Own.rd {w : World} {base g n cap : Nat} {zs : List Int} (h : Own w base g n cap zs) : Rd w (some ⟨g, 0, none⟩) zs :=
  ⟨.inr ⟨g, 0, rfl, fun i hi => by rw [Nat.zero_add]; exact h.cell i (by rw [← h.len]; exact hi)⟩, h.2⟩
theorem Own.base {w : World} {base base' g n cap : Nat} {zs : List Int} (h : Own w base g n cap zs) (hb : base' ≤ base) : Own w base' g n cap zs := by
  refine ⟨⟨h.1.1, ?_⟩, h.2⟩
  rcases h.1.2 with h' | ⟨g', cap', cur, h', h0, r⟩
  · exact .inl h'
  · exact .inr ⟨g', cap', cur, h', Nat.le_trans hb h0, r⟩
theorem Own.of {w : World} {base n : Nat} {v : Value} {zs : List Int} (h : w.ownsRow base 5 1 v n (bs zs)) (hn : v ≠ .slice none 0 0) (hz : ∀ z ∈ zs, 0 ≤ z ∧ z ≤ 255) : ∃ g cap, v = .slice (some ⟨g, 0, none⟩) n cap ∧ Own w base g n cap zs := by
  rcases h.2 with ⟨h', _⟩ | ⟨g', cap', cur, h', _⟩
  · exact absurd h' hn
  · subst h'
    exact ⟨g', cap', rfl, h, hz⟩

theorem Rd.none {w : World} {zs : List Int} (h : Rd w none zs) : zs = [] := by
  rcases h.1 with h | ⟨b, off, e, _⟩
  · exact h
  · cases e

theorem own_empty (w : World) : Own (w.alloc (.cells #[] 5)) w.heap.size w.heap.size 0 0 [] :=
  ⟨by simpa [bs] using World.ownsRow_made (e := 5) (size := 1) w #[] 0 (Nat.le_refl _) (Nat.zero_le _) rfl, by simp⟩

set_option maxHeartbeats 400000 in
theorem copy_any (a : Option Addr) (zs : List Int) (cap : Nat) (w : World) (hr : Rd w a zs) (hnil : a = none → cap = 0) (hz : zs.length ≤ 140737488351232) :
    Calls Tryd.prog 37 #[.slice a zs.length cap] w fun e w' => ∃ g c, e = .returned (.slice (some ⟨g, 0, none⟩) zs.length c) ∧ Own w' w.heap.size g zs.length c zs ∧ w.grownBy w' none := by
  obtain ⟨i0, hi, hz0, hz1, hz2⟩ := info_parts info5
  cases a with
  | none =>
    obtain rfl := hnil rfl
    obtain rfl := hr.none
    clear hr hnil
    go_enter Tryd.func37, Tryd.ntmps37
    go_wp2
    go_ret
    exact ⟨w.heap.size, 0, rfl, own_empty w, World.grownBy_alloc w _ _⟩
  | some ad =>
    have hnews := (hr.grown (World.grownBy_alloc w (.cells #[] 5) none) (by simp)).news
    have hbyt := hr.2
    have hlen := bs_len zs
    have hone := bs_one zs
    obtain ⟨L, hL⟩ : ∃ L, L = zs.length := ⟨_, rfl⟩
    have H5 : Hid (L = zs.length) := hL
    have HB : Hid (∀ z ∈ zs, 0 ≤ z ∧ z ≤ 255) := hbyt
    rw [← hL] at hz hlen ⊢
    have HN : Hid (∀ j u, (bs zs)[j]? = some u → (w.alloc (.cells #[] 5)).cell? (ad.add j) = some u) := hnews
    have HO : Hid (∀ u ∈ bs zs, u.oneCell' = true) := hone
    have HLn : Hid ((bs zs).length = L) := hlen
    clear hnil hr hL hbyt hone hnews hlen
    go_enter Tryd.func37, Tryd.ntmps37
    go_wp2_with (at_builtin; refine wpList_append_own _ rfl _ _ 33 rfl w.heap.size 5 i0 (.int .u8 0) 1 1 Tryd.underlying33 hi hz0 hz1 hz2 rfl (by decide) (.slice (some ⟨w.heap.size, 0, none⟩) 0 0) 0 [] rfl (own_empty w).1 ad L cap (bs zs) rfl (by rw [HLn.out]; omega) HN.out HO.out (by unfold maxLen; omega) (by omega) (by simp) ?_; intro v' w1 hown hgrow hne)
    have hne' : v' ≠ .slice none 0 0 := fun h => by simpa using hne.1 h
    have ho' : w1.ownsRow w.heap.size 5 1 v' L (bs zs) := by simpa using hown
    obtain ⟨g, c, rfl, ho⟩ := Own.of ho' hne' HB.out
    clear hne hne' ho' hown
    go_wp2
    go_ret
    exact ⟨g, c, rfl, ho, gb_trans (World.grownBy_alloc w _ none) hgrow (by simp [Value.ownBlock])⟩

theorem gb_new {w : World} {o : Obj} {w1 w2 : World} (h : w.grownBy w1 none) (h2 : (w1.alloc o).grownBy w2 none) : w.grownBy w2 none :=
  gb_trans (gb_trans h (World.grownBy_alloc w1 o none) (by simp)) h2 (by simp)

theorem news_at {w : World} {cs : List Value} {t : TypeId} : ∀ j u, cs[j]? = some u → (w.alloc (.cells cs.toArray t)).cell? ((⟨w.heap.size, 0, none⟩ : Addr).add j) = some u := by
  have := World.news_of_block (w := w.alloc (.cells cs.toArray t)) (B := w.heap.size) (cs := cs.toArray) (t := t) (fr := (0, 0)) (heap_alloc_new w _)
  simpa using this

theorem own_app {w : World} {base n : Nat} {v : Value} {zs : List Int} (h : w.ownsRow base 5 1 v n (bs zs ++ bs [201, 201])) (hn : v ≠ .slice none 0 0) (hz : ∀ z ∈ zs, 0 ≤ z ∧ z ≤ 255) : ∃ g cap, v = .slice (some ⟨g, 0, none⟩) n cap ∧ Own w base g n cap (zs ++ [201, 201]) := by
  rw [← bs_app] at h
  refine Own.of h hn fun z hm => ?_
  rcases List.mem_append.1 hm with h1 | h1
  · exact hz z h1
  · simp at h1; omega

set_option maxHeartbeats 400000 in
theorem lend_any (a : Option Addr) (zs : List Int) (cap : Nat) (w : World) (hr : Rd w a zs) (hnil : a = none → cap = 0) (hz : zs.length ≤ 140737488351232) :
    Calls Tryd.prog 15 #[.slice a zs.length cap] w fun e w' => ∃ g c, e = .returned (.slice (some ⟨g, 0, none⟩) zs.length c) ∧ Own w' w.heap.size g (zs.length + 2) c (zs ++ [201, 201]) ∧ w.grownBy w' none := by
  obtain ⟨i0, hi, hz0, hz1, hz2⟩ := info_parts info5
  have HC := copy_any a zs cap w hr hnil hz
  have HB : Hid (∀ z ∈ zs, 0 ≤ z ∧ z ≤ 255) := hr.2
  obtain ⟨L, hL⟩ : ∃ L, L = zs.length := ⟨_, rfl⟩
  have H5 : Hid (L = zs.length) := hL
  rw [← hL] at hz HC ⊢
  clear hr hnil hL
  go_enter Tryd.func15, Tryd.ntmps15
  go_wp2_with (first | (go_at_call 37; refine HC.mono ?_; rintro e w1 ⟨g, c, rfl, ho, hg1⟩; have hz' := hg1.size) | (at_builtin; refine wpList_append_own _ rfl (.tmp 5) (.tmp 6) 33 rfl w.heap.size 5 i0 (.int .u8 0) 1 1 Tryd.underlying33 hi hz0 hz1 hz2 rfl (by decide) (.slice (some ⟨g, 0, none⟩) L c) L (bs zs) rfl (ho.1.alloc _) ⟨w1.heap.size, 0, none⟩ 2 2 (bs [201, 201]) rfl rfl (news_at (cs := bs [201, 201])) (bs_one _) (by unfold maxLen; omega) (by omega) (by simp; omega) ?_; intro v' w2 hown hgrow hne; obtain ⟨g2, c2, rfl, ho2⟩ := own_app hown (fun h => by simpa using hne.1 h) HB.out; have hcap := ho2.cap.1; clear hne hown))
  go_ret
  refine ⟨g2, c2, rfl, ho2, ?_⟩
  exact gb_trans (gb_trans hg1 (World.grownBy_alloc w1 _ none) (by simp)) hgrow (fun k hk => .inl (by simp [Value.ownBlock] at hk; have := ho.ge; omega))

theorem list_same (xs ys : List Int) (hl : xs.length = ys.length) (h : ∀ j, j < xs.length → xs.getD j 0 = ys.getD j 0) : xs = ys := by
  refine List.ext_getElem hl fun i h1 h2 => ?_
  have := h i h1
  simpa [List.getD_eq_getElem?_getD, List.getElem?_eq_getElem h1, List.getElem?_eq_getElem h2] using this

theorem Rd.drewN {w : World} {a : Option Addr} {zs : List Int} (h : Rd w a zs) (n : Nat) : Rd (w.drewN n) a zs := h
theorem drewN_drewN (w : World) (m n : Nat) : (w.drewN m).drewN n = w.drewN (m + n) := by simp [World.drewN, Nat.add_assoc]

set_option maxHeartbeats 400000 in
theorem same_len (a b : Option Addr) (L M : Nat) (c d : Nat) (w : World) (hne : ¬ L = M) :
    Calls Tryd.prog 18 #[.slice a L c, .slice b M d] w fun e w' => e = .returned (.bool false) ∧ w = w' := by
  have h : ((L : Int) != (M : Int)) = true := by simp; omega
  go_enter Tryd.func18, Tryd.ntmps18
  go_wp2
  go_ret
  exact ⟨rfl, rfl⟩

set_option maxHeartbeats 400000 in
theorem same_loop (a b : Option Addr) (xs ys : List Int) (c d : Nat) (w : World) (hx : Rd w a xs) (hy : Rd w b ys) (hl : ys.length = xs.length) (hz : xs.length ≤ 140737488355328) :
    Calls Tryd.prog 18 #[.slice a xs.length c, .slice b xs.length d] w fun e w' => e = .returned (.bool (decide (xs = ys))) ∧ ∃ n, w' = w.drewN n := by
  have HX : Hid (Rd w a xs) := hx
  have HY : Hid (Rd w b ys) := hy
  have HE : Hid (∀ k, k < xs.length → xs.getD k 0 ≠ ys.getD k 0 → decide (xs = ys) = false) := by
    intro k hk hne
    simp only [decide_eq_false_iff_not]
    intro h
    rw [h] at hne
    exact hne rfl
  have HF : Hid ((∀ j, j < xs.length → xs.getD j 0 = ys.getD j 0) → decide (xs = ys) = true) := fun h => by
    simpa using list_same xs ys hl.symm h
  have HM : Hid (ys.length = xs.length) := hl
  obtain ⟨L, hL⟩ : ∃ L, L = xs.length := ⟨_, rfl⟩
  have H5 : Hid (L = xs.length) := hL
  obtain ⟨res, hres⟩ : ∃ r, r = decide (xs = ys) := ⟨_, rfl⟩
  have HRes : Hid (res = decide (xs = ys)) := hres
  rw [← hL] at hz ⊢
  rw [← hres]
  clear hx hy hl hL hres
  go_enter Tryd.func18, Tryd.ntmps18
  go_wp2
  go_loopw [5] (fun i wr => ∃ k : Nat, k ≤ L ∧ i = .int .i64 k ∧ (∃ n, wr = w.drewN n) ∧ ∀ j, j < k → xs.getD j 0 = ys.getD j 0) (fun i _ => L - (intOf i).toNat)
  case atStart => exact ⟨0, Nat.zero_le _, rfl, ⟨0, rfl⟩, fun j h => by omega⟩
  case round =>
    obtain ⟨k, hk, rfl, ⟨m, rfl⟩, hall⟩ := hrel
    have HA : Hid (∀ j, j < k → xs.getD j 0 = ys.getD j 0) := hall
    clear hall
    by_cases hlt : k < L
    · have h5 := H5.out
      have h6 := HM.out
      obtain ⟨ba, offa, rfl, hca⟩ := HX.out.at (by omega)
      obtain ⟨bb, offb, rfl, hcb⟩ := HY.out.at (by omega)
      have ha : w.cell? ⟨ba, offa + k, none⟩ = some (.int .u8 (xs.getD k 0)) := hca k (by omega)
      have hb : w.cell? ⟨bb, offb + k, none⟩ = some (.int .u8 (ys.getD k 0)) := hcb k (by omega)
      obtain ⟨x, ex⟩ : ∃ x, x = xs.getD k 0 := ⟨_, rfl⟩
      obtain ⟨y, ey⟩ : ∃ y, y = ys.getD k 0 := ⟨_, rfl⟩
      have EX : Hid (x = xs.getD k 0) := ex
      have EY : Hid (y = ys.getD k 0) := ey
      rw [← ex] at ha
      rw [← ey] at hb
      have hi : (k : Int) < (L : Int) := by omega
      clear hca hcb ex ey h5 h6
      by_cases hxy : x = y
      · have hb1 : (x != y) = false := by simp [hxy]
        have HXY : Hid (x = y) := hxy
        clear hxy
        go_wp2_with fail
        go_quiet (fail)
        go_wp2
        go_roundw
        case rel =>
          refine ⟨k + 1, by omega, by go_num, ⟨_, rfl⟩, fun j hj => ?_⟩
          by_cases hjk : j < k
          · exact HA.out j hjk
          · have : j = k := by omega
            subst this
            rw [← EX.out, ← EY.out]; exact HXY.out
        case measure => simp [intOf]; omega
      · have hb1 : (x != y) = true := by simp [hxy]
        have HXY : Hid (¬ x = y) := hxy
        clear hxy
        go_wp2_with fail
        go_quiet (fail)
        go_wp2
        go_ret
        refine ⟨ret_bool ?_, _, drewN_drewN _ _ _⟩
        rw [HRes.out]
        refine (HE.out k (by have := H5.out; omega) ?_).symm
        rw [← EX.out, ← EY.out]; exact HXY.out
    · go_wp2
      go_ret
      refine ⟨ret_bool ?_, _, rfl⟩
      rw [HRes.out]
      exact (HF.out fun j hj => HA.out j (by have := H5.out; omega)).symm

/-- SameBytes, of any two. -/
theorem same_any (a b : Option Addr) (xs ys : List Int) (L M c d : Nat) (w : World) (hx : Rd w a xs) (hy : Rd w b ys) (hL : xs.length = L) (hM : ys.length = M) (hz : L ≤ 140737488355328) :
    Calls Tryd.prog 18 #[.slice a L c, .slice b M d] w fun e w' => e = .returned (.bool (decide (xs = ys))) ∧ w.grownBy w' none := by
  subst hL
  subst hM
  by_cases hl : xs.length = ys.length
  · rw [← hl]
    refine (same_loop a b xs ys c d w hx hy hl.symm hz).mono ?_
    rintro e w' ⟨rfl, n, rfl⟩
    exact ⟨rfl, gb_drewN w n⟩
  · have e : decide (xs = ys) = false := by
      simp only [decide_eq_false_iff_not]
      intro h
      exact hl (by rw [h])
    rw [e]
    refine (same_len a b _ _ c d w hl).mono ?_
    rintro e w' ⟨rfl, rfl⟩
    exact ⟨rfl, World.grownBy.refl _ _⟩

theorem bs_set (zs : List Int) (j : Nat) (u : Int) : bs (zs.set j u) = (bs zs).set j (.int .u8 u) := by simp [bs, List.map_set]
theorem Own.set {w : World} {base g n cap : Nat} {zs : List Int} (h : Own w base g n cap zs) (j : Nat) (u : Int) (hu : 0 ≤ u ∧ u ≤ 255) : Own (w.setCell ⟨g, j, none⟩ (.int .u8 u)) base g n cap (zs.set j u) := by
  refine ⟨?_, fun z hz => ?_⟩
  · rw [bs_set]; exact (h.1.stored j _).1
  · rcases List.mem_or_eq_of_mem_set hz with h1 | h1
    · exact h.2 z h1
    · subst h1; exact hu

theorem Own.tail {w : World} {base g n cap : Nat} {xs ys : List Int} (h : Own w base g n cap (xs ++ ys)) (hn : xs.length + ys.length = n) : Rd w (some ⟨g, xs.length, none⟩) ys := by
  refine ⟨.inr ⟨g, xs.length, rfl, fun i hi => ?_⟩, fun z hz => h.2 z (by simp [hz])⟩
  rw [h.cell (xs.length + i) (by omega)]
  simp [List.getD_eq_getElem?_getD, List.getElem?_append_right]
theorem Own.headR {w : World} {base g n cap : Nat} {xs ys : List Int} (h : Own w base g n cap (xs ++ ys)) (hn : xs.length + ys.length = n) : Rd w (some ⟨g, 0, none⟩) xs := by
  refine ⟨.inr ⟨g, 0, rfl, fun i hi => ?_⟩, fun z hz => h.2 z (by simp [hz])⟩
  rw [Nat.zero_add, h.cell i (by omega)]
  simp [List.getD_eq_getElem?_getD, List.getElem?_append_left hi]

theorem rd_lit (w : World) (zs : List Int) (hz : ∀ z ∈ zs, 0 ≤ z ∧ z ≤ 255) : Rd (w.alloc (.cells (bs zs).toArray 5)) (some ⟨w.heap.size, 0, none⟩) zs := by
  refine ⟨.inr ⟨w.heap.size, 0, rfl, fun i hi => ?_⟩, hz⟩
  have := news_at (w := w) (cs := bs zs) (t := 5) i (.int .u8 (zs.getD i 0)) (by simp [bs, List.getElem?_eq_getElem hi, List.getD_eq_getElem?_getD])
  have e : (⟨w.heap.size, 0, none⟩ : Addr).add i = ⟨w.heap.size, 0 + i, none⟩ := by
    by_cases h0 : i = 0
    · subst h0; rfl
    · simp [Addr.add, h0]
  rwa [e] at this

set_option maxHeartbeats 1000000 in
theorem kept_any (a : Option Addr) (zs : List Int) (base g c cap : Nat) (w : World) (hr : Rd w a zs) (ho : Own w base g (zs.length + 2) c (zs ++ [201, 201])) (hz : zs.length ≤ 140737488351232) :
    Calls Tryd.prog 17 #[.slice (some ⟨g, 0, none⟩) zs.length c, .slice a zs.length cap] w fun e w' => e = .returned (.bool true) ∧ w.grownBy w' (some g) := by
  have HR : Hid (Rd w a zs) := hr
  have HO : Hid (Own w base g (zs.length + 2) c (zs ++ [201, 201])) := ho
  have hcap := ho.cap.1
  have h1 : Hid (Rd w (some ⟨g, 0, none⟩) zs) := ho.headR (by simp)
  have h2 : Hid (Rd w (some ⟨g, zs.length, none⟩) [201, 201]) := ho.tail (by simp)
  obtain ⟨L, hL⟩ : ∃ L, L = zs.length := ⟨_, rfl⟩
  have H5 : Hid (zs.length = L) := hL.symm
  rw [← hL] at hz hcap HO h2 ⊢
  clear hr hL ho
  go_enter Tryd.func17, Tryd.ntmps17
  go_wp2_with fail
  refine (same_any (some ⟨g, 0, none⟩) a zs zs L L c cap _ h1.out HR.out H5.out H5.out (by omega)).mono ?_
  rintro e w1 ⟨rfl, hg1⟩
  have htt : decide (zs = zs) = true := by simp
  rw [htt]
  clear htt
  go_wp2_with fail
  have ha : w.grownBy (w1.alloc (.cells #[Value.int .u8 201, Value.int .u8 201] 5)) none := gb_trans hg1 (World.grownBy_alloc w1 _ none) (by simp)
  refine (same_any (some ⟨g, L, none⟩) (some ⟨w1.heap.size, 0, none⟩) [201, 201] [201, 201] 2 2 (c - L) 2 _ (h2.out.grown ha (by simp)) (rd_lit w1 [201, 201] (by simp)) rfl rfl (by omega)).mono ?_
  rintro e w2 ⟨rfl, hg2⟩
  have htt : decide (([201, 201] : List Int) = [201, 201]) = true := by simp
  rw [htt]
  clear htt
  have hg3 : w.grownBy w2 none := gb_trans ha hg2 (by simp)
  have HG : Hid (w.grownBy w2 none) := hg3
  have HO2 : Hid (Own w2 base g (L + 2) c (zs ++ [201, 201])) := HO.out.kept hg3 (by simp)
  clear ha hg1 hg2 hg3
  go_wp2
  go_loopw [7] (fun i wr => ∃ k : Nat, k ≤ L + 2 ∧ i = .int .i64 k ∧ w2.grownBy wr (some g) ∧ ∃ zk, Own wr base g (L + 2) c zk) (fun i _ => L + 2 - (intOf i).toNat)
  case atStart => exact ⟨0, Nat.zero_le _, rfl, World.grownBy.refl _ _, _, HO2.out⟩
  case round =>
    obtain ⟨k, hk, rfl, hgr, zk, hok⟩ := hrel
    have HGR : Hid (w2.grownBy wr (some g)) := hgr
    have HOK : Hid (Own wr base g (L + 2) c zk) := hok
    clear hgr hok
    by_cases hlt : k < L + 2
    · have hcell := HOK.out.cell k hlt
      have hfr := HOK.out.1.frozenAt k
      have hi : (k : Int) < (L : Int) + 2 := by omega
      go_wp2
      go_roundw
      case rel => exact ⟨k + 1, by omega, by go_num, gb_trans HGR.out (gb_set rfl) (fun j hj => .inr hj), _, HOK.out.set k 201 (by omega)⟩
      case measure => simp [intOf]; omega
    · go_wp2
      go_ret
      exact ⟨rfl, gb_trans (gb_any HG.out _) HGR.out (fun j hj => .inr hj)⟩

theorem gb_drew {w w1 : World} {row : Option Nat} (h : w.grownBy w1 row) : w.grownBy w1.drew row := ⟨h.os, h.tape, h.output, h.size, h.block⟩
theorem Own.drew {w : World} {base g n cap : Nat} {zs : List Int} (h : Own w base g n cap zs) : Own w.drew base g n cap zs := h

/-- append(out, xs...): out is the call's own, xs whatever is read. -/
theorem wpList_append_rd {w : World} {ops : Array Oper} {rest : List Oper} {o : Oper} {a : Act} {Q : Exit → Act → World → Prop} (hgd : o.guard = none) (s x : Operand)
    (ho : o.op = .call { callee := .builtin .append, args := #[s, x], argTypes := #[33, 33] }) (base g0 n c0 : Nat) (xs : List Int) (hs : a.eval s = .slice (some ⟨g0, 0, none⟩) n c0) (hown : Own w base g0 n c0 xs)
    (src : Option Addr) (zs : List Int) (m cap : Nat) (hx : a.eval x = .slice src m cap) (hm : zs.length = m) (hr : Rd w src zs) (hnil : src = none → cap = 0) (hlen : n + m ≤ 140737488355328)
    (h : ∀ g c w', Own w' base g (n + m) c (xs ++ zs) → w.grownBy w' (some g0) → wpList Tryd.prog ops Q rest (a.put o.dst (.slice (some ⟨g, 0, none⟩) (n + m) c)) w') : wpList Tryd.prog ops Q (o :: rest) a w := by
  obtain ⟨i0, hi, hz0, hz1, hz2⟩ := info_parts info5
  subst hm
  cases src with
  | none =>
    obtain rfl := hnil rfl
    obtain rfl := hr.none
    refine wpList_append_own_none hgd s x 33 ho base 5 i0 1 Tryd.underlying33 hi _ n (bs xs) hs hown.1 hx ?_
    have := h g0 c0 w (by simpa using hown) (World.grownBy.refl _ _)
    simpa using this
  | some ad =>
    have hge := hown.ge
    refine wpList_append_own _ hgd s x 33 ho base 5 i0 (.int .u8 0) 1 1 Tryd.underlying33 hi hz0 hz1 hz2 rfl (by decide) _ n (bs xs) hs hown.1 ad zs.length cap (bs zs) hx (by rw [bs_len]; omega) hr.news (bs_one zs) (by unfold maxLen; omega) (by omega) (by omega) ?_
    intro v' w' hown' hg hne
    rw [← bs_app] at hown'
    obtain ⟨g, c, rfl, ho'⟩ := Own.of hown' (fun h => by simpa using hne.1 h) (fun z hz => by
      rcases List.mem_append.1 hz with h1 | h1
      · exact hown.2 z h1
      · exact hr.2 z h1)
    exact h g c w' ho' hg


theorem Own.block {w : World} {base g n : Nat} {zs : List Int} (h : Own w base g n n zs) : w.heap[g]? = some (.cells (bs zs).toArray 5 (0, 0)) := by
  rcases h.1.2 with ⟨h', _⟩ | ⟨g', cap', cur, h', _, hg, _, _, hs, ht⟩
  · simp at h'
  · simp only [Value.slice.injEq, Option.some.injEq, Addr.mk.injEq, and_true, true_and] at h'
    obtain ⟨rfl, rfl⟩ := h'
    rw [hg]
    have : cur = (bs zs).toArray := by
      rw [← ht, List.take_of_length_le (by simp [hs])]
    rw [this]
theorem Own.ofBlock {w : World} {base g n : Nat} {zs : List Int} (h : w.heap[g]? = some (.cells (bs zs).toArray 5 (0, 0))) (hb : base ≤ g) (hn : zs.length = n) (hm : n ≤ maxLen) (hz : ∀ z ∈ zs, 0 ≤ z ∧ z ≤ 255) : Own w base g n n zs :=
  ⟨⟨by rw [bs_len]; omega, .inr ⟨g, n, _, rfl, hb, h, Nat.le_refl _, hm, by simp [bs_len, hn], by rw [List.take_of_length_le (by simp [bs_len, hn])]⟩⟩, hz⟩

theorem splice_bs (zs : List Int) (N : Nat) : splice (bs (List.replicate N 0)) 0 (bs zs) = bs (zs ++ List.replicate (N - zs.length) 0) := by
  simp [splice, bs, List.drop_replicate]
theorem pad_byte {zs : List Int} (hz : ∀ z ∈ zs, 0 ≤ z ∧ z ≤ 255) (m : Nat) : ∀ z ∈ zs ++ List.replicate m 0, 0 ≤ z ∧ z ≤ 255 := by
  intro z h
  rcases List.mem_append.1 h with h | h
  · exact hz z h
  · have := List.eq_of_mem_replicate h; omega
theorem size5 : (Tryd.prog.info? 5).map (·.size) = some 1 := by kernel_rfl
theorem below_gb {w w1 : World} (h : Below w.heap.size w w1) : w.grownBy w1 none := ⟨h.os, h.tape, h.output, h.size, fun k hk _ => h.block k hk⟩
theorem Rd.pos {w : World} {a : Option Addr} {zs : List Int} (h : Rd w a zs) (hz : 0 < (bs zs).length) : ∃ ad, a = some ad ∧ ∀ j v, (bs zs)[j]? = some v → w.cell? (ad.add j) = some v := by
  obtain ⟨b, off, rfl, _⟩ := h.at (by rwa [bs_len] at hz)
  exact ⟨_, rfl, h.news⟩
theorem own_made {w : World} {base g N : Nat} (h : w.ownsRow base 5 1 (.slice (some ⟨g, 0, none⟩) N N) N (madeCells (Value.int .u8 0).cells (N * 1)).toList) : Own w base g N N (List.replicate N 0) := by
  refine ⟨?_, fun z hz => by have := List.eq_of_mem_replicate hz; omega⟩
  have e : (Value.int .u8 0).cells = #[.int .u8 0] := rfl
  rw [e, toList_madeCells_one, Nat.mul_one] at h
  simpa [bs] using h
theorem own_spliced {w : World} {g N : Nat} {zs : List Int} (h : Hid (w.heap[g]? = some (.cells (splice (bs (List.replicate N 0)) 0 (bs zs)).toArray 5 (0, 0)))) (hl : zs.length ≤ N) (hz : ∀ z ∈ zs, 0 ≤ z ∧ z ≤ 255) (hm : N ≤ 281474976710656) : Own w g g N N (zs ++ List.replicate (N - zs.length) 0) := by
  have h' := h.out
  rw [splice_bs] at h'
  exact Own.ofBlock h' (Nat.le_refl _) (by simp; omega) (by unfold maxLen; omega) (pad_byte hz _)


theorem hold_olds {w : World} {base g n cap : Nat} {ys : List Int} (h : Own w base g n cap ys) : ∀ b, some (⟨g, 0, none⟩ : Addr) = some b → ∀ j u, (bs ys)[j]? = some u → w.cell? (b.add j) = some u := by
  intro b hb
  obtain rfl := Option.some.inj hb
  exact h.rd.news

theorem own_more {w : World} {base n : Nat} {v : Value} {ys : List Int} (h : w.ownsRow base 5 1 v n (bs ys ++ bs [201])) (hz : ∀ z ∈ ys, 0 ≤ z ∧ z ≤ 255) (hn : 0 < n) : ∃ g cap, v = .slice (some ⟨g, 0, none⟩) n cap ∧ Own w base g n cap (ys ++ [201]) := by
  rw [← bs_app] at h
  refine Own.of h (fun e => ?_) fun z hm => ?_
  · obtain ⟨g, c, e', _⟩ := h.form hn
    rw [e] at e'; cases e'
  · rcases List.mem_append.1 hm with h1 | h1
    · exact hz z h1
    · simp at h1; omega

theorem own : ownKnob Tryd.prog.godebug = none := by kernel_rfl
theorem laidOut : laidOutB Tryd.prog = true := by kernel_rfl
theorem cells5 : Tryd.prog.cellsOf 5 = 1 := by kernel_rfl
theorem bytes5 : Tryd.prog.bytesOf 5 = 1 := by kernel_rfl

theorem open_bytes {H : Type} {enc : TypeId × Value → H} {W : World} {a0 : Option Addr} {len0 cap0 : Nat} {d0 : DataW H} {p0 : List MemPlace} {ts : List TypeId} {ds : List (DataW H)}
    (h0 : DataW.Trod enc Tryd.prog W 0 (fun _ => true) true 33 (.slice a0 len0 cap0) d0 p0) (hsz : (DataW.weightsEach Tryd.prog ts ds).all (· ≤ reachBytes) = true) {j : Nat} (ht : ts[j]? = some 33) (hd : ds[j]? = some d0) :
    ∃ zs : List Int, zs.length = len0 ∧ Rd W a0 zs ∧ (a0 = none → cap0 = 0) ∧ zs.length ≤ 140737488351232 := by
  obtain ⟨fuel, hf⟩ := h0
  rcases open_ints Tryd.underlying33 Tryd.underlying5 cells5 hf with ⟨hcs, _⟩ | ⟨x, l, c, zs, hcs, _, hl, hm, hz, hx, hcell, hwz⟩
  · simp [Value.cells] at hcs
    obtain ⟨rfl, rfl, rfl⟩ := hcs
    exact ⟨[], rfl, ⟨.inl rfl, by simp⟩, fun _ => rfl, by simp⟩
  · simp [Value.cells] at hcs
    obtain ⟨rfl, rfl, rfl⟩ := hcs
    simp only [Prod.mk.injEq] at hx
    obtain ⟨rfl, rfl⟩ := hx
    simp only [if_true] at hz
    have hreach := sized_slice hsz ht hd Tryd.underlying33
    rw [bytes5] at hreach
    simp only [lits, List.length_map, List.length_take, List.length_drop, reachBytes] at hreach
    refine ⟨zs.take len0, by simp; omega, ⟨?_, fun z hz' => ?_⟩, by simp, by simp; omega⟩
    · by_cases h0 : len0 = 0
      · left; simp [h0]
      · right
        obtain ⟨b, off, spot⟩ := x
        have hspot : spot = none := by simpa [Addr.add] using World.cell?_spot (hcell 0 (by omega))
        subst hspot
        refine ⟨b, off, rfl, fun i hi => ?_⟩
        have hi' : i < len0 := by simp at hi; omega
        have := hcell i (by omega)
        rw [← add_plain, this]
        simp [List.getD_eq_getElem?_getD, hi']
    · exact bounds_u8 (hwz z (List.mem_of_mem_take hz'))
theorem and_low (x : Int) : 0 ≤ bits .and .i64 x 9223372036854775807 ∧ bits .and .i64 x 9223372036854775807 ≤ 9223372036854775807 := by
  have e : bits .and .i64 x 9223372036854775807 = IntKind.i64.wrap ((BitVec.ofInt 64 x &&& BitVec.ofInt 64 9223372036854775807).toNat : Int) := rfl
  have hb : (BitVec.ofInt 64 x &&& BitVec.ofInt 64 9223372036854775807).toNat ≤ 9223372036854775807 := by
    rw [BitVec.toNat_and]
    refine Nat.le_trans Nat.and_le_right ?_
    decide
  rw [e]
  generalize (BitVec.ofInt 64 x &&& BitVec.ofInt 64 9223372036854775807).toNat = t at *
  have : IntKind.i64.wrap (t : Int) = ((t : Int) + 9223372036854775808) % 18446744073709551616 - 9223372036854775808 := by
    simp [IntKind.wrap, IntKind.bits, IntKind.signed]
    split <;> omega
  omega

end Go.Proofs.YtecnocdffhmkaaaDoor

/- Slices of labels: copied, lent, held against one another, kept, spoilt. -/
namespace Go.Proofs.YtecnocdffhmkaaaDoor
open Go.ChangeShapes Go.WideShapes Go.ChangeAt Go.RowKit
set_option linter.unusedVariables false
set_option maxRecDepth 20000

abbrev Lab := ByteArray × ByteArray
def labE : Elem Lab where
  cells p := [.string p.1, .string p.2]
  size := 2
  pos := by decide
  len _ := rfl
  one p v h := by
    simp only [List.mem_cons, List.mem_nil_iff, or_false] at h
    rcases h with rfl | rfl <;> rfl
theorem info52 : (Tryd.prog.info? 63).map (fun i => (i.zero, i.size, i.bytes)) = some (some (.agg #[.string ⟨#[]⟩, .string ⟨#[]⟩]), 2, 32) := by kernel_rfl
theorem labT : ElemOf labE Tryd.prog 44 63 32 := by
  obtain ⟨i0, hi, hz0, hz1, hz2⟩ := info_parts info52
  exact ⟨Tryd.underlying44, i0, _, hi, hz0, hz1, hz2, rfl⟩

/-- A slice of labels that the call made. -/
def LOwn (w : World) (base g n cap : Nat) (ls : List Lab) : Prop := SOwn labE 63 w base (.slice (some ⟨g, 0, none⟩) n cap) n ls
theorem LOwn.ge {w : World} {base g n cap : Nat} {ls : List Lab} (h : LOwn w base g n cap ls) : base ≤ g ∧ g < w.heap.size := SOwn.block h g rfl
theorem LOwn.cap {w : World} {base g n cap : Nat} {ls : List Lab} (h : LOwn w base g n cap ls) : n ≤ cap ∧ cap ≤ maxLen := by
  obtain ⟨g', c', e, _, _, h1, h2⟩ := SOwn.some h (by simp)
  simp only [Value.slice.injEq] at e
  obtain ⟨_, _, rfl⟩ := e
  exact ⟨h1, h2⟩
theorem LOwn.len {w : World} {base g n cap : Nat} {ls : List Lab} (h : LOwn w base g n cap ls) : ls.length = n := SOwn.len h
theorem LOwn.rd {w : World} {base g n cap : Nat} {ls : List Lab} (h : LOwn w base g n cap ls) : SRd labE w (some ⟨g, 0, none⟩) ls := SOwn.rd h
theorem LOwn.kept {w w' : World} {row : Option Nat} {base g n cap : Nat} {ls : List Lab} (h : LOwn w base g n cap ls) (hg : w.grownBy w' row) (hne : some g ≠ row) : LOwn w' base g n cap ls :=
  SOwn.kept h hg (.inr (by simpa [Value.ownBlock] using hne))
theorem LOwn.of {w : World} {base n : Nat} {v : Value} {ls : List Lab} (h : SOwn labE 63 w base v n ls) (hn : v ≠ .slice none 0 0) : ∃ g cap, v = .slice (some ⟨g, 0, none⟩) n cap ∧ LOwn w base g n cap ls := by
  obtain ⟨g, cap, rfl, _⟩ := SOwn.some h hn
  exact ⟨g, cap, rfl, h⟩

theorem lcopy (a : Option Addr) (ls : List Lab) (L cap : Nat) (w : World) (hr : SRd labE w a ls) (hL : ls.length = L) (hnil : a = none → cap = 0) (hz : L ≤ 4398046511000) :
    Calls Tryd.prog 31 #[.slice a L cap] w fun e w' => ∃ g c, e = .returned (.slice (some ⟨g, 0, none⟩) L c) ∧ LOwn w' w.heap.size g L c ls ∧ w.grownBy w' none := by
  have HR : Hid (SRd labE w a ls) := hr
  have HL : Hid (ls.length = L) := hL
  have HN : Hid (a = none → cap = 0) := hnil
  clear hr hL hnil
  go_enter Tryd.func31, Tryd.ntmps31
  go_wp2_with (at_builtin; refine wpList_append_s labT rfl (.tmp 3) (.tmp 4) rfl w.heap.size (.slice (some ⟨w.heap.size, 0, none⟩) 0 0) 0 [] rfl (SOwn.empty labE 63 w) a ls L cap rfl HL.out (HR.out.grown (World.grownBy_alloc w _ none) (by simp)) HN.out (by omega) (by unfold maxLen; omega) (Nat.le_of_lt (by rw [show ((w.alloc (.cells #[] 63)).heap.size) = w.heap.size + 1 from Array.size_push _]; omega)) ?_; intro v1 w1 ho1 hg1 hn1)
  go_ret
  rw [List.nil_append, Nat.zero_add] at ho1
  obtain ⟨g, c, rfl, ho⟩ := LOwn.of ho1 (fun e => by simpa using (hn1 e).1)
  exact ⟨g, c, rfl, ho, gb_trans (World.grownBy_alloc w _ none) hg1 (fun i hi => .inl (by simp [Value.ownBlock] at hi; omega))⟩

theorem lsame_len (a b : Option Addr) (L M : Nat) (c d : Nat) (w : World) (hne : ¬ L = M) :
    Calls Tryd.prog 25 #[.slice a L c, .slice b M d] w fun e w' => e = .returned (.bool false) ∧ w = w' := by
  have h : ((L : Int) != (M : Int)) = true := by simp; omega
  go_enter Tryd.func25, Tryd.ntmps25
  go_wp2
  go_ret
  exact ⟨rfl, rfl⟩
theorem str_eq (x y : ByteArray) : (x.toList == y.toList) = decide (x = y) := by
  rw [Bool.eq_iff_iff]
  simp only [beq_iff_eq, decide_eq_true_eq]
  constructor
  · intro h
    rw [ByteArray.toList_eq, ByteArray.toList_eq] at h
    exact ByteArray.ext (Array.toList_inj.1 h)
  · intro h; rw [h]
theorem neq52 (s1 s2 t1 t2 : ByteArray) (w : World) : (binOp .neq 63 (.agg #[.string s1, .string s2]) (.agg #[.string t1, .string t2])).run Tryd.prog w = .ok (.bool (!decide ((s1, s2) = (t1, t2)))) w := by
  have h : (Op.equal 63 (.agg #[.string s1, .string s2]) (.agg #[.string t1, .string t2])).run Tryd.prog w = .ok (decide ((s1, s2) = (t1, t2))) w := by
    have hf : (Tryd.prog.fieldsOf 63).toList.map (fun f => (f.type, f.offset)) = [(9, 0), (9, 1)] := by kernel_rfl
    have hn : (Tryd.prog.fieldsOf 63).toList.all (fun f => f.name != "_") = true := by kernel_rfl
    have hu : Tryd.prog.underlying 63 = some (.struct (Tryd.prog.fieldsOf 63)) := by kernel_rfl
    have hp : Tryd.prog.stoodInHeld 63 = false := by kernel_rfl
    simp only [Op.equal]
    rw [show Op.maxDepth = 9999 + 1 from rfl, run_equalIn_struct w 9999 63 _ _ hu hp]
    generalize (Tryd.prog.fieldsOf 63).toList = fs at hf hn
    have hl : fs.length = 2 := by simpa using congrArg List.length hf
    obtain ⟨f1, f2, rfl⟩ : ∃ f1 f2, fs = [f1, f2] := by
      match fs, hl with
      | [f1, f2], _ => exact ⟨f1, f2, rfl⟩
    simp only [List.map_cons, List.map_nil, List.cons.injEq, Prod.mk.injEq, and_true] at hf
    simp only [List.all_cons, List.all_nil, Bool.and_true, Bool.and_eq_true, bne_iff_ne] at hn
    obtain ⟨⟨h1, h2⟩, h3, h4⟩ := hf
    have p0 : ∀ (x y : ByteArray) (w : World), (part 9 #[.string x, .string y] 0).run Tryd.prog w = .ok (.string x) w := fun x y w => by simp [part, go_sem]
    have p1 : ∀ (x y : ByteArray) (w : World), (part 9 #[.string x, .string y] 1).run Tryd.prog w = .ok (.string y) w := fun x y w => by simp [part, go_sem]
    have q : ∀ (x y : ByteArray) (w : World), (Op.equalIn 9999 9 (.string x) (.string y)).run Tryd.prog w = .ok (x.toList == y.toList) w := fun x y w => run_equalIn_string w 9998 9 x y Tryd.underlying9
    simp only [Op.eqFields, hn.1, hn.2, h1, h2, h3, h4, ne_eq, not_false_eq_true, if_true, Sem.run_bind, p0, q, Result.andThen_ok]
    rw [str_eq]
    by_cases e1 : s1 = t1 <;> by_cases e2 : s2 = t2 <;> simp [e1, e2, p1, q, str_eq]
  simp [binOp, h]

set_option maxHeartbeats 400000 in
theorem lsame_loop (a b : Option Addr) (xs ys : List Lab) (c d : Nat) (w : World) (hx : SRd labE w a xs) (hy : SRd labE w b ys) (hl : ys.length = xs.length) (hz : xs.length ≤ 4398046511104) :
    Calls Tryd.prog 25 #[.slice a xs.length c, .slice b xs.length d] w fun e w' => e = .returned (.bool (decide (xs = ys))) ∧ ∃ n, w' = w.drewN n := by
  have HX : Hid (SRd labE w a xs) := hx
  have HY : Hid (SRd labE w b ys) := hy
  have HE : Hid (∀ k, k < xs.length → xs[k]? ≠ ys[k]? → decide (xs = ys) = false) := by
    intro k hk hne
    simp only [decide_eq_false_iff_not]
    intro h
    rw [h] at hne
    exact hne rfl
  have HF : Hid ((∀ j, j < xs.length → xs[j]? = ys[j]?) → decide (xs = ys) = true) := fun h => by
    simp only [decide_eq_true_eq]
    apply List.ext_getElem?
    intro j
    by_cases hj : j < xs.length
    · exact h j hj
    · rw [List.getElem?_eq_none (by omega), List.getElem?_eq_none (by omega)]
  have HM : Hid (ys.length = xs.length) := hl
  obtain ⟨L, hL⟩ : ∃ L, L = xs.length := ⟨_, rfl⟩
  have H5 : Hid (L = xs.length) := hL
  obtain ⟨res, hres⟩ : ∃ r, r = decide (xs = ys) := ⟨_, rfl⟩
  have HRes : Hid (res = decide (xs = ys)) := hres
  rw [← hL] at hz ⊢
  rw [← hres]
  clear hx hy hl hL hres
  go_enter Tryd.func25, Tryd.ntmps25
  go_wp2
  go_loopw [5] (fun i wr => ∃ k : Nat, k ≤ L ∧ i = .int .i64 k ∧ (∃ n, wr = w.drewN n) ∧ ∀ j, j < k → xs[j]? = ys[j]?) (fun i _ => L - (intOf i).toNat)
  case atStart => exact ⟨0, Nat.zero_le _, rfl, ⟨0, rfl⟩, fun j h => by omega⟩
  case round =>
    obtain ⟨k, hk, rfl, ⟨m, rfl⟩, hall⟩ := hrel
    have HA : Hid (∀ j, j < k → xs[j]? = ys[j]?) := hall
    clear hall
    by_cases hlt : k < L
    · have h5 := H5.out
      have h6 := HM.out
      obtain ⟨ba, offa, rfl, hca⟩ := HX.out.at (by omega)
      obtain ⟨bb, offb, rfl, hcb⟩ := HY.out.at (by omega)
      obtain ⟨⟨s1, s2⟩, ex⟩ : ∃ x, xs[k]? = some x := ⟨_, List.getElem?_eq_getElem (by omega)⟩
      obtain ⟨⟨t1, t2⟩, ey⟩ : ∃ y, ys[k]? = some y := ⟨_, List.getElem?_eq_getElem (by omega)⟩
      have a0 : w.cell? ⟨ba, offa + k * 2, none⟩ = some (.string s1) := hca k _ 0 _ ex rfl
      have a1 : w.cell? ⟨ba, offa + k * 2 + 1, none⟩ = some (.string s2) := by rw [Nat.add_assoc]; exact hca k _ 1 _ ex rfl
      have b0 : w.cell? ⟨bb, offb + k * 2, none⟩ = some (.string t1) := hcb k _ 0 _ ey rfl
      have b1 : w.cell? ⟨bb, offb + k * 2 + 1, none⟩ = some (.string t2) := by rw [Nat.add_assoc]; exact hcb k _ 1 _ ey rfl
      have EX : Hid (xs[k]? = some (s1, s2)) := ex
      have EY : Hid (ys[k]? = some (t1, t2)) := ey
      have hi : (k : Int) < (L : Int) := by omega
      have hq : ∀ w, _ := neq52 s1 s2 t1 t2
      clear hca hcb ex ey h5 h6
      by_cases hxy : (s1, s2) = (t1, t2)
      · have hb1 : (!decide ((s1, s2) = (t1, t2))) = false := by simp [hxy]
        rw [hb1] at hq
        have HXY : Hid ((s1, s2) = (t1, t2)) := hxy
        clear hxy hb1
        go_wp2_with fail
        go_quiet (fail)
        go_wp2
        go_roundw
        case rel =>
          refine ⟨k + 1, by omega, by go_num, ⟨_, rfl⟩, fun j hj => ?_⟩
          by_cases hjk : j < k
          · exact HA.out j hjk
          · have : j = k := by omega
            subst this
            rw [EX.out, EY.out, HXY.out]
        case measure => simp [intOf]; omega
      · have hb1 : (!decide ((s1, s2) = (t1, t2))) = true := by simp [hxy]
        rw [hb1] at hq
        have HXY : Hid (¬ (s1, s2) = (t1, t2)) := hxy
        clear hxy hb1
        go_wp2_with fail
        go_quiet (fail)
        go_wp2
        go_ret
        refine ⟨ret_bool ?_, _, drewN_drewN _ _ _⟩
        rw [HRes.out]
        refine (HE.out k (by have := H5.out; omega) ?_).symm
        rw [EX.out, EY.out]
        intro e
        exact HXY.out (Option.some.inj e)
    · go_wp2
      go_ret
      refine ⟨ret_bool ?_, _, rfl⟩
      rw [HRes.out]
      exact (HF.out fun j hj => HA.out j (by have := H5.out; omega)).symm

/-- SameLabels, of any two. -/
theorem lsame (a b : Option Addr) (xs ys : List Lab) (L M c d : Nat) (w : World) (hx : SRd labE w a xs) (hy : SRd labE w b ys) (hL : xs.length = L) (hM : ys.length = M) (hz : L ≤ 4398046511104) :
    Calls Tryd.prog 25 #[.slice a L c, .slice b M d] w fun e w' => e = .returned (.bool (decide (xs = ys))) ∧ w.grownBy w' none := by
  subst hL
  subst hM
  by_cases hl : xs.length = ys.length
  · rw [← hl]
    refine (lsame_loop a b xs ys c d w hx hy hl.symm hz).mono ?_
    rintro e w' ⟨rfl, n, rfl⟩
    exact ⟨rfl, gb_drewN w n⟩
  · have e : decide (xs = ys) = false := by
      simp only [decide_eq_false_iff_not]
      intro h
      exact hl (by rw [h])
    rw [e]
    refine (lsame_len a b _ _ c d w hl).mono ?_
    rintro e w' ⟨rfl, rfl⟩
    exact ⟨rfl, World.grownBy.refl _ _⟩

def spoilt : ByteArray := ⟨#[115, 112, 111, 105, 108, 116]⟩
def sp2 : List Lab := [(spoilt, spoilt), (spoilt, spoilt)]
theorem llit (w : World) (ls : List Lab) : SRd labE (w.alloc (.cells (labE.flat ls).toArray 63)) (some ⟨w.heap.size, 0, none⟩) ls := by
  refine .inr ⟨w.heap.size, 0, rfl, fun j v hj => ?_⟩
  rw [Nat.zero_add, cell_of_row _ w.heap.size j _ 63 _ (heap_alloc_new w _)]
  simpa using hj

/-- Parts of a slice of labels that the call made. -/
theorem LOwn.head {w : World} {base g n cap : Nat} {xs ys : List Lab} (h : LOwn w base g n cap (xs ++ ys)) : SRd labE w (some ⟨g, 0, none⟩) xs := by
  rcases h.rd with h | ⟨b, off, e, h⟩
  · simp at h; rw [h.1]; exact .inl rfl
  · refine .inr ⟨b, off, e, fun j v hj => h j v ?_⟩
    rw [labE.flat_app, List.getElem?_append_left (List.getElem?_eq_some_iff.1 hj).1]
    exact hj
theorem LOwn.tail {w : World} {base g n cap : Nat} {xs ys : List Lab} (h : LOwn w base g n cap (xs ++ ys)) : SRd labE w (some ⟨g, xs.length * 2, none⟩) ys := by
  rcases h.rd with h | ⟨b, off, e, h⟩
  · simp at h; rw [h.2]; exact .inl rfl
  · cases e
    refine .inr ⟨g, xs.length * 2, rfl, fun j v hj => ?_⟩
    have h1 := h (xs.length * 2 + j) v (by
      rw [labE.flat_app, List.getElem?_append_right (by rw [labE.flat_len]; exact Nat.le_add_right _ _), labE.flat_len]
      rw [show xs.length * 2 + j - xs.length * labE.size = j from by show xs.length * 2 + j - xs.length * 2 = j; omega]
      exact hj)
    rwa [Nat.zero_add] at h1
theorem LOwn.row {w : World} {base g n cap : Nat} {ls : List Lab} (h : LOwn w base g n cap ls) : ∃ cur, w.heap[g]? = some (.cells cur 63 (0, 0)) ∧ cur.size = cap * 2 ∧ cur.toList.take (n * 2) = labE.flat ls := by
  rcases h.2 with ⟨h', _⟩ | ⟨g', cap', cur, h', _, h2, _, _, h5, h6⟩
  · simp at h'
  · simp only [Value.slice.injEq, Option.some.injEq, Addr.mk.injEq] at h'
    obtain ⟨⟨rfl, _⟩, _, rfl⟩ := h'
    exact ⟨cur, h2, h5, h6⟩
theorem gb_setRow (w : World) (g : Nat) (cs : Array Value) : w.grownBy (w.setRow g cs) (some g) := by
  refine ⟨rfl, rfl, rfl, ?_, ?_⟩
  · simp [World.setRow]
  · intro k hk hne
    simp only [World.setRow]
    rw [Array.getElem?_modify]
    have : ¬ g = k := fun e => hne (by rw [e])
    simp [this]
/-- A row of so many labels. -/
def Row2 (w : World) (g cap : Nat) : Prop := ∃ cur : Array Value, w.heap[g]? = some (.cells cur 63 (0, 0)) ∧ cur.size = cap * 2
theorem LOwn.row2 {w : World} {base g n cap : Nat} {ls : List Lab} (h : LOwn w base g n cap ls) : Row2 w g cap := by
  obtain ⟨cur, h1, h2, _⟩ := h.row
  exact ⟨cur, h1, h2⟩
theorem Row2.cells {w : World} {g cap : Nat} (h : Row2 w g cap) (k : Nat) (hk : k < cap) : ∃ v0 v1, w.cell? ⟨g, k * 2, none⟩ = some v0 ∧ w.cell? ⟨g, k * 2 + 1, none⟩ = some v1 ∧ w.frozen? ⟨g, k * 2, none⟩ = false ∧ w.frozen? ⟨g, k * 2 + 1, none⟩ = false := by
  obtain ⟨cur, h1, h2⟩ := h
  refine ⟨_, _, by rw [cell_of_row w g _ cur 63 _ h1, Array.getElem?_eq_getElem (by omega)], by rw [cell_of_row w g _ cur 63 _ h1, Array.getElem?_eq_getElem (by omega)], ?_, ?_⟩ <;> simp [World.frozen?, h1]
theorem Row2.set {w : World} {g cap : Nat} (h : Row2 w g cap) (j : Nat) (v : Value) : Row2 (w.setCell ⟨g, j, none⟩ v) g cap := by
  obtain ⟨cur, h1, h2⟩ := h
  exact ⟨cur.setIfInBounds j v, by rw [setCell_eq_setRow w g j cur 63 (0, 0) v h1, setRow_heap w g cur _ 63 _ h1], by simpa using h2⟩
/-- A label of it is written over. -/
theorem Row2.store {w : World} {g cap : Nat} (h : Row2 w g cap) (k : Nat) (hk : k < cap) (s t : ByteArray) : ∃ w', (storeCells ⟨g, k * 2, none⟩ [.string s, .string t]).run Tryd.prog w = .ok () w' ∧ Row2 w' g cap ∧ w.grownBy w' (some g) := by
  obtain ⟨cur, h1, h2⟩ := h
  refine ⟨_, run_storeCells_at (P := Tryd.prog) g (k * 2) 63 [.string s, .string t] 0 cur w h1 (by simp; omega) ?_, ?_, ?_⟩
  · intro v hv
    simp only [List.mem_cons, List.mem_nil_iff, or_false] at hv
    rcases hv with rfl | rfl <;> rfl
  · refine ⟨_, setRow_heap w g cur _ 63 _ h1, ?_⟩
    simp only [List.size_toArray, List.length_append, List.length_take, List.length_drop, Array.length_toList, List.length_cons, List.length_nil]
    omega
  · exact gb_setRow w g _

theorem Row2.other {w : World} {g cap : Nat} (h : Row2 w g cap) (g2 j : Nat) (v : Value) : Row2 (w.setCell ⟨g2, j, none⟩ v) g cap := by
  by_cases e : g2 = g
  · subst e; exact h.set j v
  · obtain ⟨cur, h1, h2⟩ := h
    exact ⟨cur, ((gb_set (w := w) (p := ⟨g2, j, none⟩) (u := v) rfl).block g (Array.getElem?_eq_some_iff.1 h1).1 (fun x => e (Option.some.inj x).symm)).trans h1, h2⟩
abbrev sput (w : World) (g k : Nat) : World := (w.setCell ⟨g, k * 2, none⟩ (.string ⟨#[115, 112, 111, 105, 108, 116]⟩)).setCell ⟨g, k * 2 + 1, none⟩ (.string ⟨#[115, 112, 111, 105, 108, 116]⟩)
theorem gb_sput (w : World) (g k : Nat) : w.grownBy (sput w g k) (some g) := gb_trans (gb_set rfl) (gb_set rfl) (fun j hj => .inr hj)

theorem Row2.kept {w w' : World} {row : Option Nat} {g cap : Nat} (h : Row2 w g cap) (hg : w.grownBy w' row) (hne : some g ≠ row) : Row2 w' g cap := by
  obtain ⟨cur, h1, h2⟩ := h
  exact ⟨cur, (hg.block g (Array.getElem?_eq_some_iff.1 h1).1 hne).trans h1, h2⟩
theorem Row2.sput {w : World} {g cap : Nat} (h : Row2 w g cap) (g2 k : Nat) : Row2 (sput w g2 k) g cap := (h.other g2 _ _).other g2 _ _

set_option maxHeartbeats 1000000 in
theorem lspoil_fits (g base n c : Nat) (ls : List Lab) (w : World) (ho : LOwn w base g n c ls) (hc : n + 1 ≤ c) (hn : n ≤ 4398046511000) :
    Calls Tryd.prog 34 #[.slice (some ⟨g, 0, none⟩) n c] w fun e w' => e = .returned (.tuple #[]) ∧ w.grownBy w' (some g) := by
  obtain ⟨i0, z, hi, hz0, hz1, hz2, hz3⟩ := labT.info
  have hcm : (c : Int) ≤ 9223372036854775807 := by have := ho.cap.2; unfold maxLen at this; omega
  have HO : Hid (LOwn (w.alloc (.cells (labE.flat [(spoilt, spoilt)]).toArray 63)) base g n c ls) := ho.kept (World.grownBy_alloc w _ none) (by simp)
  clear ho
  go_enter Tryd.func34, Tryd.ntmps34
  go_wp2_with (at_builtin; refine wpList_append_fits _ rfl (.tmp 5) (.tmp 7) 44 rfl base 63 i0 2 labT.under hi hz1 g n c (labE.flat ls) rfl HO.out ⟨w.heap.size, 0, none⟩ 1 1 (labE.flat [(spoilt, spoilt)]) rfl rfl (SRd.news (llit w [(spoilt, spoilt)])) (labE.flat_one _) hc ?_; intro w1 hown hg1)
  have HG1 : Hid (w.grownBy w1 (some g)) := gb_trans (gb_any (World.grownBy_alloc w _ none) _) hg1 (fun j hj => .inr hj)
  have HR1 : Hid (Row2 w1 g c) := by
    have h : LOwn w1 base g (n + 1) c (ls ++ [(spoilt, spoilt)]) := by
      unfold LOwn SOwn
      rw [labE.flat_app]
      exact hown
    exact h.row2
  clear hown hg1 HO
  go_loopw [3] (fun i wr => ∃ k : Nat, k ≤ n + 1 ∧ i = .int .i64 k ∧ w.grownBy wr (some g) ∧ Row2 wr g c) (fun i _ => n + 1 - (intOf i).toNat)
  case atStart => exact ⟨0, Nat.zero_le _, rfl, HG1.out, HR1.out⟩
  case round =>
    obtain ⟨k, hk, rfl, hgr, hrow⟩ := hrel
    have HGR : Hid (w.grownBy wr (some g)) := hgr
    have HROW : Hid (Row2 wr g c) := hrow
    clear hgr hrow HG1 HR1
    by_cases hlt : k < n + 1
    · obtain ⟨v0, v1, c0, c1, f0, f1⟩ := HROW.out.cells k (by omega)
      have hi : (k : Int) < (n : Int) + 1 := by omega
      go_wp2
      go_roundw
      case rel => exact ⟨k + 1, by omega, by go_num, gb_trans HGR.out (gb_sput wr g k) (fun j hj => .inr hj), HROW.out.sput g k⟩
      case measure => simp [intOf]; omega
    · go_wp2
      go_loopw [4] (fun i wq => ∃ k : Nat, k ≤ n ∧ i = .int .i64 k ∧ w.grownBy wq (some g) ∧ Row2 wq g c) (fun i _ => n - (intOf i).toNat)
      case atStart => exact ⟨0, Nat.zero_le _, rfl, HGR.out, HROW.out⟩
      case round =>
        obtain ⟨q, hq, rfl, hgq, hrq⟩ := hrel
        have HGQ : Hid (w.grownBy wr (some g)) := hgq
        have HRQ : Hid (Row2 wr g c) := hrq
        clear hgq hrq HROW HGR
        by_cases hlt : q < n
        · obtain ⟨v0, v1, c0, c1, f0, f1⟩ := HRQ.out.cells q (by omega)
          have hi : (q : Int) < (n : Int) := by omega
          go_wp2
          go_roundw
          case rel => exact ⟨q + 1, by omega, by go_num, gb_trans HGQ.out (gb_sput wr g q) (fun j hj => .inr hj), HRQ.out.sput g q⟩
          case measure => simp [intOf]; omega
        · go_wp2
          go_end0
          exact ⟨rfl, HGQ.out⟩

set_option maxHeartbeats 1000000 in
theorem lspoil_grow (g base n : Nat) (ls : List Lab) (w : World) (ho : LOwn w base g n n ls) (hn : n ≤ 4398046511000) :
    Calls Tryd.prog 34 #[.slice (some ⟨g, 0, none⟩) n n] w fun e w' => e = .returned (.tuple #[]) ∧ w.grownBy w' (some g) := by
  obtain ⟨i0, z, hi, hz0, hz1, hz2, hz3⟩ := labT.info
  have HO : Hid (LOwn w base g n n ls) := ho
  have HL : Hid ((labE.flat ls).length = n * 2) := ho.1
  have HOL : Hid (∀ b, some (⟨g, 0, none⟩ : Addr) = some b → ∀ j u, (labE.flat ls)[j]? = some u → (w.alloc (.cells (labE.flat [(spoilt, spoilt)]).toArray 63)).cell? (b.add j) = some u) := by
    intro b hb j u hj
    cases hb
    exact SRd.news (ho.rd.grown (World.grownBy_alloc w _ none) (by simp)) j u hj
  clear ho
  go_enter Tryd.func34, Tryd.ntmps34
  go_wp2_with (at_builtin; refine wpList_append_grows _ rfl (.tmp 5) (.tmp 7) 44 rfl 63 i0 z 2 32 labT.under hi hz0 hz1 hz2 hz3 (by decide) (some ⟨g, 0, none⟩) n n (labE.flat ls) rfl (by simp) HL.out HOL.out ⟨w.heap.size, 0, none⟩ 1 1 (labE.flat [(spoilt, spoilt)]) rfl rfl (SRd.news (llit w [(spoilt, spoilt)])) (labE.flat_one _) (by omega) (by unfold maxLen; omega) (by omega) ?_; intro v' w1 hown hg1; obtain ⟨g1, c1, rfl, hge1, hlt1, hc1, hcm1⟩ := SOwn.some (E := labE) (l := ls ++ [(spoilt, spoilt)]) (show SOwn labE 63 w1 _ v' (n + 1) (ls ++ [(spoilt, spoilt)]) by unfold SOwn; rw [labE.flat_app]; exact hown) (fun e => by rw [e] at hown; rcases hown.2 with ⟨_, h⟩ | ⟨_, _, _, h, _⟩ <;> simp at h))
  have HG1 : Hid (w.grownBy w1 none) := gb_trans (World.grownBy_alloc w _ none) hg1 (by simp)
  have HR1 : Hid (Row2 w1 g1 c1) := by
    have h : LOwn w1 (w.alloc (.cells (labE.flat [(spoilt, spoilt)]).toArray 63)).heap.size g1 (n + 1) c1 (ls ++ [(spoilt, spoilt)]) := by
      unfold LOwn SOwn
      rw [labE.flat_app]
      exact hown
    exact h.row2
  have HGe : Hid (w.heap.size ≤ g1) := Nat.le_trans (World.grownBy_alloc w _ none).size hge1
  have hcm : (c1 : Int) ≤ 9223372036854775807 := by unfold maxLen at hcm1; omega
  clear hown hg1 hge1 hlt1 hcm1
  go_loopw [3] (fun i wr => ∃ k : Nat, k ≤ n + 1 ∧ i = .int .i64 k ∧ w.grownBy wr none ∧ Row2 wr g1 c1) (fun i _ => n + 1 - (intOf i).toNat)
  case atStart => exact ⟨0, Nat.zero_le _, rfl, HG1.out, HR1.out⟩
  case round =>
    obtain ⟨k, hk, rfl, hgr, hrow⟩ := hrel
    have HGR : Hid (w.grownBy wr none) := hgr
    have HROW : Hid (Row2 wr g1 c1) := hrow
    clear hgr hrow HG1 HR1
    by_cases hlt : k < n + 1
    · obtain ⟨v0, v1, c0, c1, f0, f1⟩ := HROW.out.cells k (by omega)
      have hi : (k : Int) < (n : Int) + 1 := by omega
      go_wp2
      go_roundw
      case rel => exact ⟨k + 1, by omega, by go_num, gb_trans HGR.out (gb_sput wr g1 k) (fun j hj => .inl (by simp at hj; have := HGe.out; omega)), HROW.out.sput g1 k⟩
      case measure => simp [intOf]; omega
    · have HRA : Hid (Row2 wr g n) := HO.out.row2.kept HGR.out (by simp)
      clear HROW
      go_wp2
      go_loopw [4] (fun i wq => ∃ k : Nat, k ≤ n ∧ i = .int .i64 k ∧ w.grownBy wq (some g) ∧ Row2 wq g n) (fun i _ => n - (intOf i).toNat)
      case atStart => exact ⟨0, Nat.zero_le _, rfl, gb_any HGR.out _, HRA.out⟩
      case round =>
        obtain ⟨q, hq, rfl, hgq, hrq⟩ := hrel
        have HGQ : Hid (w.grownBy wr (some g)) := hgq
        have HRQ : Hid (Row2 wr g n) := hrq
        clear hgq hrq HRA HGR
        by_cases hlt : q < n
        · obtain ⟨v0, v1, c0, c1, f0, f1⟩ := HRQ.out.cells q (by omega)
          have hi : (q : Int) < (n : Int) := by omega
          go_wp2
          go_roundw
          case rel => exact ⟨q + 1, by omega, by go_num, gb_trans HGQ.out (gb_sput wr g q) (fun j hj => .inr hj), HRQ.out.sput g q⟩
          case measure => simp [intOf]; omega
        · go_wp2
          go_end0
          exact ⟨rfl, HGQ.out⟩

set_option maxHeartbeats 1000000 in
theorem lspoil_nil (w : World) :
    Calls Tryd.prog 34 #[.slice none 0 0] w fun e w' => e = .returned (.tuple #[]) ∧ w.grownBy w' none := by
  obtain ⟨i0, z, hi, hz0, hz1, hz2, hz3⟩ := labT.info
  go_enter Tryd.func34, Tryd.ntmps34
  go_wp2_with (at_builtin; refine wpList_append_grows _ rfl (.tmp 5) (.tmp 7) 44 rfl 63 i0 z 2 32 labT.under hi hz0 hz1 hz2 hz3 (by decide) none 0 0 (labE.flat []) rfl (by simp) rfl (by simp) ⟨w.heap.size, 0, none⟩ 1 1 (labE.flat [(spoilt, spoilt)]) rfl rfl (SRd.news (llit w [(spoilt, spoilt)])) (labE.flat_one _) (by omega) (by unfold maxLen; omega) (by omega) ?_; intro v' w1 hown hg1; obtain ⟨g1, c1, rfl, hge1, hlt1, hc1, hcm1⟩ := SOwn.some (E := labE) (l := [] ++ [(spoilt, spoilt)]) (show SOwn labE 63 w1 _ v' (0 + 1) ([] ++ [(spoilt, spoilt)]) by unfold SOwn; rw [labE.flat_app]; exact hown) (fun e => by rw [e] at hown; rcases hown.2 with ⟨_, h⟩ | ⟨_, _, _, h, _⟩ <;> simp at h))
  have HG1 : Hid (w.grownBy w1 none) := gb_trans (World.grownBy_alloc w _ none) hg1 (by simp)
  have HR1 : Hid (Row2 w1 g1 c1) := by
    have h : LOwn w1 (w.alloc (.cells (labE.flat [(spoilt, spoilt)]).toArray 63)).heap.size g1 (1) c1 ([] ++ [(spoilt, spoilt)]) := by
      unfold LOwn SOwn
      rw [labE.flat_app]
      exact hown
    exact h.row2
  have HGe : Hid (w.heap.size ≤ g1) := Nat.le_trans (World.grownBy_alloc w _ none).size hge1
  have hcm : (c1 : Int) ≤ 9223372036854775807 := by unfold maxLen at hcm1; omega
  clear hown hg1 hge1 hlt1 hcm1
  go_loopw [3] (fun i wr => ∃ k : Nat, k ≤ 1 ∧ i = .int .i64 k ∧ w.grownBy wr none ∧ Row2 wr g1 c1) (fun i _ => 1 - (intOf i).toNat)
  case atStart => exact ⟨0, Nat.zero_le _, rfl, HG1.out, HR1.out⟩
  case round =>
    obtain ⟨k, hk, rfl, hgr, hrow⟩ := hrel
    have HGR : Hid (w.grownBy wr none) := hgr
    have HROW : Hid (Row2 wr g1 c1) := hrow
    clear hgr hrow HG1 HR1
    by_cases hlt : k < 1
    · obtain ⟨v0, v1, c0, c1, f0, f1⟩ := HROW.out.cells k (by omega)
      have hi : (k : Int) < 1 := by omega
      go_wp2
      go_roundw
      case rel => exact ⟨k + 1, by omega, by go_num, gb_trans HGR.out (gb_sput wr g1 k) (fun j hj => .inl (by simp at hj; have := HGe.out; omega)), HROW.out.sput g1 k⟩
      case measure => simp [intOf]; omega
    · clear HROW
      go_wp2
      refine wp_loop_rounds 1 ?_
      rw [rounds_succ]
      go_wp2
      go_end0
      exact ⟨rfl, HGR.out⟩

/-- SpoilLabels of what a call made. -/
theorem lspoil (a : Option Addr) (base n c : Nat) (ls : List Lab) (w : World) (ho : SOwn labE 63 w base (.slice a n c) n ls) (hn : n ≤ 4398046511000) :
    Calls Tryd.prog 34 #[.slice a n c] w fun e w' => e = .returned (.tuple #[]) ∧ w.grownBy w' (Value.slice a n c).ownBlock := by
  rcases ho.2 with ⟨h', h0⟩ | ⟨g, cap, cur, h', h1, h2, h3, h4, h5, h6⟩
  · simp only [Value.slice.injEq] at h'
    obtain ⟨rfl, rfl, rfl⟩ := h'
    exact lspoil_nil w
  · simp only [Value.slice.injEq] at h'
    obtain ⟨rfl, _, rfl⟩ := h'
    by_cases hc : n + 1 ≤ c
    · exact lspoil_fits g base n c ls w ho hc hn
    · obtain rfl : c = n := by omega
      exact lspoil_grow g base c ls w ho hn
end Go.Proofs.YtecnocdffhmkaaaDoor

/- Slices of texts: copied, lent, held against one another, kept. -/
namespace Go.Proofs.YtecnocdffhmkaaaDoor
set_option maxRecDepth 20000
open Go.ChangeShapes Go.WideShapes Go.ChangeAt Go.RowKit
set_option linter.unusedVariables false

def strE : Elem ByteArray where
  cells s := [.string s]
  size := 1
  pos := by decide
  len _ := rfl
  one p v h := by
    simp only [List.mem_cons, List.mem_nil_iff, or_false] at h
    rw [h]; rfl
theorem info9 : (Tryd.prog.info? 9).map (fun i => (i.zero, i.size, i.bytes)) = some (some (.string ⟨#[]⟩), 1, 16) := by kernel_rfl
theorem strT : ElemOf strE Tryd.prog 49 9 16 := by
  obtain ⟨i0, hi, hz0, hz1, hz2⟩ := info_parts info9
  exact ⟨Tryd.underlying49, i0, _, hi, hz0, hz1, hz2, rfl⟩

/-- A slice of texts that the call made. -/
def TOwn (w : World) (base g n cap : Nat) (ss : List ByteArray) : Prop := SOwn strE 9 w base (.slice (some ⟨g, 0, none⟩) n cap) n ss
theorem TOwn.ge {w : World} {base g n cap : Nat} {ss : List ByteArray} (h : TOwn w base g n cap ss) : base ≤ g ∧ g < w.heap.size := SOwn.block h g rfl
theorem TOwn.cap {w : World} {base g n cap : Nat} {ss : List ByteArray} (h : TOwn w base g n cap ss) : n ≤ cap ∧ cap ≤ maxLen := by
  obtain ⟨g', c', e, _, _, h1, h2⟩ := SOwn.some h (by simp)
  simp only [Value.slice.injEq] at e
  obtain ⟨_, _, rfl⟩ := e
  exact ⟨h1, h2⟩
theorem TOwn.rd {w : World} {base g n cap : Nat} {ss : List ByteArray} (h : TOwn w base g n cap ss) : SRd strE w (some ⟨g, 0, none⟩) ss := SOwn.rd h
theorem TOwn.kept {w w' : World} {row : Option Nat} {base g n cap : Nat} {ss : List ByteArray} (h : TOwn w base g n cap ss) (hg : w.grownBy w' row) (hne : some g ≠ row) : TOwn w' base g n cap ss :=
  SOwn.kept h hg (.inr (by simpa [Value.ownBlock] using hne))
theorem TOwn.of {w : World} {base n : Nat} {v : Value} {ss : List ByteArray} (h : SOwn strE 9 w base v n ss) (hn : v ≠ .slice none 0 0) : ∃ g cap, v = .slice (some ⟨g, 0, none⟩) n cap ∧ TOwn w base g n cap ss := by
  obtain ⟨g, cap, rfl, _⟩ := SOwn.some h hn
  exact ⟨g, cap, rfl, h⟩

def ts2 : List ByteArray := [spoilt, spoilt]
theorem tlit (w : World) (ss : List ByteArray) : SRd strE (w.alloc (.cells (strE.flat ss).toArray 9)) (some ⟨w.heap.size, 0, none⟩) ss := by
  refine .inr ⟨w.heap.size, 0, rfl, fun j v hj => ?_⟩
  rw [Nat.zero_add, cell_of_row _ w.heap.size j _ 9 _ (heap_alloc_new w _)]
  simpa using hj

theorem TOwn.head {w : World} {base g n cap : Nat} {xs ys : List ByteArray} (h : TOwn w base g n cap (xs ++ ys)) : SRd strE w (some ⟨g, 0, none⟩) xs := by
  rcases h.rd with h | ⟨b, off, e, h⟩
  · simp at h; rw [h.1]; exact .inl rfl
  · refine .inr ⟨b, off, e, fun j v hj => h j v ?_⟩
    rw [strE.flat_app, List.getElem?_append_left (List.getElem?_eq_some_iff.1 hj).1]
    exact hj
theorem TOwn.tail {w : World} {base g n cap : Nat} {xs ys : List ByteArray} (h : TOwn w base g n cap (xs ++ ys)) : SRd strE w (some ⟨g, xs.length, none⟩) ys := by
  rcases h.rd with h | ⟨b, off, e, h⟩
  · simp at h; rw [h.2]; exact .inl rfl
  · cases e
    refine .inr ⟨g, xs.length, rfl, fun j v hj => ?_⟩
    have h1 := h (xs.length + j) v (by
      rw [strE.flat_app, List.getElem?_append_right (by rw [strE.flat_len]; show xs.length * 1 ≤ _; omega), strE.flat_len]
      rw [show xs.length + j - xs.length * strE.size = j from by show xs.length + j - xs.length * 1 = j; omega]
      exact hj)
    rwa [Nat.zero_add] at h1
def Row1 (w : World) (g cap : Nat) : Prop := ∃ cur : Array Value, w.heap[g]? = some (.cells cur 9 (0, 0)) ∧ cur.size = cap
theorem TOwn.row1 {w : World} {base g n cap : Nat} {ss : List ByteArray} (h : TOwn w base g n cap ss) : Row1 w g cap := by
  rcases h.2 with ⟨h', _⟩ | ⟨g', cap', cur, h', _, h2, _, _, h5, h6⟩
  · simp at h'
  · simp only [Value.slice.injEq, Option.some.injEq, Addr.mk.injEq] at h'
    obtain ⟨⟨rfl, _⟩, _, rfl⟩ := h'
    exact ⟨cur, h2, by rw [h5]; exact Nat.mul_one _⟩
theorem Row1.cells {w : World} {g cap : Nat} (h : Row1 w g cap) (k : Nat) (hk : k < cap) : ∃ v0, w.cell? ⟨g, k, none⟩ = some v0 ∧ w.frozen? ⟨g, k, none⟩ = false := by
  obtain ⟨cur, h1, h2⟩ := h
  refine ⟨_, by rw [cell_of_row w g _ cur 9 _ h1, Array.getElem?_eq_getElem (by omega)], ?_⟩
  simp [World.frozen?, h1]
theorem Row1.set {w : World} {g cap : Nat} (h : Row1 w g cap) (j : Nat) (v : Value) : Row1 (w.setCell ⟨g, j, none⟩ v) g cap := by
  obtain ⟨cur, h1, h2⟩ := h
  exact ⟨cur.setIfInBounds j v, by rw [setCell_eq_setRow w g j cur 9 (0, 0) v h1, setRow_heap w g cur _ 9 _ h1], by simpa using h2⟩

end Go.Proofs.YtecnocdffhmkaaaDoor

