/- Several texts in one: Wd, Slot, Gen. -/
import Derived.Lib.ItoaNum
import Derived.Lib.ParseIntB
import Derived.Test.YtgpgkpciajajcaaGreatDoorRows
import Derived.WalkKit
import Derived.WalkSpells
import Derived.WalkLawsBesides
import Derived.Laws.AppendOwnNone
import Derived.Deep.AppendLies
import Derived.Laws.CopyOwn
import Derived.ArgAppend
import Derived.Deep.QuietTactic
import Derived.BigQuiet
import Derived.BigRegion
import Derived.ProofKit
import Derived.OpenShut
import Derived.ShutString
import Derived.ChangeOld
import Derived.SizedLaws
/- Eight digits: a number's name among a log's files, its order and its way back. (No program's numbers.) -/
namespace Go.Proofs.YtgpgkpciajajcaaGreatDoor
open Go
set_option linter.unusedVariables false

/-- The last n digits of a number. -/
def eN : Nat → Nat → List UInt8
  | 0, _ => []
  | n + 1, k => Lib.dg k n :: eN n k
theorem eN_len : ∀ n k, (eN n k).length = n
  | 0, _ => rfl
  | n + 1, k => by rw [eN, List.length_cons, eN_len n k]
theorem eN_eq : ∀ n k, eN n k = (List.range n).map fun t => Lib.dg k (n - 1 - t)
  | 0, _ => rfl
  | n + 1, k => by
    rw [eN, eN_eq n k, List.range_succ_eq_map, List.map_cons, List.map_map]
    congr 1
    refine List.map_congr_left fun t ht => ?_
    have := List.mem_range.1 ht
    show Lib.dg k (n - 1 - t) = Lib.dg k (n + 1 - 1 - (t + 1))
    congr 1
    omega
def d8 (k : Nat) : List UInt8 := eN 8 k
theorem d8_len (k : Nat) : (d8 k).length = 8 := eN_len 8 k
theorem dg_zero {k j : Nat} (h : k < 10 ^ j) : Lib.dg k j = 48 := by
  unfold Lib.dg
  rw [Nat.div_eq_of_lt h]
  rfl
theorem pow_mono10 {a b : Nat} (h : a ≤ b) : 10 ^ a ≤ 10 ^ b := Nat.pow_le_pow_right (by decide) h
theorem nDigits_le {k n : Nat} (hn : 1 ≤ n) (h : k < 10 ^ n) : Lib.nDigits k ≤ n := by
  by_cases h10 : k < 10
  · rw [Lib.nDigits_small h10]; exact hn
  · have hle : 10 ^ (Lib.nDigits k - 1) ≤ k := by
      clear h hn
      induction k using Nat.strongRecOn with
      | _ k ih =>
        rw [Lib.nDigits_big h10]
        by_cases h2 : k / 10 < 10
        · rw [Lib.nDigits_small h2]; simp; omega
        · have h3 := ih (k / 10) (by omega) h2
          have h4 := Lib.nDigits_pos (k / 10)
          rw [show Lib.nDigits (k / 10) + 1 - 1 = (Lib.nDigits (k / 10) - 1) + 1 by omega, Nat.pow_succ]
          omega
    have hlt : 10 ^ (Lib.nDigits k - 1) < 10 ^ n := by omega
    have := (Nat.pow_lt_pow_iff_right (a := 10) (by decide)).1 hlt
    omega
theorem d8_pad {k : Nat} (h : k < 100000000) : List.replicate (8 - Lib.nDigits k) 48 ++ Lib.decDigits k = d8 k := by
  have hn := nDigits_le (k := k) (n := 8) (by decide) (by simpa using h)
  have hp := Lib.nDigits_pos k
  have hl := Lib.lt_pow_nDigits k
  rw [d8, eN_eq, Lib.decDigits_eq]
  apply List.ext_getElem
  · simp; omega
  · intro i h1 h2
    rw [List.getElem_append]
    simp only [List.length_replicate, List.getElem_replicate, List.getElem_map, List.getElem_range]
    split
    · rw [dg_zero (Nat.lt_of_lt_of_le hl (pow_mono10 (by omega)))]
    · congr 1
      omega
theorem dgv (k j : Nat) : (Lib.dg k j).toNat = 48 + k / 10 ^ j % 10 := by
  unfold Lib.dg
  rw [UInt8.toNat_ofNat']
  have : k / 10 ^ j % 10 < 10 := Nat.mod_lt _ (by decide)
  omega
theorem mod_step (k n : Nat) : k % 10 ^ (n + 1) = k / 10 ^ n % 10 * 10 ^ n + k % 10 ^ n := by
  rw [Nat.pow_succ, Nat.mod_mul, Nat.mul_comm, Nat.add_comm]
theorem eN_lt : ∀ n k j, k % 10 ^ n < j % 10 ^ n → eN n k < eN n j
  | 0, k, j, h => by simp [Nat.mod_one] at h
  | n + 1, k, j, h => by
    rw [mod_step, mod_step] at h
    have hp : 0 < 10 ^ n := Nat.pow_pos (by decide)
    have h1 := Nat.mod_lt k hp
    have h2 := Nat.mod_lt j hp
    rw [eN, eN, List.cons_lt_cons_iff]
    rcases Nat.lt_trichotomy (k / 10 ^ n % 10) (j / 10 ^ n % 10) with h3 | h3 | h3
    · left
      show (Lib.dg k n).toNat < (Lib.dg j n).toNat
      rw [dgv, dgv]; omega
    · right
      refine ⟨UInt8.toNat_inj.1 (by rw [dgv, dgv, h3]), eN_lt n k j ?_⟩
      rw [h3] at h; omega
    · exfalso
      have h4 : (j / 10 ^ n % 10 + 1) * 10 ^ n ≤ k / 10 ^ n % 10 * 10 ^ n := Nat.mul_le_mul_right _ h3
      rw [Nat.add_mul] at h4
      omega
theorem d8_lt {k j : Nat} (hj : j < 100000000) (h : k < j) : d8 k < d8 j := by
  refine eN_lt 8 k j ?_
  rw [Nat.mod_eq_of_lt (by simp; omega), Nat.mod_eq_of_lt (by simp; omega)]
  exact h
theorem eN_parse (M : Nat) (hM : M ≤ 4294967295) : ∀ n k acc, (acc * 10 ^ n + k % 10 ^ n) ≤ M → Lib.parseUintM M acc (eN n k) = .ok (acc * 10 ^ n + k % 10 ^ n)
  | 0, k, acc, _ => by simp [eN, Lib.parseUintM, Nat.mod_one]
  | n + 1, k, acc, h => by
    have hd : k / 10 ^ n % 10 < 10 := Nat.mod_lt _ (by decide)
    have hp : 0 < 10 ^ n := Nat.pow_pos (by decide)
    have e1 : acc * 10 ^ (n + 1) + k % 10 ^ (n + 1) = (acc * 10 + k / 10 ^ n % 10) * 10 ^ n + k % 10 ^ n := by
      rw [mod_step, Nat.pow_succ, Nat.add_mul]
      have : acc * (10 ^ n * 10) = acc * 10 * 10 ^ n := by rw [Nat.mul_comm (10 ^ n) 10, Nat.mul_assoc]
      omega
    rw [e1] at h ⊢
    have h5 : acc * 10 + k / 10 ^ n % 10 ≤ M := by
      have : acc * 10 + k / 10 ^ n % 10 ≤ (acc * 10 + k / 10 ^ n % 10) * 10 ^ n := Nat.le_mul_of_pos_right _ hp
      omega
    rw [eN, Lib.parseUintM, dgv, if_pos (by omega), if_neg (by omega)]
    have e2 : 48 + k / 10 ^ n % 10 - 48 = k / 10 ^ n % 10 := by omega
    rw [e2, if_neg (by omega)]
    exact eN_parse M hM n k _ h
theorem d8_parse {k : Nat} (h : k < 100000000) : Lib.parseUintM 4294967295 0 (d8 k) = .ok k := by
  have e : k % 10 ^ 8 = k := Nat.mod_eq_of_lt (by simpa using h)
  have := eN_parse 4294967295 (Nat.le_refl _) 8 k 0 (by rw [e]; omega)
  rw [d8, this, e]
  simp
theorem d8_inj {k j : Nat} (hk : k < 100000000) (hj : j < 100000000) (h : d8 k = d8 j) : k = j := by
  have h1 := d8_parse hk
  rw [h, d8_parse hj] at h1
  injection h1 with h1
  exact h1.symm
end Go.Proofs.YtgpgkpciajajcaaGreatDoor

/- Slices of elements of any one type: read, and made by the call. -/
namespace Go.Proofs.YtgpgkpciajajcaaGreatDoor
open Go.ChangeShapes Go.WideShapes Go.ChangeAt Go.RowKit

/-- How elements of a type lie in memory: so many cells each. -/
structure Elem (α : Type) where
  cells : α → List Value
  size : Nat
  pos : 0 < size
  len : ∀ x, (cells x).length = size
  one : ∀ x, ∀ v ∈ cells x, v.oneCell' = true

section
variable {α : Type} (E : Elem α)
def Elem.flat (l : List α) : List Value := l.flatMap E.cells
theorem Elem.flat_len (l : List α) : (E.flat l).length = l.length * E.size := by
  unfold Elem.flat
  induction l with
  | nil => simp
  | cons x r ih => rw [List.flatMap_cons, List.length_append, E.len, ih, List.length_cons, Nat.succ_mul]; omega
theorem Elem.flat_app (l r : List α) : E.flat (l ++ r) = E.flat l ++ E.flat r := by simp [Elem.flat]
theorem Elem.flat_one (l : List α) : ∀ v ∈ E.flat l, v.oneCell' = true := by
  intro v hv
  simp only [Elem.flat, List.mem_flatMap] at hv
  obtain ⟨x, _, h⟩ := hv
  exact E.one x v h
theorem Elem.flat_get (l : List α) : ∀ (i : Nat) (x : α) (j : Nat), l[i]? = some x → j < E.size → (E.flat l)[i * E.size + j]? = (E.cells x)[j]? := by
  induction l with
  | nil => intro i x j h; simp at h
  | cons y r ih =>
    intro i x j h hj
    have hl := E.len y
    unfold Elem.flat
    rw [List.flatMap_cons]
    cases i with
    | zero =>
      simp only [List.getElem?_cons_zero, Option.some.injEq] at h
      subst h
      rw [Nat.zero_mul, Nat.zero_add, List.getElem?_append_left (by omega)]
    | succ i =>
      simp only [List.getElem?_cons_succ] at h
      rw [List.getElem?_append_right (by rw [hl, Nat.succ_mul]; omega), hl, show (i + 1) * E.size + j - E.size = i * E.size + j by rw [Nat.succ_mul]; omega]
      exact ih i x j h hj
theorem Elem.flat_take (l : List α) (n : Nat) : E.flat (l.take n) = (E.flat l).take (n * E.size) := by
  induction l generalizing n with
  | nil => simp [Elem.flat]
  | cons x r ih =>
    cases n with
    | zero => simp [Elem.flat]
    | succ n =>
      have hl := E.len x
      have := ih n
      unfold Elem.flat at this ⊢
      rw [List.take_succ_cons, List.flatMap_cons, List.flatMap_cons, this, List.take_append, hl, show (n + 1) * E.size - E.size = n * E.size by rw [Nat.succ_mul]; omega, List.take_of_length_le (l := E.cells x) (by rw [hl, Nat.succ_mul]; omega)]

/-- A slice is read as a list. -/
def SRd (w : World) (a : Option Addr) (l : List α) : Prop := l = [] ∨ ∃ b off, a = some ⟨b, off, none⟩ ∧ ∀ j v, (E.flat l)[j]? = some v → w.cell? ⟨b, off + j, none⟩ = some v
end
section
variable {α : Type} {E : Elem α}
theorem SRd.at {w : World} {a : Option Addr} {l : List α} (h : SRd E w a l) (hl : 0 < l.length) : ∃ b off, a = some ⟨b, off, none⟩ ∧ ∀ i x j v, l[i]? = some x → (E.cells x)[j]? = some v → w.cell? ⟨b, off + (i * E.size + j), none⟩ = some v := by
  rcases h with rfl | ⟨b, off, e, h⟩
  · simp at hl
  · refine ⟨b, off, e, fun i x j v hx hv => h _ _ ?_⟩
    rw [E.flat_get l i x j hx (by have h1 := (List.getElem?_eq_some_iff.1 hv).1; rw [E.len] at h1; exact h1)]
    exact hv
theorem SRd.none {w : World} {l : List α} (h : SRd E w none l) : l = [] := by
  rcases h with h | ⟨b, off, e, _⟩
  · exact h
  · cases e
theorem SRd.nil (w : World) (a : Option Addr) : SRd E w a [] := .inl rfl
theorem SRd.news {w : World} {ad : Addr} {l : List α} (h : SRd E w (some ad) l) : ∀ j u, (E.flat l)[j]? = some u → w.cell? (ad.add j) = some u := by
  intro j u hj
  rcases h with rfl | ⟨b, off, e, h⟩
  · simp [Elem.flat] at hj
  · cases e
    by_cases h0 : j = 0
    · subst h0; exact h 0 u hj
    · have := h j u hj
      simpa [Addr.add, h0] using this
theorem SRd.grown {w w' : World} {row : Option Nat} {a : Option Addr} {l : List α} (h : SRd E w a l) (hg : w.grownBy w' row) (hne : ∀ x, a = some x → some x.block ≠ row) : SRd E w' a l := by
  rcases h with h | ⟨b, off, e, h⟩
  · exact .inl h
  · exact .inr ⟨b, off, e, fun j v hj => hg.cell (h j v hj) (hne ⟨b, off, Option.none⟩ e)⟩
theorem SRd.drewN {w : World} {a : Option Addr} {l : List α} (h : SRd E w a l) (n : Nat) : SRd E (w.drewN n) a l := h

/-- A slice that the call made, or none yet. -/
def SOwn (E : Elem α) (e : TypeId) (w : World) (base : Nat) (v : Value) (n : Nat) (l : List α) : Prop := w.ownsRow base e E.size v n (E.flat l)
theorem SOwn.len {e : TypeId} {w : World} {base n : Nat} {v : Value} {l : List α} (h : SOwn E e w base v n l) : l.length = n := by
  have h1 := h.1
  rw [E.flat_len] at h1
  exact Nat.eq_of_mul_eq_mul_right E.pos h1
theorem SOwn.nil (e : TypeId) (w : World) (base : Nat) : SOwn E e w base (.slice none 0 0) 0 ([] : List α) := World.ownsRow_nil w base e E.size
theorem SOwn.kept {e : TypeId} {w w' : World} {row : Option Nat} {base n : Nat} {v : Value} {l : List α} (h : SOwn E e w base v n l) (hg : w.grownBy w' row) (hne : v.ownBlock = none ∨ v.ownBlock ≠ row) : SOwn E e w' base v n l := World.ownsRow.kept h hg hne
theorem SOwn.block {e : TypeId} {w : World} {base n : Nat} {v : Value} {l : List α} (h : SOwn E e w base v n l) : ∀ k, v.ownBlock = some k → base ≤ k ∧ k < w.heap.size := World.ownsRow.lt h
theorem SOwn.some {e : TypeId} {w : World} {base n : Nat} {v : Value} {l : List α} (h : SOwn E e w base v n l) (hn : v ≠ .slice none 0 0) : ∃ g cap, v = .slice (some ⟨g, 0, none⟩) n cap ∧ base ≤ g ∧ g < w.heap.size ∧ n ≤ cap ∧ cap ≤ maxLen := by
  rcases h.2 with ⟨h', _⟩ | ⟨g, cap, cur, h', h1, h2, h3, h4, _⟩
  · exact absurd h' hn
  · exact ⟨g, cap, h', h1, (Array.getElem?_eq_some_iff.1 h2).1, h3, h4⟩
theorem SOwn.rd {e : TypeId} {w : World} {base n : Nat} {a : Option Addr} {c : Nat} {l : List α} (h : SOwn E e w base (.slice a n c) n l) : SRd E w a l := by
  rcases h.2 with ⟨h', h0⟩ | ⟨g, cap, cur, h', h1, h2, h3, h4, h5, h6⟩
  · refine .inl (List.eq_nil_of_length_eq_zero ?_)
    rw [h.len, h0]
  · simp only [Value.slice.injEq] at h'
    obtain ⟨rfl, _, rfl⟩ := h'
    refine .inr ⟨g, 0, rfl, fun j v hj => ?_⟩
    rw [Nat.zero_add, cell_of_row w g j cur e _ h2]
    rw [← h6] at hj
    rw [List.getElem?_take] at hj
    split at hj
    · simpa using hj
    · simp at hj
theorem SOwn.base {e : TypeId} {w : World} {base base' n : Nat} {v : Value} {l : List α} (h : SOwn E e w base v n l) (hb : base' ≤ base) : SOwn E e w base' v n l := by
  refine ⟨h.1, ?_⟩
  rcases h.2 with h' | ⟨g', cap', cur, h', h0, r⟩
  · exact .inl h'
  · exact .inr ⟨g', cap', cur, h', Nat.le_trans hb h0, r⟩
theorem SOwn.empty (E : Elem α) (e : TypeId) (w : World) : SOwn E e (w.alloc (.cells #[] e)) w.heap.size (.slice (Option.some ⟨w.heap.size, 0, Option.none⟩) 0 0) 0 ([] : List α) := by
  have := World.ownsRow_made (e := e) (size := E.size) (base := w.heap.size) w #[] 0 (Nat.le_refl _) (Nat.zero_le _) (by simp)
  simpa [SOwn, Elem.flat] using this

/-- What is known of an element's type. -/
structure ElemOf (E : Elem α) (P : Program) (t e : TypeId) (bytes : Nat) : Prop where
  under : P.underlying t = some (.slice e)
  info : ∃ i z, P.info? e = some i ∧ i.zero = some z ∧ i.size = E.size ∧ i.bytes = bytes ∧ z.cells.size = E.size

/-- append(out, xs...): out is the call's own or none, xs whatever is read. -/
theorem wpList_append_s {P : Program} {t e : TypeId} {bytes : Nat} (T : ElemOf E P t e bytes) {w : World} {ops : Array Oper} {rest : List Oper} {o : Oper} {a : Act} {Q : Exit → Act → World → Prop} (hgd : o.guard = none) (s x : Operand)
    (ho : o.op = .call { callee := .builtin .append, args := #[s, x], argTypes := #[t, t] }) (base : Nat) (v : Value) (n : Nat) (xs : List α) (hs : a.eval s = v) (hown : SOwn E e w base v n xs)
    (src : Option Addr) (zs : List α) (m cap : Nat) (hx : a.eval x = .slice src m cap) (hm : zs.length = m) (hr : SRd E w src zs) (hnil : src = Option.none → cap = 0) (hlen : (n + m) * bytes ≤ 140737488355328) (hmax : n + m ≤ maxLen) (hb : base ≤ w.heap.size)
    (h : ∀ v' w', SOwn E e w' base v' (n + m) (xs ++ zs) → w.grownBy w' v.ownBlock → (v' = .slice Option.none 0 0 → v = .slice Option.none 0 0 ∧ m = 0) → wpList P ops Q rest (a.put o.dst v') w') : wpList P ops Q (o :: rest) a w := by
  obtain ⟨i0, z, hi, hz0, hz1, hz2, hz3⟩ := T.info
  subst hm
  cases src with
  | none =>
    obtain rfl := hnil rfl
    obtain rfl := hr.none
    refine wpList_append_own_none hgd s x t ho base e i0 E.size T.under hi v n (E.flat xs) hs hown hx ?_
    have := h v w (by simpa using hown) (World.grownBy.refl _ _) (fun h => ⟨h, rfl⟩)
    simpa using this
  | some ad =>
    refine wpList_append_own _ hgd s x t ho base e i0 z E.size bytes T.under hi hz0 hz1 hz2 hz3 E.pos _ n (E.flat xs) hs hown ad zs.length cap (E.flat zs) hx (E.flat_len zs) hr.news (E.flat_one zs) hmax hlen hb ?_
    intro v' w' hown' hg hne
    rw [← E.flat_app] at hown'
    exact h v' w' hown' hg (fun h => hne.1 h)
end
end Go.Proofs.YtgpgkpciajajcaaGreatDoor

/- What is of no one slice: ends, worlds that grow, texts as bytes. -/
namespace Go.Proofs.YtgpgkpciajajcaaGreatDoor
open Go.ChangeShapes Go.WideShapes Go.ChangeAt Go.RowKit
set_option linter.unusedVariables false

theorem ret_int {k : IntKind} {a b : Int} (h : a = b) : Ending.returned (.int k a) = .returned (.int k b) := by rw [h]
theorem ret_bool {a b : Bool} (h : a = b) : Ending.returned (.bool a) = .returned (.bool b) := by rw [h]
/-- Behind two steps: what the second wrote is new, or what the first wrote. -/
theorem gb_trans {w w1 w2 : World} {row row' : Option Nat} (h : w.grownBy w1 row) (h' : w1.grownBy w2 row') (hr : ∀ k, row' = some k → w.heap.size ≤ k ∨ row = some k) : w.grownBy w2 row :=
  ⟨h'.os.trans h.os, h'.tape.trans h.tape, h'.output.trans h.output, Nat.le_trans h.size h'.size, fun k hk hne =>
    (h'.block k (Nat.lt_of_lt_of_le hk h.size) (fun e => by
      rcases hr k e.symm with h1 | h1
      · omega
      · exact hne h1.symm)).trans (h.block k hk hne)⟩
theorem gb_any {w w1 : World} (h : w.grownBy w1 none) (row : Option Nat) : w.grownBy w1 row := ⟨h.os, h.tape, h.output, h.size, fun k hk _ => h.block k hk (by simp)⟩
theorem gb_drewN (w : World) (n : Nat) : w.grownBy (w.drewN n) none := ⟨rfl, rfl, rfl, Nat.le_refl _, fun _ _ _ => rfl⟩
theorem gb_set {w : World} {p : Addr} {u : Value} {g : Nat} (h : p.block = g) : w.grownBy (w.setCell p u) (some g) :=
  ⟨rfl, rfl, rfl, by simp [World.setCell], fun k _ hne => Below.heap_setCell w p u k (fun e => hne (by rw [e, h]))⟩
theorem gb_below {w w1 : World} (h : w.grownBy w1 none) : Below w.heap.size w w1 := (Below.refl _ _).grown h (Nat.le_refl _) (by simp)
theorem gb_new {w : World} {o : Obj} {w1 w2 : World} (h : w.grownBy w1 none) (h2 : (w1.alloc o).grownBy w2 none) : w.grownBy w2 none :=
  gb_trans (gb_trans h (World.grownBy_alloc w1 o none) (by simp)) h2 (by simp)
theorem drewN_drewN (w : World) (m n : Nat) : (w.drewN m).drewN n = w.drewN (m + n) := by simp [World.drewN, Nat.add_assoc]
theorem gb_drew {w w1 : World} {row : Option Nat} (h : w.grownBy w1 row) : w.grownBy w1.drew row := ⟨h.os, h.tape, h.output, h.size, h.block⟩
theorem below_gb {w w1 : World} (h : Below w.heap.size w w1) : w.grownBy w1 none := ⟨h.os, h.tape, h.output, h.size, fun k hk _ => h.block k hk⟩
theorem own : ownKnob Tryz.prog.godebug = none := by kernel_rfl
theorem laidOut : laidOutB Tryz.prog = true := by kernel_rfl
theorem ret_str {a b : ByteArray} (h : a = b) : Ending.returned (.string a) = .returned (.string b) := by rw [h]
/-- A text's bytes, as numbers. -/
def sInts (s : ByteArray) : List Int := s.data.toList.map fun b => (b.toNat : Int)
theorem sInts_len (s : ByteArray) : (sInts s).length = s.size := by
  unfold sInts
  rw [List.length_map, Array.length_toList]
  rfl
theorem sInts_byte (s : ByteArray) : ∀ z ∈ sInts s, 0 ≤ z ∧ z ≤ 255 := by
  intro z hz
  simp only [sInts, List.mem_map] at hz
  obtain ⟨b, _, rfl⟩ := hz
  have := b.toNat_lt
  omega
/-- The byte at a place of a text. -/
def byteAt (s : ByteArray) (i : Nat) : Int := (sInts s).getD i 0
theorem byteAt_eq (s : ByteArray) (i : Nat) (hi : i < s.size) : (s[i].toNat : Int) = byteAt s i := by
  unfold byteAt sInts
  rw [List.getD_eq_getElem?_getD, List.getElem?_map]
  have h : s.data.toList[i]? = some s[i] := by
    rw [Array.getElem?_toList]
    exact Array.getElem?_eq_getElem hi
  rw [h]
  rfl
theorem byteAt_bd (s : ByteArray) (i : Nat) : 0 ≤ byteAt s i ∧ byteAt s i ≤ 255 := by
  unfold byteAt
  rw [List.getD_eq_getElem?_getD]
  cases h : (sInts s)[i]? with
  | none => simp
  | some z => exact sInts_byte s z (List.mem_of_getElem? h)
theorem idx9 (s : ByteArray) (i : Nat) (hi : i < s.size) (w : World) : (Instr.index 9 (.string s) (.int .i64 (i : Int))).run Tryz.prog w = .ok (.int .u8 (byteAt s i)) w := by
  rw [run_index_string w 9 s .i64 (i : Int) Tryz.underlying9]
  simp [hi, byteAt_eq s i hi]
theorem gb_drewR {w w' : World} {row : Option Nat} (h : w.grownBy w' row) (n : Nat) : w.grownBy (w'.drewN n) row := ⟨h.os, h.tape, h.output, h.size, h.block⟩
theorem str_eq (x y : ByteArray) : (x.toList == y.toList) = decide (x = y) := by
  rw [Bool.eq_iff_iff]
  simp only [beq_iff_eq, decide_eq_true_eq]
  constructor
  · intro h
    rw [ByteArray.toList_eq, ByteArray.toList_eq] at h
    exact ByteArray.ext (Array.toList_inj.1 h)
  · intro h; rw [h]
theorem str_none (s : ByteArray) : s.toList.isEmpty = decide (s = ⟨#[]⟩) := by
  rw [← str_eq, show ByteArray.toList ⟨#[]⟩ = [] by rw [ByteArray.toList_eq]]
  cases s.toList <;> rfl
theorem and_low (x : Int) : 0 ≤ bits .and .i64 x 9223372036854775807 ∧ bits .and .i64 x 9223372036854775807 ≤ 9223372036854775807 := by
  have e : bits .and .i64 x 9223372036854775807 = IntKind.i64.wrap ((BitVec.ofInt 64 x &&& BitVec.ofInt 64 9223372036854775807).toNat : Int) := rfl
  have hb : (BitVec.ofInt 64 x &&& BitVec.ofInt 64 9223372036854775807).toNat ≤ 9223372036854775807 := by
    rw [BitVec.toNat_and]
    refine Nat.le_trans Nat.and_le_right ?_
    decide
  rw [e]
  generalize (BitVec.ofInt 64 x &&& BitVec.ofInt 64 9223372036854775807).toNat = t at *
  have : IntKind.i64.wrap (t : Int) = ((t : Int) + 9223372036854775808) % 18446744073709551616 - 9223372036854775808 := by
    simp [IntKind.wrap, IntKind.bits, IntKind.signed]
    split <;> omega
  omega

theorem Low_any (x : Int) (w : World) : Calls Tryz.prog 18 #[.int .i64 x] w fun e w' => ∃ r, e = .returned (.int .i64 r) ∧ 0 ≤ r ∧ r ≤ 9223372036854775807 ∧ w = w' := by
  have h := and_low x
  have H : Hid (0 ≤ bits .and .i64 x 9223372036854775807 ∧ bits .and .i64 x 9223372036854775807 ≤ 9223372036854775807) := h
  clear h
  go_enter Tryz.func18, Tryz.ntmps18
  go_wp2
  go_ret
  exact ⟨_, rfl, H.out.1, H.out.2, rfl⟩

end Go.Proofs.YtgpgkpciajajcaaGreatDoor

