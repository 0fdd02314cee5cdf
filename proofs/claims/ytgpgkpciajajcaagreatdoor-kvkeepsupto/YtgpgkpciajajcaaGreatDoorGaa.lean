/- Several texts in one: Wd, Slot, Gen, Bytes, Dk. -/
import Derived.Lib.ItoaNum
import Derived.Lib.ParseIntB
import Derived.Test.YtgpgkpciajajcaaGreatDoorRows
import Derived.WalkKit
import Derived.WalkSpells
import Derived.WalkLawsBesides
import Derived.Laws.AppendOwnNone
import Derived.Deep.AppendLies
import Derived.Laws.CopyOwn
import Derived.ArgAppend
import Derived.Deep.QuietTactic
import Derived.BigQuiet
import Derived.BigRegion
import Derived.ProofKit
import Derived.OpenShut
import Derived.ShutString
import Derived.ChangeOld
import Derived.SizedLaws
import Derived.Maps.OwnSet
import Derived.Maps.OwnOps
import Derived.Deep.OwnRows
import Derived.StringKeys
/- Eight digits: a number's name among a log's files, its order and its way back. (No program's numbers.) -/
namespace Go.Proofs.YtgpgkpciajajcaaGreatDoor
open Go
set_option linter.unusedVariables false

/-- The last n digits of a number. -/
def eN : Nat → Nat → List UInt8
  | 0, _ => []
  | n + 1, k => Lib.dg k n :: eN n k
theorem eN_len : ∀ n k, (eN n k).length = n
  | 0, _ => rfl
  | n + 1, k => by rw [eN, List.length_cons, eN_len n k]
theorem eN_eq : ∀ n k, eN n k = (List.range n).map fun t => Lib.dg k (n - 1 - t)
  | 0, _ => rfl
  | n + 1, k => by
    rw [eN, eN_eq n k, List.range_succ_eq_map, List.map_cons, List.map_map]
    congr 1
    refine List.map_congr_left fun t ht => ?_
    have := List.mem_range.1 ht
    show Lib.dg k (n - 1 - t) = Lib.dg k (n + 1 - 1 - (t + 1))
    congr 1
    omega
def d8 (k : Nat) : List UInt8 := eN 8 k
theorem d8_len (k : Nat) : (d8 k).length = 8 := eN_len 8 k
theorem dg_zero {k j : Nat} (h : k < 10 ^ j) : Lib.dg k j = 48 := by
  unfold Lib.dg
  rw [Nat.div_eq_of_lt h]
  rfl
theorem pow_mono10 {a b : Nat} (h : a ≤ b) : 10 ^ a ≤ 10 ^ b := Nat.pow_le_pow_right (by decide) h
theorem nDigits_le {k n : Nat} (hn : 1 ≤ n) (h : k < 10 ^ n) : Lib.nDigits k ≤ n := by
  by_cases h10 : k < 10
  · rw [Lib.nDigits_small h10]; exact hn
  · have hle : 10 ^ (Lib.nDigits k - 1) ≤ k := by
      clear h hn
      induction k using Nat.strongRecOn with
      | _ k ih =>
        rw [Lib.nDigits_big h10]
        by_cases h2 : k / 10 < 10
        · rw [Lib.nDigits_small h2]; simp; omega
        · have h3 := ih (k / 10) (by omega) h2
          have h4 := Lib.nDigits_pos (k / 10)
          rw [show Lib.nDigits (k / 10) + 1 - 1 = (Lib.nDigits (k / 10) - 1) + 1 by omega, Nat.pow_succ]
          omega
    have hlt : 10 ^ (Lib.nDigits k - 1) < 10 ^ n := by omega
    have := (Nat.pow_lt_pow_iff_right (a := 10) (by decide)).1 hlt
    omega
theorem d8_pad {k : Nat} (h : k < 100000000) : List.replicate (8 - Lib.nDigits k) 48 ++ Lib.decDigits k = d8 k := by
  have hn := nDigits_le (k := k) (n := 8) (by decide) (by simpa using h)
  have hp := Lib.nDigits_pos k
  have hl := Lib.lt_pow_nDigits k
  rw [d8, eN_eq, Lib.decDigits_eq]
  apply List.ext_getElem
  · simp; omega
  · intro i h1 h2
    rw [List.getElem_append]
    simp only [List.length_replicate, List.getElem_replicate, List.getElem_map, List.getElem_range]
    split
    · rw [dg_zero (Nat.lt_of_lt_of_le hl (pow_mono10 (by omega)))]
    · congr 1
      omega
theorem dgv (k j : Nat) : (Lib.dg k j).toNat = 48 + k / 10 ^ j % 10 := by
  unfold Lib.dg
  rw [UInt8.toNat_ofNat']
  have : k / 10 ^ j % 10 < 10 := Nat.mod_lt _ (by decide)
  omega
theorem mod_step (k n : Nat) : k % 10 ^ (n + 1) = k / 10 ^ n % 10 * 10 ^ n + k % 10 ^ n := by
  rw [Nat.pow_succ, Nat.mod_mul, Nat.mul_comm, Nat.add_comm]
theorem eN_lt : ∀ n k j, k % 10 ^ n < j % 10 ^ n → eN n k < eN n j
  | 0, k, j, h => by simp [Nat.mod_one] at h
  | n + 1, k, j, h => by
    rw [mod_step, mod_step] at h
    have hp : 0 < 10 ^ n := Nat.pow_pos (by decide)
    have h1 := Nat.mod_lt k hp
    have h2 := Nat.mod_lt j hp
    rw [eN, eN, List.cons_lt_cons_iff]
    rcases Nat.lt_trichotomy (k / 10 ^ n % 10) (j / 10 ^ n % 10) with h3 | h3 | h3
    · left
      show (Lib.dg k n).toNat < (Lib.dg j n).toNat
      rw [dgv, dgv]; omega
    · right
      refine ⟨UInt8.toNat_inj.1 (by rw [dgv, dgv, h3]), eN_lt n k j ?_⟩
      rw [h3] at h; omega
    · exfalso
      have h4 : (j / 10 ^ n % 10 + 1) * 10 ^ n ≤ k / 10 ^ n % 10 * 10 ^ n := Nat.mul_le_mul_right _ h3
      rw [Nat.add_mul] at h4
      omega
theorem d8_lt {k j : Nat} (hj : j < 100000000) (h : k < j) : d8 k < d8 j := by
  refine eN_lt 8 k j ?_
  rw [Nat.mod_eq_of_lt (by simp; omega), Nat.mod_eq_of_lt (by simp; omega)]
  exact h
theorem eN_parse (M : Nat) (hM : M ≤ 4294967295) : ∀ n k acc, (acc * 10 ^ n + k % 10 ^ n) ≤ M → Lib.parseUintM M acc (eN n k) = .ok (acc * 10 ^ n + k % 10 ^ n)
  | 0, k, acc, _ => by simp [eN, Lib.parseUintM, Nat.mod_one]
  | n + 1, k, acc, h => by
    have hd : k / 10 ^ n % 10 < 10 := Nat.mod_lt _ (by decide)
    have hp : 0 < 10 ^ n := Nat.pow_pos (by decide)
    have e1 : acc * 10 ^ (n + 1) + k % 10 ^ (n + 1) = (acc * 10 + k / 10 ^ n % 10) * 10 ^ n + k % 10 ^ n := by
      rw [mod_step, Nat.pow_succ, Nat.add_mul]
      have : acc * (10 ^ n * 10) = acc * 10 * 10 ^ n := by rw [Nat.mul_comm (10 ^ n) 10, Nat.mul_assoc]
      omega
    rw [e1] at h ⊢
    have h5 : acc * 10 + k / 10 ^ n % 10 ≤ M := by
      have : acc * 10 + k / 10 ^ n % 10 ≤ (acc * 10 + k / 10 ^ n % 10) * 10 ^ n := Nat.le_mul_of_pos_right _ hp
      omega
    rw [eN, Lib.parseUintM, dgv, if_pos (by omega), if_neg (by omega)]
    have e2 : 48 + k / 10 ^ n % 10 - 48 = k / 10 ^ n % 10 := by omega
    rw [e2, if_neg (by omega)]
    exact eN_parse M hM n k _ h
theorem d8_parse {k : Nat} (h : k < 100000000) : Lib.parseUintM 4294967295 0 (d8 k) = .ok k := by
  have e : k % 10 ^ 8 = k := Nat.mod_eq_of_lt (by simpa using h)
  have := eN_parse 4294967295 (Nat.le_refl _) 8 k 0 (by rw [e]; omega)
  rw [d8, this, e]
  simp
theorem d8_inj {k j : Nat} (hk : k < 100000000) (hj : j < 100000000) (h : d8 k = d8 j) : k = j := by
  have h1 := d8_parse hk
  rw [h, d8_parse hj] at h1
  injection h1 with h1
  exact h1.symm
end Go.Proofs.YtgpgkpciajajcaaGreatDoor

/- Slices of elements of any one type: read, and made by the call. -/
namespace Go.Proofs.YtgpgkpciajajcaaGreatDoor
open Go.ChangeShapes Go.WideShapes Go.ChangeAt Go.RowKit

/-- How elements of a type lie in memory: so many cells each. -/
structure Elem (α : Type) where
  cells : α → List Value
  size : Nat
  pos : 0 < size
  len : ∀ x, (cells x).length = size
  one : ∀ x, ∀ v ∈ cells x, v.oneCell' = true

section
variable {α : Type} (E : Elem α)
def Elem.flat (l : List α) : List Value := l.flatMap E.cells
theorem Elem.flat_len (l : List α) : (E.flat l).length = l.length * E.size := by
  unfold Elem.flat
  induction l with
  | nil => simp
  | cons x r ih => rw [List.flatMap_cons, List.length_append, E.len, ih, List.length_cons, Nat.succ_mul]; omega
theorem Elem.flat_app (l r : List α) : E.flat (l ++ r) = E.flat l ++ E.flat r := by simp [Elem.flat]
theorem Elem.flat_one (l : List α) : ∀ v ∈ E.flat l, v.oneCell' = true := by
  intro v hv
  simp only [Elem.flat, List.mem_flatMap] at hv
  obtain ⟨x, _, h⟩ := hv
  exact E.one x v h
theorem Elem.flat_get (l : List α) : ∀ (i : Nat) (x : α) (j : Nat), l[i]? = some x → j < E.size → (E.flat l)[i * E.size + j]? = (E.cells x)[j]? := by
  induction l with
  | nil => intro i x j h; simp at h
  | cons y r ih =>
    intro i x j h hj
    have hl := E.len y
    unfold Elem.flat
    rw [List.flatMap_cons]
    cases i with
    | zero =>
      simp only [List.getElem?_cons_zero, Option.some.injEq] at h
      subst h
      rw [Nat.zero_mul, Nat.zero_add, List.getElem?_append_left (by omega)]
    | succ i =>
      simp only [List.getElem?_cons_succ] at h
      rw [List.getElem?_append_right (by rw [hl, Nat.succ_mul]; omega), hl, show (i + 1) * E.size + j - E.size = i * E.size + j by rw [Nat.succ_mul]; omega]
      exact ih i x j h hj
/-- A slice is read as a list. -/
def SRd (w : World) (a : Option Addr) (l : List α) : Prop := l = [] ∨ ∃ b off, a = some ⟨b, off, none⟩ ∧ ∀ j v, (E.flat l)[j]? = some v → w.cell? ⟨b, off + j, none⟩ = some v
end
section
variable {α : Type} {E : Elem α}
theorem SRd.at {w : World} {a : Option Addr} {l : List α} (h : SRd E w a l) (hl : 0 < l.length) : ∃ b off, a = some ⟨b, off, none⟩ ∧ ∀ i x j v, l[i]? = some x → (E.cells x)[j]? = some v → w.cell? ⟨b, off + (i * E.size + j), none⟩ = some v := by
  rcases h with rfl | ⟨b, off, e, h⟩
  · simp at hl
  · refine ⟨b, off, e, fun i x j v hx hv => h _ _ ?_⟩
    rw [E.flat_get l i x j hx (by have h1 := (List.getElem?_eq_some_iff.1 hv).1; rw [E.len] at h1; exact h1)]
    exact hv
theorem SRd.none {w : World} {l : List α} (h : SRd E w none l) : l = [] := by
  rcases h with h | ⟨b, off, e, _⟩
  · exact h
  · cases e
theorem SRd.nil (w : World) (a : Option Addr) : SRd E w a [] := .inl rfl
theorem SRd.news {w : World} {ad : Addr} {l : List α} (h : SRd E w (some ad) l) : ∀ j u, (E.flat l)[j]? = some u → w.cell? (ad.add j) = some u := by
  intro j u hj
  rcases h with rfl | ⟨b, off, e, h⟩
  · simp [Elem.flat] at hj
  · cases e
    by_cases h0 : j = 0
    · subst h0; exact h 0 u hj
    · have := h j u hj
      simpa [Addr.add, h0] using this
theorem SRd.grown {w w' : World} {row : Option Nat} {a : Option Addr} {l : List α} (h : SRd E w a l) (hg : w.grownBy w' row) (hne : ∀ x, a = some x → some x.block ≠ row) : SRd E w' a l := by
  rcases h with h | ⟨b, off, e, h⟩
  · exact .inl h
  · exact .inr ⟨b, off, e, fun j v hj => hg.cell (h j v hj) (hne ⟨b, off, Option.none⟩ e)⟩
theorem SRd.drewN {w : World} {a : Option Addr} {l : List α} (h : SRd E w a l) (n : Nat) : SRd E (w.drewN n) a l := h

/-- A slice that the call made, or none yet. -/
def SOwn (E : Elem α) (e : TypeId) (w : World) (base : Nat) (v : Value) (n : Nat) (l : List α) : Prop := w.ownsRow base e E.size v n (E.flat l)
theorem SOwn.len {e : TypeId} {w : World} {base n : Nat} {v : Value} {l : List α} (h : SOwn E e w base v n l) : l.length = n := by
  have h1 := h.1
  rw [E.flat_len] at h1
  exact Nat.eq_of_mul_eq_mul_right E.pos h1
theorem SOwn.nil (e : TypeId) (w : World) (base : Nat) : SOwn E e w base (.slice none 0 0) 0 ([] : List α) := World.ownsRow_nil w base e E.size
theorem SOwn.kept {e : TypeId} {w w' : World} {row : Option Nat} {base n : Nat} {v : Value} {l : List α} (h : SOwn E e w base v n l) (hg : w.grownBy w' row) (hne : v.ownBlock = none ∨ v.ownBlock ≠ row) : SOwn E e w' base v n l := World.ownsRow.kept h hg hne
theorem SOwn.block {e : TypeId} {w : World} {base n : Nat} {v : Value} {l : List α} (h : SOwn E e w base v n l) : ∀ k, v.ownBlock = some k → base ≤ k ∧ k < w.heap.size := World.ownsRow.lt h
theorem SOwn.some {e : TypeId} {w : World} {base n : Nat} {v : Value} {l : List α} (h : SOwn E e w base v n l) (hn : v ≠ .slice none 0 0) : ∃ g cap, v = .slice (some ⟨g, 0, none⟩) n cap ∧ base ≤ g ∧ g < w.heap.size ∧ n ≤ cap ∧ cap ≤ maxLen := by
  rcases h.2 with ⟨h', _⟩ | ⟨g, cap, cur, h', h1, h2, h3, h4, _⟩
  · exact absurd h' hn
  · exact ⟨g, cap, h', h1, (Array.getElem?_eq_some_iff.1 h2).1, h3, h4⟩
theorem SOwn.rd {e : TypeId} {w : World} {base n : Nat} {a : Option Addr} {c : Nat} {l : List α} (h : SOwn E e w base (.slice a n c) n l) : SRd E w a l := by
  rcases h.2 with ⟨h', h0⟩ | ⟨g, cap, cur, h', h1, h2, h3, h4, h5, h6⟩
  · refine .inl (List.eq_nil_of_length_eq_zero ?_)
    rw [h.len, h0]
  · simp only [Value.slice.injEq] at h'
    obtain ⟨rfl, _, rfl⟩ := h'
    refine .inr ⟨g, 0, rfl, fun j v hj => ?_⟩
    rw [Nat.zero_add, cell_of_row w g j cur e _ h2]
    rw [← h6] at hj
    rw [List.getElem?_take] at hj
    split at hj
    · simpa using hj
    · simp at hj
theorem SOwn.base {e : TypeId} {w : World} {base base' n : Nat} {v : Value} {l : List α} (h : SOwn E e w base v n l) (hb : base' ≤ base) : SOwn E e w base' v n l := by
  refine ⟨h.1, ?_⟩
  rcases h.2 with h' | ⟨g', cap', cur, h', h0, r⟩
  · exact .inl h'
  · exact .inr ⟨g', cap', cur, h', Nat.le_trans hb h0, r⟩
theorem SOwn.empty (E : Elem α) (e : TypeId) (w : World) : SOwn E e (w.alloc (.cells #[] e)) w.heap.size (.slice (Option.some ⟨w.heap.size, 0, Option.none⟩) 0 0) 0 ([] : List α) := by
  have := World.ownsRow_made (e := e) (size := E.size) (base := w.heap.size) w #[] 0 (Nat.le_refl _) (Nat.zero_le _) (by simp)
  simpa [SOwn, Elem.flat] using this

/-- What is known of an element's type. -/
structure ElemOf (E : Elem α) (P : Program) (t e : TypeId) (bytes : Nat) : Prop where
  under : P.underlying t = some (.slice e)
  info : ∃ i z, P.info? e = some i ∧ i.zero = some z ∧ i.size = E.size ∧ i.bytes = bytes ∧ z.cells.size = E.size

/-- append(out, xs...): out is the call's own or none, xs whatever is read. -/
theorem wpList_append_s {P : Program} {t e : TypeId} {bytes : Nat} (T : ElemOf E P t e bytes) {w : World} {ops : Array Oper} {rest : List Oper} {o : Oper} {a : Act} {Q : Exit → Act → World → Prop} (hgd : o.guard = none) (s x : Operand)
    (ho : o.op = .call { callee := .builtin .append, args := #[s, x], argTypes := #[t, t] }) (base : Nat) (v : Value) (n : Nat) (xs : List α) (hs : a.eval s = v) (hown : SOwn E e w base v n xs)
    (src : Option Addr) (zs : List α) (m cap : Nat) (hx : a.eval x = .slice src m cap) (hm : zs.length = m) (hr : SRd E w src zs) (hnil : src = Option.none → cap = 0) (hlen : (n + m) * bytes ≤ 140737488355328) (hmax : n + m ≤ maxLen) (hb : base ≤ w.heap.size)
    (h : ∀ v' w', SOwn E e w' base v' (n + m) (xs ++ zs) → w.grownBy w' v.ownBlock → (v' = .slice Option.none 0 0 → v = .slice Option.none 0 0 ∧ m = 0) → wpList P ops Q rest (a.put o.dst v') w') : wpList P ops Q (o :: rest) a w := by
  obtain ⟨i0, z, hi, hz0, hz1, hz2, hz3⟩ := T.info
  subst hm
  cases src with
  | none =>
    obtain rfl := hnil rfl
    obtain rfl := hr.none
    refine wpList_append_own_none hgd s x t ho base e i0 E.size T.under hi v n (E.flat xs) hs hown hx ?_
    have := h v w (by simpa using hown) (World.grownBy.refl _ _) (fun h => ⟨h, rfl⟩)
    simpa using this
  | some ad =>
    refine wpList_append_own _ hgd s x t ho base e i0 z E.size bytes T.under hi hz0 hz1 hz2 hz3 E.pos _ n (E.flat xs) hs hown ad zs.length cap (E.flat zs) hx (E.flat_len zs) hr.news (E.flat_one zs) hmax hlen hb ?_
    intro v' w' hown' hg hne
    rw [← E.flat_app] at hown'
    exact h v' w' hown' hg (fun h => hne.1 h)
end
end Go.Proofs.YtgpgkpciajajcaaGreatDoor

/- What is of no one slice: ends, worlds that grow, texts as bytes. -/
namespace Go.Proofs.YtgpgkpciajajcaaGreatDoor
open Go.ChangeShapes Go.WideShapes Go.ChangeAt Go.RowKit
set_option linter.unusedVariables false

theorem ret_int {k : IntKind} {a b : Int} (h : a = b) : Ending.returned (.int k a) = .returned (.int k b) := by rw [h]
theorem ret_bool {a b : Bool} (h : a = b) : Ending.returned (.bool a) = .returned (.bool b) := by rw [h]
/-- Behind two steps: what the second wrote is new, or what the first wrote. -/
theorem gb_trans {w w1 w2 : World} {row row' : Option Nat} (h : w.grownBy w1 row) (h' : w1.grownBy w2 row') (hr : ∀ k, row' = some k → w.heap.size ≤ k ∨ row = some k) : w.grownBy w2 row :=
  ⟨h'.os.trans h.os, h'.tape.trans h.tape, h'.output.trans h.output, Nat.le_trans h.size h'.size, fun k hk hne =>
    (h'.block k (Nat.lt_of_lt_of_le hk h.size) (fun e => by
      rcases hr k e.symm with h1 | h1
      · omega
      · exact hne h1.symm)).trans (h.block k hk hne)⟩
theorem gb_any {w w1 : World} (h : w.grownBy w1 none) (row : Option Nat) : w.grownBy w1 row := ⟨h.os, h.tape, h.output, h.size, fun k hk _ => h.block k hk (by simp)⟩
theorem gb_drewN (w : World) (n : Nat) : w.grownBy (w.drewN n) none := ⟨rfl, rfl, rfl, Nat.le_refl _, fun _ _ _ => rfl⟩
theorem gb_set {w : World} {p : Addr} {u : Value} {g : Nat} (h : p.block = g) : w.grownBy (w.setCell p u) (some g) :=
  ⟨rfl, rfl, rfl, by simp [World.setCell], fun k _ hne => Below.heap_setCell w p u k (fun e => hne (by rw [e, h]))⟩
theorem drewN_drewN (w : World) (m n : Nat) : (w.drewN m).drewN n = w.drewN (m + n) := by simp [World.drewN, Nat.add_assoc]
theorem gb_drew {w w1 : World} {row : Option Nat} (h : w.grownBy w1 row) : w.grownBy w1.drew row := ⟨h.os, h.tape, h.output, h.size, h.block⟩
theorem below_gb {w w1 : World} (h : Below w.heap.size w w1) : w.grownBy w1 none := ⟨h.os, h.tape, h.output, h.size, fun k hk _ => h.block k hk⟩
theorem own : ownKnob Tryz.prog.godebug = none := by kernel_rfl
theorem laidOut : laidOutB Tryz.prog = true := by kernel_rfl
theorem ret_str {a b : ByteArray} (h : a = b) : Ending.returned (.string a) = .returned (.string b) := by rw [h]
/-- A text's bytes, as numbers. -/
def sInts (s : ByteArray) : List Int := s.data.toList.map fun b => (b.toNat : Int)
theorem sInts_len (s : ByteArray) : (sInts s).length = s.size := by
  unfold sInts
  rw [List.length_map, Array.length_toList]
  rfl
theorem sInts_byte (s : ByteArray) : ∀ z ∈ sInts s, 0 ≤ z ∧ z ≤ 255 := by
  intro z hz
  simp only [sInts, List.mem_map] at hz
  obtain ⟨b, _, rfl⟩ := hz
  have := b.toNat_lt
  omega
/-- The byte at a place of a text. -/
def byteAt (s : ByteArray) (i : Nat) : Int := (sInts s).getD i 0
theorem byteAt_eq (s : ByteArray) (i : Nat) (hi : i < s.size) : (s[i].toNat : Int) = byteAt s i := by
  unfold byteAt sInts
  rw [List.getD_eq_getElem?_getD, List.getElem?_map]
  have h : s.data.toList[i]? = some s[i] := by
    rw [Array.getElem?_toList]
    exact Array.getElem?_eq_getElem hi
  rw [h]
  rfl
theorem idx9 (s : ByteArray) (i : Nat) (hi : i < s.size) (w : World) : (Instr.index 9 (.string s) (.int .i64 (i : Int))).run Tryz.prog w = .ok (.int .u8 (byteAt s i)) w := by
  rw [run_index_string w 9 s .i64 (i : Int) Tryz.underlying9]
  simp [hi, byteAt_eq s i hi]
theorem gb_drewR {w w' : World} {row : Option Nat} (h : w.grownBy w' row) (n : Nat) : w.grownBy (w'.drewN n) row := ⟨h.os, h.tape, h.output, h.size, h.block⟩
theorem str_eq (x y : ByteArray) : (x.toList == y.toList) = decide (x = y) := by
  rw [Bool.eq_iff_iff]
  simp only [beq_iff_eq, decide_eq_true_eq]
  constructor
  · intro h
    rw [ByteArray.toList_eq, ByteArray.toList_eq] at h
    exact ByteArray.ext (Array.toList_inj.1 h)
  · intro h; rw [h]
theorem str_none (s : ByteArray) : s.toList.isEmpty = decide (s = ⟨#[]⟩) := by
  rw [← str_eq, show ByteArray.toList ⟨#[]⟩ = [] by rw [ByteArray.toList_eq]]
  cases s.toList <;> rfl
theorem and_low (x : Int) : 0 ≤ bits .and .i64 x 9223372036854775807 ∧ bits .and .i64 x 9223372036854775807 ≤ 9223372036854775807 := by
  have e : bits .and .i64 x 9223372036854775807 = IntKind.i64.wrap ((BitVec.ofInt 64 x &&& BitVec.ofInt 64 9223372036854775807).toNat : Int) := rfl
  have hb : (BitVec.ofInt 64 x &&& BitVec.ofInt 64 9223372036854775807).toNat ≤ 9223372036854775807 := by
    rw [BitVec.toNat_and]
    refine Nat.le_trans Nat.and_le_right ?_
    decide
  rw [e]
  generalize (BitVec.ofInt 64 x &&& BitVec.ofInt 64 9223372036854775807).toNat = t at *
  have : IntKind.i64.wrap (t : Int) = ((t : Int) + 9223372036854775808) % 18446744073709551616 - 9223372036854775808 := by
    simp [IntKind.wrap, IntKind.bits, IntKind.signed]
    split <;> omega
  omega

theorem Low_any (x : Int) (w : World) : Calls Tryz.prog 18 #[.int .i64 x] w fun e w' => ∃ r, e = .returned (.int .i64 r) ∧ 0 ≤ r ∧ r ≤ 9223372036854775807 ∧ w = w' := by
  have h := and_low x
  have H : Hid (0 ≤ bits .and .i64 x 9223372036854775807 ∧ bits .and .i64 x 9223372036854775807 ≤ 9223372036854775807) := h
  clear h
  go_enter Tryz.func18, Tryz.ntmps18
  go_wp2
  go_ret
  exact ⟨_, rfl, H.out.1, H.out.2, rfl⟩

end Go.Proofs.YtgpgkpciajajcaaGreatDoor

/- Slices of bytes that come in and that the calls make: read, copied, lent, held against one another, written over. -/
namespace Go.Proofs.YtgpgkpciajajcaaGreatDoor
set_option maxRecDepth 20000
open Go.ChangeShapes Go.WideShapes Go.ChangeAt Go.RowKit

/-- What is read of a slice of bytes: its cells, wherever it lies. -/
def Rd (w : World) (a : Option Addr) (zs : List Int) : Prop :=
  (zs = [] ∨ ∃ b off, a = some ⟨b, off, none⟩ ∧ ∀ i, i < zs.length → w.cell? ⟨b, off + i, none⟩ = some (.int .u8 (zs.getD i 0))) ∧ ∀ z ∈ zs, 0 ≤ z ∧ z ≤ 255

theorem Rd.at {w : World} {a : Option Addr} {zs : List Int} (h : Rd w a zs) (hz : 0 < zs.length) :
    ∃ b off, a = some ⟨b, off, none⟩ ∧ ∀ i, i < zs.length → w.cell? ⟨b, off + i, none⟩ = some (.int .u8 (zs.getD i 0)) := by
  rcases h.1 with rfl | h
  · simp at hz
  · exact h
theorem Rd.byte {w : World} {a : Option Addr} {zs : List Int} (h : Rd w a zs) (i : Nat) : 0 ≤ zs.getD i 0 ∧ zs.getD i 0 ≤ 255 := by
  by_cases hi : i < zs.length
  · have := h.2 zs[i] (List.getElem_mem hi)
    simpa [List.getD_eq_getElem?_getD, hi] using this
  · simp [List.getD_eq_getElem?_getD, List.getElem?_eq_none (Nat.le_of_not_lt hi)]


theorem info5 : (Tryz.prog.info? 5).map (fun i => (i.zero, i.size, i.bytes)) = some (some (.int .u8 0), 1, 1) := by kernel_rfl

def bs (zs : List Int) : List Value := zs.map (Value.int .u8)
theorem bs_len (zs : List Int) : (bs zs).length = zs.length := by simp [bs]
theorem bs_app (xs ys : List Int) : bs (xs ++ ys) = bs xs ++ bs ys := by simp [bs]
theorem bs_one (zs : List Int) : ∀ u ∈ bs zs, u.oneCell' = true := ints_oneCell .u8 zs

theorem Rd.grown {w w' : World} {row : Option Nat} {a : Option Addr} {zs : List Int} (h : Rd w a zs) (hg : w.grownBy w' row) (hne : ∀ x, a = some x → some x.block ≠ row) : Rd w' a zs := by
  refine ⟨?_, h.2⟩
  rcases h.1 with rfl | ⟨b, off, rfl, hc⟩
  · exact .inl rfl
  · exact .inr ⟨b, off, rfl, fun i hi => hg.cell (hc i hi) (hne ⟨b, off, none⟩ rfl)⟩

theorem Rd.news {w : World} {ad : Addr} {zs : List Int} (h : Rd w (some ad) zs) : ∀ j u, (bs zs)[j]? = some u → w.cell? (ad.add j) = some u := by
  intro j u hu
  rcases h.1 with rfl | ⟨b, off, e, hc⟩
  · simp [bs] at hu
  · obtain rfl := Option.some.inj e
    have hj : j < zs.length := by
      rw [← bs_len]; exact (List.getElem?_eq_some_iff.1 hu).1
    have := hc j hj
    simp only [bs, List.getElem?_map, List.getElem?_eq_getElem hj, Option.map_some, Option.some.injEq] at hu
    subst hu
    have e : (⟨b, off, none⟩ : Addr).add j = ⟨b, off + j, none⟩ := by
      by_cases h0 : j = 0
      · subst h0; rfl
      · simp [Addr.add, h0]
    rw [e, this]
    simp [List.getD_eq_getElem?_getD, List.getElem?_eq_getElem hj]

/-- A slice of bytes that the call made. -/
def Own (w : World) (base g n cap : Nat) (zs : List Int) : Prop := w.ownsRow base 5 1 (.slice (some ⟨g, 0, none⟩) n cap) n (bs zs) ∧ ∀ z ∈ zs, 0 ≤ z ∧ z ≤ 255
theorem Own.len {w : World} {base g n cap : Nat} {zs : List Int} (h : Own w base g n cap zs) : zs.length = n := by
  have := h.1.1; rw [bs_len] at this; omega
theorem Own.ge {w : World} {base g n cap : Nat} {zs : List Int} (h : Own w base g n cap zs) : base ≤ g ∧ g < w.heap.size := h.1.lt g rfl
theorem Own.cap {w : World} {base g n cap : Nat} {zs : List Int} (h : Own w base g n cap zs) : n ≤ cap ∧ cap ≤ maxLen := by
  rcases h.1.2 with ⟨h', _⟩ | ⟨g', cap', cur, h', _, hg, h1, h2, _⟩
  · simp at h'
  · simp only [Value.slice.injEq] at h'
    obtain ⟨_, _, rfl⟩ := h'
    exact ⟨h1, h2⟩
theorem Own.cell {w : World} {base g n cap : Nat} {zs : List Int} (h : Own w base g n cap zs) (i : Nat) (hi : i < n) : w.cell? ⟨g, i, none⟩ = some (.int .u8 (zs.getD i 0)) := by
  have hl := h.len
  rw [h.1.cellAt i (by omega)]
  simp only [bs, List.getElem?_map, List.getElem?_eq_getElem (show i < zs.length by omega), Option.map_some, List.getD_eq_getElem?_getD, Option.getD_some]
theorem Own.kept {w w' : World} {row : Option Nat} {base g n cap : Nat} {zs : List Int} (h : Own w base g n cap zs) (hg : w.grownBy w' row) (hne : some g ≠ row) : Own w' base g n cap zs :=
  ⟨h.1.kept hg (.inr (by simpa [Value.ownBlock] using hne)), h.2⟩
theorem Own.rd {w : World} {base g n cap : Nat} {zs : List Int} (h : Own w base g n cap zs) : Rd w (some ⟨g, 0, none⟩) zs :=
  ⟨.inr ⟨g, 0, rfl, fun i hi => by rw [Nat.zero_add]; exact h.cell i (by rw [← h.len]; exact hi)⟩, h.2⟩
theorem Own.base {w : World} {base base' g n cap : Nat} {zs : List Int} (h : Own w base g n cap zs) (hb : base' ≤ base) : Own w base' g n cap zs := by
  refine ⟨⟨h.1.1, ?_⟩, h.2⟩
  rcases h.1.2 with h' | ⟨g', cap', cur, h', h0, r⟩
  · exact .inl h'
  · exact .inr ⟨g', cap', cur, h', Nat.le_trans hb h0, r⟩
theorem Own.of {w : World} {base n : Nat} {v : Value} {zs : List Int} (h : w.ownsRow base 5 1 v n (bs zs)) (hn : v ≠ .slice none 0 0) (hz : ∀ z ∈ zs, 0 ≤ z ∧ z ≤ 255) : ∃ g cap, v = .slice (some ⟨g, 0, none⟩) n cap ∧ Own w base g n cap zs := by
  rcases h.2 with ⟨h', _⟩ | ⟨g', cap', cur, h', _⟩
  · exact absurd h' hn
  · subst h'
    exact ⟨g', cap', rfl, h, hz⟩

theorem Rd.none {w : World} {zs : List Int} (h : Rd w none zs) : zs = [] := by
  rcases h.1 with h | ⟨b, off, e, _⟩
  · exact h
  · cases e

theorem own_empty (w : World) : Own (w.alloc (.cells #[] 5)) w.heap.size w.heap.size 0 0 [] :=
  ⟨by simpa [bs] using World.ownsRow_made (e := 5) (size := 1) w #[] 0 (Nat.le_refl _) (Nat.zero_le _) rfl, by simp⟩

theorem news_at {w : World} {cs : List Value} {t : TypeId} : ∀ j u, cs[j]? = some u → (w.alloc (.cells cs.toArray t)).cell? ((⟨w.heap.size, 0, none⟩ : Addr).add j) = some u := by
  have := World.news_of_block (w := w.alloc (.cells cs.toArray t)) (B := w.heap.size) (cs := cs.toArray) (t := t) (fr := (0, 0)) (heap_alloc_new w _)
  simpa using this

theorem list_same (xs ys : List Int) (hl : xs.length = ys.length) (h : ∀ j, j < xs.length → xs.getD j 0 = ys.getD j 0) : xs = ys := by
  refine List.ext_getElem hl fun i h1 h2 => ?_
  have := h i h1
  simpa [List.getD_eq_getElem?_getD, List.getElem?_eq_getElem h1, List.getElem?_eq_getElem h2] using this

theorem Rd.drewN {w : World} {a : Option Addr} {zs : List Int} (h : Rd w a zs) (n : Nat) : Rd (w.drewN n) a zs := h
set_option maxHeartbeats 400000 in
theorem same_len (a b : Option Addr) (L M : Nat) (c d : Nat) (w : World) (hne : ¬ L = M) :
    Calls Tryz.prog 21 #[.slice a L c, .slice b M d] w fun e w' => e = .returned (.bool false) ∧ w = w' := by
  have h : ((L : Int) != (M : Int)) = true := by simp; omega
  go_enter Tryz.func21, Tryz.ntmps21
  go_wp2
  go_ret
  exact ⟨rfl, rfl⟩

set_option maxHeartbeats 400000 in
theorem same_loop (a b : Option Addr) (xs ys : List Int) (c d : Nat) (w : World) (hx : Rd w a xs) (hy : Rd w b ys) (hl : ys.length = xs.length) (hz : xs.length ≤ 140737488355328) :
    Calls Tryz.prog 21 #[.slice a xs.length c, .slice b xs.length d] w fun e w' => e = .returned (.bool (decide (xs = ys))) ∧ ∃ n, w' = w.drewN n := by
  have HX : Hid (Rd w a xs) := hx
  have HY : Hid (Rd w b ys) := hy
  have HE : Hid (∀ k, k < xs.length → xs.getD k 0 ≠ ys.getD k 0 → decide (xs = ys) = false) := by
    intro k hk hne
    simp only [decide_eq_false_iff_not]
    intro h
    rw [h] at hne
    exact hne rfl
  have HF : Hid ((∀ j, j < xs.length → xs.getD j 0 = ys.getD j 0) → decide (xs = ys) = true) := fun h => by
    simpa using list_same xs ys hl.symm h
  have HM : Hid (ys.length = xs.length) := hl
  obtain ⟨L, hL⟩ : ∃ L, L = xs.length := ⟨_, rfl⟩
  have H5 : Hid (L = xs.length) := hL
  obtain ⟨res, hres⟩ : ∃ r, r = decide (xs = ys) := ⟨_, rfl⟩
  have HRes : Hid (res = decide (xs = ys)) := hres
  rw [← hL] at hz ⊢
  rw [← hres]
  clear hx hy hl hL hres
  go_enter Tryz.func21, Tryz.ntmps21
  go_wp2
  go_loopw [5] (fun i wr => ∃ k : Nat, k ≤ L ∧ i = .int .i64 k ∧ (∃ n, wr = w.drewN n) ∧ ∀ j, j < k → xs.getD j 0 = ys.getD j 0) (fun i _ => L - (intOf i).toNat)
  case atStart => exact ⟨0, Nat.zero_le _, rfl, ⟨0, rfl⟩, fun j h => by omega⟩
  case round =>
    obtain ⟨k, hk, rfl, ⟨m, rfl⟩, hall⟩ := hrel
    have HA : Hid (∀ j, j < k → xs.getD j 0 = ys.getD j 0) := hall
    clear hall
    by_cases hlt : k < L
    · have h5 := H5.out
      have h6 := HM.out
      obtain ⟨ba, offa, rfl, hca⟩ := HX.out.at (by omega)
      obtain ⟨bb, offb, rfl, hcb⟩ := HY.out.at (by omega)
      have ha : w.cell? ⟨ba, offa + k, none⟩ = some (.int .u8 (xs.getD k 0)) := hca k (by omega)
      have hb : w.cell? ⟨bb, offb + k, none⟩ = some (.int .u8 (ys.getD k 0)) := hcb k (by omega)
      obtain ⟨x, ex⟩ : ∃ x, x = xs.getD k 0 := ⟨_, rfl⟩
      obtain ⟨y, ey⟩ : ∃ y, y = ys.getD k 0 := ⟨_, rfl⟩
      have EX : Hid (x = xs.getD k 0) := ex
      have EY : Hid (y = ys.getD k 0) := ey
      rw [← ex] at ha
      rw [← ey] at hb
      have hi : (k : Int) < (L : Int) := by omega
      clear hca hcb ex ey h5 h6
      by_cases hxy : x = y
      · have hb1 : (x != y) = false := by simp [hxy]
        have HXY : Hid (x = y) := hxy
        clear hxy
        go_wp2_with fail
        go_quiet (fail)
        go_wp2
        go_roundw
        case rel =>
          refine ⟨k + 1, by omega, by go_num, ⟨_, rfl⟩, fun j hj => ?_⟩
          by_cases hjk : j < k
          · exact HA.out j hjk
          · have : j = k := by omega
            subst this
            rw [← EX.out, ← EY.out]; exact HXY.out
        case measure => simp [intOf]; omega
      · have hb1 : (x != y) = true := by simp [hxy]
        have HXY : Hid (¬ x = y) := hxy
        clear hxy
        go_wp2_with fail
        go_quiet (fail)
        go_wp2
        go_ret
        refine ⟨ret_bool ?_, _, drewN_drewN _ _ _⟩
        rw [HRes.out]
        refine (HE.out k (by have := H5.out; omega) ?_).symm
        rw [← EX.out, ← EY.out]; exact HXY.out
    · go_wp2
      go_ret
      refine ⟨ret_bool ?_, _, rfl⟩
      rw [HRes.out]
      exact (HF.out fun j hj => HA.out j (by have := H5.out; omega)).symm

/-- SameBytes, of any two. -/
theorem same_any (a b : Option Addr) (xs ys : List Int) (L M c d : Nat) (w : World) (hx : Rd w a xs) (hy : Rd w b ys) (hL : xs.length = L) (hM : ys.length = M) (hz : L ≤ 140737488355328) :
    Calls Tryz.prog 21 #[.slice a L c, .slice b M d] w fun e w' => e = .returned (.bool (decide (xs = ys))) ∧ w.grownBy w' none := by
  subst hL
  subst hM
  by_cases hl : xs.length = ys.length
  · rw [← hl]
    refine (same_loop a b xs ys c d w hx hy hl.symm hz).mono ?_
    rintro e w' ⟨rfl, n, rfl⟩
    exact ⟨rfl, gb_drewN w n⟩
  · have e : decide (xs = ys) = false := by
      simp only [decide_eq_false_iff_not]
      intro h
      exact hl (by rw [h])
    rw [e]
    refine (same_len a b _ _ c d w hl).mono ?_
    rintro e w' ⟨rfl, rfl⟩
    exact ⟨rfl, World.grownBy.refl _ _⟩

theorem bs_set (zs : List Int) (j : Nat) (u : Int) : bs (zs.set j u) = (bs zs).set j (.int .u8 u) := by simp [bs, List.map_set]
theorem Own.set {w : World} {base g n cap : Nat} {zs : List Int} (h : Own w base g n cap zs) (j : Nat) (u : Int) (hu : 0 ≤ u ∧ u ≤ 255) : Own (w.setCell ⟨g, j, none⟩ (.int .u8 u)) base g n cap (zs.set j u) := by
  refine ⟨?_, fun z hz => ?_⟩
  · rw [bs_set]; exact (h.1.stored j _).1
  · rcases List.mem_or_eq_of_mem_set hz with h1 | h1
    · exact h.2 z h1
    · subst h1; exact hu

theorem Own.tail {w : World} {base g n cap : Nat} {xs ys : List Int} (h : Own w base g n cap (xs ++ ys)) (hn : xs.length + ys.length = n) : Rd w (some ⟨g, xs.length, none⟩) ys := by
  refine ⟨.inr ⟨g, xs.length, rfl, fun i hi => ?_⟩, fun z hz => h.2 z (by simp [hz])⟩
  rw [h.cell (xs.length + i) (by omega)]
  simp [List.getD_eq_getElem?_getD, List.getElem?_append_right]
theorem rd_lit (w : World) (zs : List Int) (hz : ∀ z ∈ zs, 0 ≤ z ∧ z ≤ 255) : Rd (w.alloc (.cells (bs zs).toArray 5)) (some ⟨w.heap.size, 0, none⟩) zs := by
  refine ⟨.inr ⟨w.heap.size, 0, rfl, fun i hi => ?_⟩, hz⟩
  have := news_at (w := w) (cs := bs zs) (t := 5) i (.int .u8 (zs.getD i 0)) (by simp [bs, List.getElem?_eq_getElem hi, List.getD_eq_getElem?_getD])
  have e : (⟨w.heap.size, 0, none⟩ : Addr).add i = ⟨w.heap.size, 0 + i, none⟩ := by
    by_cases h0 : i = 0
    · subst h0; rfl
    · simp [Addr.add, h0]
  rwa [e] at this

theorem Own.drew {w : World} {base g n cap : Nat} {zs : List Int} (h : Own w base g n cap zs) : Own w.drew base g n cap zs := h

/-- append(out, xs...): out is the call's own, xs whatever is read. -/
theorem wpList_append_rd {w : World} {ops : Array Oper} {rest : List Oper} {o : Oper} {a : Act} {Q : Exit → Act → World → Prop} (hgd : o.guard = none) (s x : Operand)
    (ho : o.op = .call { callee := .builtin .append, args := #[s, x], argTypes := #[37, 37] }) (base g0 n c0 : Nat) (xs : List Int) (hs : a.eval s = .slice (some ⟨g0, 0, none⟩) n c0) (hown : Own w base g0 n c0 xs)
    (src : Option Addr) (zs : List Int) (m cap : Nat) (hx : a.eval x = .slice src m cap) (hm : zs.length = m) (hr : Rd w src zs) (hnil : src = none → cap = 0) (hlen : n + m ≤ 140737488355328)
    (h : ∀ g c w', Own w' base g (n + m) c (xs ++ zs) → w.grownBy w' (some g0) → wpList Tryz.prog ops Q rest (a.put o.dst (.slice (some ⟨g, 0, none⟩) (n + m) c)) w') : wpList Tryz.prog ops Q (o :: rest) a w := by
  obtain ⟨i0, hi, hz0, hz1, hz2⟩ := info_parts info5
  subst hm
  cases src with
  | none =>
    obtain rfl := hnil rfl
    obtain rfl := hr.none
    refine wpList_append_own_none hgd s x 37 ho base 5 i0 1 Tryz.underlying37 hi _ n (bs xs) hs hown.1 hx ?_
    have := h g0 c0 w (by simpa using hown) (World.grownBy.refl _ _)
    simpa using this
  | some ad =>
    have hge := hown.ge
    refine wpList_append_own _ hgd s x 37 ho base 5 i0 (.int .u8 0) 1 1 Tryz.underlying37 hi hz0 hz1 hz2 rfl (by decide) _ n (bs xs) hs hown.1 ad zs.length cap (bs zs) hx (by rw [bs_len]; omega) hr.news (bs_one zs) (by unfold maxLen; omega) (by omega) (by omega) ?_
    intro v' w' hown' hg hne
    rw [← bs_app] at hown'
    obtain ⟨g, c, rfl, ho'⟩ := Own.of hown' (fun h => by simpa using hne.1 h) (fun z hz => by
      rcases List.mem_append.1 hz with h1 | h1
      · exact hown.2 z h1
      · exact hr.2 z h1)
    exact h g c w' ho' hg


theorem Own.block {w : World} {base g n : Nat} {zs : List Int} (h : Own w base g n n zs) : w.heap[g]? = some (.cells (bs zs).toArray 5 (0, 0)) := by
  rcases h.1.2 with ⟨h', _⟩ | ⟨g', cap', cur, h', _, hg, _, _, hs, ht⟩
  · simp at h'
  · simp only [Value.slice.injEq, Option.some.injEq, Addr.mk.injEq, and_true, true_and] at h'
    obtain ⟨rfl, rfl⟩ := h'
    rw [hg]
    have : cur = (bs zs).toArray := by
      rw [← ht, List.take_of_length_le (by simp [hs])]
    rw [this]
theorem Own.ofBlock {w : World} {base g n : Nat} {zs : List Int} (h : w.heap[g]? = some (.cells (bs zs).toArray 5 (0, 0))) (hb : base ≤ g) (hn : zs.length = n) (hm : n ≤ maxLen) (hz : ∀ z ∈ zs, 0 ≤ z ∧ z ≤ 255) : Own w base g n n zs :=
  ⟨⟨by rw [bs_len]; omega, .inr ⟨g, n, _, rfl, hb, h, Nat.le_refl _, hm, by simp [bs_len, hn], by rw [List.take_of_length_le (by simp [bs_len, hn])]⟩⟩, hz⟩

theorem Rd.pos {w : World} {a : Option Addr} {zs : List Int} (h : Rd w a zs) (hz : 0 < (bs zs).length) : ∃ ad, a = some ad ∧ ∀ j v, (bs zs)[j]? = some v → w.cell? (ad.add j) = some v := by
  obtain ⟨b, off, rfl, _⟩ := h.at (by rwa [bs_len] at hz)
  exact ⟨_, rfl, h.news⟩
end Go.Proofs.YtgpgkpciajajcaaGreatDoor

/- Package disk: how a disk lies in memory. -/
namespace Go.Proofs.YtgpgkpciajajcaaGreatDoor
open Go.RowKit Go.Maps
set_option linter.unusedVariables false
set_option maxRecDepth 20000

def byteE : Elem Int where
  cells z := [.int .u8 z]
  size := 1
  pos := by decide
  len _ := rfl
  one z v h := by
    simp only [List.mem_cons, List.mem_nil_iff, or_false] at h
    subst h
    rfl
theorem byteE_flat (zs : List Int) : byteE.flat zs = zs.map (Value.int .u8) := by
  unfold Elem.flat
  induction zs with
  | nil => rfl
  | cons z r ih => rw [List.flatMap_cons, ih]; rfl
theorem byteET : ElemOf byteE Tryz.prog 37 5 1 := by
  obtain ⟨i0, hi, hz0, hz1, hz2⟩ := info_parts info5
  exact ⟨Tryz.underlying37, i0, _, hi, hz0, hz1, hz2, rfl⟩
/-- What a disk's struct holds. -/
def DiskF (mb : Nat) (off set : Bool) (ah kp wr : Int) : Nat → Value
  | 0 => .map (some mb)
  | 1 => .bool off
  | 2 => .bool set
  | 3 => .int .i64 ah
  | 4 => .int .i64 kp
  | _ => .int .u64 wr
def FileF (v : Value) (s : Nat) : Nat → Value
  | 0 => v
  | _ => .int .i64 s
/-- How a pointer among a map's elements reads: by its block. -/
def ptrD : Option Nat → DataW Unit
  | some b => .lit (.int .i64 b)
  | none => .lit (.int .i64 (-1))
def ptrE : Value → Option (DataW Unit × List MemPlace)
  | .pointer (some ⟨b, 0, none⟩) => some (ptrD (some b), [])
  | .pointer none => some (ptrD none, [])
  | _ => none
def ptrV (o : Option Nat) : Value := .pointer (o.map fun b => ⟨b, 0, none⟩)
theorem ptrE_inv {v : Value} {o : Option Nat} {ps : List MemPlace} (h : ptrE v = some (ptrD o, ps)) : v = ptrV o := by
  unfold ptrE at h
  split at h
  · rename_i b
    simp only [Option.some.injEq, Prod.mk.injEq] at h
    cases o with
    | none => simp only [ptrD, DataW.lit.injEq, Lit.int.injEq, true_and] at h; omega
    | some c =>
      simp only [ptrD, DataW.lit.injEq, Lit.int.injEq, true_and] at h
      have : b = c := by omega
      rw [this]
      rfl
  · simp only [Option.some.injEq, Prod.mk.injEq] at h
    cases o with
    | none => rfl
    | some c => simp only [ptrD, DataW.lit.injEq, Lit.int.injEq, true_and] at h; omega
  · cases h
theorem ptrD_inj {a b : Option Nat} (h : ptrD a = ptrD b) : a = b := by
  cases a <;> cases b <;> simp only [ptrD, DataW.lit.injEq, Lit.int.injEq, true_and] at h <;> first | rfl | omega | (congr 1; omega)
abbrev kn (s : ByteArray) : Lit := .string s.data.toList
theorem kn_inj {s t : ByteArray} (h : kn s = kn t) : s = t := by
  simp only [Lit.string.injEq] at h
  cases s
  cases t
  simp only [ByteArray.mk.injEq]
  exact Array.toList_inj.1 h
theorem kn_ne {s t : ByteArray} (h : s ≠ t) : kn s ≠ kn t := fun e => h (kn_inj e)
theorem key9 (s : ByteArray) (h : s.size ≤ 64) : keyOf Tryz.prog 9 (.string s) = some (kn s) := Go.WideMaps.keyOf_string_mk Tryz.underlying9 (by unfold maxLen; omega)
theorem law9 : Keyed Tryz.prog 9 := string_keyed Tryz.underlying9
theorem zero64 (w : World) : (zeroValue 114).run Tryz.prog w = .ok (.pointer none) w := by kernel_rfl
theorem kn_key (s : ByteArray) : WideAt.IsKeyLit (kn s) := by trivial
/-- F with another answer at s. -/
def setF (F : ByteArray → Option Nat) (s : ByteArray) (o : Option Nat) : ByteArray → Option Nat := fun x => if x = s then o else F x
theorem setF_same (F : ByteArray → Option Nat) (s : ByteArray) (o : Option Nat) : setF F s o s = o := if_pos rfl
theorem setF_other (F : ByteArray → Option Nat) {s x : ByteArray} (o : Option Nat) (h : x ≠ s) : setF F s o x = F x := if_neg h
/-- The map in block mb: F tells where the file of a name lies. -/
def MapIs (w : World) (mb n : Nat) (F : ByteArray → Option Nat) : Prop :=
  ∃ D : DataW Unit, w.ownsMap Tryz.prog 9 ptrE mb n D ∧ (∀ s : ByteArray, D.atKey (kn s) (ptrD none) = ptrD (F s)) ∧ (∀ kl, Maps.has D kl = true → ∃ s, kl = kn s ∧ (F s).isSome = true) ∧ ∀ s, (F s).isSome = true → Maps.has D (kn s) = true
theorem MapIs.kept {w w' : World} {row : Option Nat} {mb n : Nat} {F : ByteArray → Option Nat} (h : MapIs w mb n F) (hg : w.grownBy w' row) (h2 : some mb ≠ row) : MapIs w' mb n F := by
  obtain ⟨D, hm, hd, hh, hi⟩ := h
  exact ⟨D, hm.kept hg h2, hd, hh, hi⟩
theorem MapIs.made (w : World) : MapIs (w.alloc (.map #[] 0)) w.heap.size 0 (fun _ => none) :=
  ⟨.map [], World.ownsMap_made w _ _ _, fun _ => rfl, fun kl h => by simp [Maps.has] at h, fun s h => by simp at h⟩
theorem MapIs.lt {w : World} {mb n : Nat} {F : ByteArray → Option Nat} (h : MapIs w mb n F) : mb < w.heap.size := by
  obtain ⟨D, hm, _⟩ := h
  exact hm.lt
theorem MapIs.look {w : World} {mb n : Nat} {F : ByteArray → Option Nat} (h : MapIs w mb n F) (s : ByteArray) (hs : s.size ≤ 64) :
    (Instr.lookup 60 (.map (some mb)) (.string s) false).run Tryz.prog w = .ok (ptrV (F s)) w := by
  obtain ⟨D, hm, hd, _⟩ := h
  obtain ⟨v, ps, hrun, hv⟩ := hm.lookup law9 Tryz.underlying60 (zero64 w) (show ptrE (.pointer none) = some (ptrD none, []) from rfl) (key9 s hs)
  rw [hd s] at hv
  rw [hrun, ptrE_inv hv]
theorem MapIs.put {w : World} {mb n : Nat} {F : ByteArray → Option Nat} (h : MapIs w mb n F) (s : ByteArray) (hs : s.size ≤ 64) (hn : n ≤ 1048576) (b : Nat) :
    ∃ w', (Instr.mapUpdate 60 (.map (some mb)) (.string s) (.pointer (some ⟨b, 0, none⟩))).run Tryz.prog w = .ok () w' ∧ MapIs w' mb (n + 1) (setF F s (some b)) ∧ w.grownBy w' (some mb) := by
  obtain ⟨D, hm, hd, hh, hi⟩ := h
  obtain ⟨w', hrun, hm', hg⟩ := hm.update law9 Tryz.underlying60 (by unfold maxLen; omega) (key9 s hs) (show ptrE (.pointer (some ⟨b, 0, none⟩)) = some (ptrD (some b), []) from rfl)
  refine ⟨w', hrun, ⟨_, hm', fun x => ?_, fun kl hk => ?_, fun x hx => ?_⟩, hg⟩
  · by_cases e : x = s
    · subst e
      rw [atKey_put_same hm.isMap (kn_key x), setF_same]
    · rw [atKey_put_other (kn_ne e), hd x, setF_other F _ e]
  · by_cases e : kl = kn s
    · exact ⟨s, e, by rw [setF_same]; rfl⟩
    · rw [has_put_other e] at hk
      obtain ⟨x, rfl, hx⟩ := hh kl hk
      exact ⟨x, rfl, by rw [setF_other F _ (fun e' => e (by rw [e']))]; exact hx⟩
  · by_cases e : x = s
    · subst e
      exact has_put_same hm.isMap (kn_key x) _
    · rw [has_put_other (kn_ne e)]
      rw [setF_other F _ e] at hx
      exact hi x hx
theorem MapIs.del {w : World} {mb n : Nat} {F : ByteArray → Option Nat} (h : MapIs w mb n F) (s : ByteArray) (hs : s.size ≤ 64) (ty : TypeId) :
    ∃ w', (Builtin.delete_ #[60, 9] ty #[.map (some mb), .string s]).run Tryz.prog w = .ok (.tuple #[]) w' ∧ MapIs w' mb n (setF F s none) ∧ w.grownBy w' (some mb) := by
  obtain ⟨D, hm, hd, hh, hi⟩ := h
  obtain ⟨w', hrun, hm', ht⟩ := hm.drop law9 Tryz.underlying60 (key9 s hs) ty
  refine ⟨w', hrun, ⟨_, hm', fun x => ?_, fun kl hk => ?_, fun x hx => ?_⟩, ht.grown⟩
  · by_cases e : x = s
    · subst e
      rw [atKey_del_same, setF_same]
    · rw [atKey_del_other (kn_ne e), hd x, setF_other F _ e]
  · by_cases e : kl = kn s
    · subst e
      rw [has_del_same] at hk
      cases hk
    · rw [has_del_other e] at hk
      obtain ⟨x, rfl, hx⟩ := hh kl hk
      exact ⟨x, rfl, by rw [setF_other F _ (fun e' => e (by rw [e']))]; exact hx⟩
  · by_cases e : x = s
    · subst e
      rw [setF_same] at hx
      cases hx
    · rw [has_del_other (kn_ne e)]
      rw [setF_other F _ e] at hx
      exact hi x hx
theorem MapIs.len {w : World} {mb n : Nat} {F : ByteArray → Option Nat} (h : MapIs w mb n F) (ty : TypeId) : ∃ m : Nat, m ≤ n ∧ (Builtin.len_ #[60] ty #[.map (some mb)]).run Tryz.prog w = .ok (.int .i64 m) w := by
  obtain ⟨D, hm, _⟩ := h
  exact ⟨_, hm.size_le, hm.len Tryz.underlying60 ty⟩
end Go.Proofs.YtgpgkpciajajcaaGreatDoor

