/- Several texts in one: Io, Wg, Wh. -/
import Derived.Test.YtgpgkpciajajcaaGreatDoorGam
import Derived.ArgAppend
import Derived.Deep.RegionHeld3
/- A slice of numbers that is one's own, wherever in its block it begins. -/
namespace Go.Proofs.YtgpgkpciajajcaaGreatDoor
open Go.RowKit Go.Maps Go.Sort
set_option linter.unusedVariables false
set_option maxRecDepth 20000

def IOwn (w : World) (base : Nat) (v : Value) (n : Nat) (l : List Int) : Prop :=
  l.length = n ∧ ((v = .slice none 0 0 ∧ n = 0) ∨ ∃ g off cap cur, v = .slice (some ⟨g, off, none⟩) n cap ∧ base ≤ g ∧ w.heap[g]? = some (.cells cur 3 (0, 0)) ∧ n ≤ cap ∧ cap ≤ maxLen ∧ off + cap ≤ cur.size ∧ ∀ (i : Nat) (z : Int), l[i]? = some z → cur[off + i]? = some (.int .i64 z))
theorem iflat (l : List Int) (j : Nat) : (intE.flat l)[j]? = (l[j]?).map (fun z => Value.int .i64 z) := by
  have e : intE.flat l = l.map (fun z => Value.int .i64 z) := by
    unfold Elem.flat
    rw [List.map_eq_flatMap]
    rfl
  rw [e, List.getElem?_map]
theorem IOwn.of {w : World} {base n : Nat} {v : Value} {l : List Int} (h : SOwn intE 3 w base v n l) : IOwn w base v n l := by
  have hl := h.len
  refine ⟨hl, ?_⟩
  rcases h.2 with h' | ⟨g, cap, cur, h1, h2, h3, h4, h5, h6, h7⟩
  · exact .inl h'
  · refine .inr ⟨g, 0, cap, cur, h1, h2, h3, h4, h5, ?_, fun i z hz => ?_⟩
    · rw [h6]; simp [intE]
    · have hi : i < l.length := (List.getElem?_eq_some_iff.1 hz).1
      have e := iflat l i
      rw [hz, ← h7, show intE.size = 1 from rfl, Nat.mul_one, List.getElem?_take_of_lt (by omega)] at e
      rw [Nat.zero_add]
      simpa using e
theorem IOwn.len {w : World} {base n : Nat} {v : Value} {l : List Int} (h : IOwn w base v n l) : l.length = n := h.1
theorem IOwn.rd {w : World} {base n c : Nat} {a : Option Addr} {l : List Int} (h : IOwn w base (.slice a n c) n l) : SRd intE w a l := by
  rcases h.2 with ⟨_, h0⟩ | ⟨g, off, cap, cur, h1, h2, h3, h4, h5, h6, h7⟩
  · exact .inl (List.eq_nil_of_length_eq_zero (by rw [h.1, h0]))
  · refine .inr ⟨g, off, (by injection h1), fun j v hj => ?_⟩
    rw [iflat] at hj
    obtain ⟨z, hz, rfl⟩ := Option.map_eq_some_iff.1 hj
    rw [cell_of_row w g (off + j) _ _ _ h3]
    exact h7 j z hz
theorem iown_cap {w : World} {base n c : Nat} {a : Option Addr} {l : List Int} (h : IOwn w base (.slice a n c) n l) : n ≤ c ∧ (a = none → c = 0) := by
  rcases h.2 with ⟨h1, h0⟩ | ⟨g, off, cap, cur, h1, h2, h3, h4, _⟩
  · simp only [Value.slice.injEq] at h1
    obtain ⟨rfl, rfl, rfl⟩ := h1
    exact ⟨Nat.le_refl _, fun _ => rfl⟩
  · simp only [Value.slice.injEq] at h1
    obtain ⟨rfl, _, rfl⟩ := h1
    exact ⟨h4, fun e => (by cases e)⟩
theorem IOwn.block {w : World} {base n : Nat} {v : Value} {l : List Int} (h : IOwn w base v n l) : ∀ k, v.ownBlock = some k → base ≤ k ∧ k < w.heap.size := by
  intro k hk
  rcases h.2 with ⟨rfl, _⟩ | ⟨g, off, cap, cur, rfl, h2, h3, _⟩
  · cases hk
  · have e : g = k := Option.some.inj hk
    subst e
    exact ⟨h2, (Array.getElem?_eq_some_iff.1 h3).1⟩
theorem IOwn.stay {w w' : World} {base n : Nat} {v : Value} {l : List Int} (h : IOwn w base v n l) (hb : ∀ k, v.ownBlock = some k → w'.heap[k]? = w.heap[k]?) : IOwn w' base v n l := by
  refine ⟨h.1, ?_⟩
  rcases h.2 with h' | ⟨g, off, cap, cur, rfl, h2, h3, h4⟩
  · exact .inl h'
  · exact .inr ⟨g, off, cap, cur, rfl, h2, (hb g rfl).trans h3, h4⟩
theorem IOwn.kept {w w' : World} {row : Option Nat} {base n : Nat} {v : Value} {l : List Int} (h : IOwn w base v n l) (hg : w.grownBy w' row) (hne : v.ownBlock = none ∨ v.ownBlock ≠ row) : IOwn w' base v n l :=
  h.stay (fun k hk => hg.block k (h.block k hk).2 (by
    rcases hne with h0 | h0
    · rw [h0] at hk; cases hk
    · rw [← hk]; exact h0))
theorem IOwn.keptK {w w' : World} {X : Nat → Prop} {base n : Nat} {v : Value} {l : List Int} (h : IOwn w base v n l) (hk : Kept w w' X) (hX : ∀ k, v.ownBlock = some k → ¬ X k) : IOwn w' base v n l :=
  h.stay (fun k hk' => hk.block k (h.block k hk').2 (hX k hk'))
theorem IOwn.grown {w w' : World} {base n : Nat} {v : Value} {l : List Int} (h : IOwn w base v n l) (hg : w.grownBy w' none) : IOwn w' base v n l := h.kept hg (by cases h0 : v.ownBlock <;> simp)
theorem IOwn.lt {w : World} {base n c : Nat} {a : Option Addr} {l : List Int} (h : IOwn w base (.slice a n c) n l) : ∀ y, a = some y → y.block < w.heap.size ∧ y.spot = none := by
  intro y hy
  subst hy
  rcases h.2 with ⟨h1, _⟩ | ⟨g, off, cap, cur, h1, h2, h3, _⟩
  · cases h1
  · simp only [Value.slice.injEq, Option.some.injEq] at h1
    obtain ⟨rfl, _⟩ := h1
    exact ⟨(Array.getElem?_eq_some_iff.1 h3).1, rfl⟩
theorem IOwn.take {w : World} {base n c : Nat} {a : Option Addr} {l : List Int} (h : IOwn w base (.slice a n c) n l) (i : Nat) (hi : i ≤ n) : IOwn w base (.slice a i c) i (l.take i) := by
  have hl := h.1
  refine ⟨by rw [List.length_take]; omega, ?_⟩
  rcases h.2 with ⟨h1, h0⟩ | ⟨g, off, cap, cur, h1, h2, h3, h4, h5, h6, h7⟩
  · injection h1 with e1 e2 e3
    exact .inl ⟨by rw [e1, e3, show i = 0 by omega], by omega⟩
  · injection h1 with e1 e2 e3
    subst e1 e3
    refine .inr ⟨g, off, c, cur, rfl, h2, h3, by omega, h5, h6, fun j z hz => h7 j z ?_⟩
    have : j < i := by
      have := (List.getElem?_eq_some_iff.1 hz).1
      rw [List.length_take] at this
      omega
    rwa [List.getElem?_take_of_lt this] at hz
theorem IOwn.base {w : World} {base base' n : Nat} {v : Value} {l : List Int} (h : IOwn w base v n l) (hb : base' ≤ base) : IOwn w base' v n l := by
  refine ⟨h.1, ?_⟩
  rcases h.2 with h' | ⟨g, off, cap, cur, h1, h2, h3⟩
  · exact .inl h'
  · exact .inr ⟨g, off, cap, cur, h1, Nat.le_trans hb h2, h3⟩
/-- Without its first one. -/
theorem IOwn.tail {w : World} {base b off M C : Nat} {k : Int} {l : List Int} (h : IOwn w base (.slice (some ⟨b, off, none⟩) (M + 1) C) (M + 1) (k :: l)) : IOwn w base (.slice (some (if C = 1 then ⟨b, off, none⟩ else ⟨b, off + 1, none⟩)) M (C - 1)) M l := by
  have hl := h.1
  rcases h.2 with ⟨h1, _⟩ | ⟨g, o, cap, cur, h1, h2, h3, h4, h5, h6, h7⟩
  · cases h1
  · simp only [Value.slice.injEq, Option.some.injEq, Addr.mk.injEq, and_true, true_and] at h1
    obtain ⟨⟨rfl, rfl⟩, rfl⟩ := h1
    refine ⟨by simpa using hl, .inr ?_⟩
    by_cases hC : C = 1
    · subst hC
      have hM : M = 0 := by omega
      subst hM
      refine ⟨b, off, 0, cur, by simp, h2, h3, Nat.le_refl _, by unfold maxLen; omega, by omega, fun i z hz => ?_⟩
      have : l = [] := List.eq_nil_of_length_eq_zero (by simpa using hl)
      rw [this] at hz
      simp at hz
    · refine ⟨b, off + 1, C - 1, cur, by simp [hC], h2, h3, by omega, by omega, by omega, fun i z hz => ?_⟩
      have := h7 (i + 1) z (by simpa using hz)
      rw [show off + 1 + i = off + (i + 1) by omega]
      exact this
theorem step_append_I {ops : Array Oper} {o : Oper} {a : Act} {w : World} {K : Act → World → Prop} {Q : Exit → Act → World → Prop} {E : Prop} (hgd : o.guard = none) (s x : Operand)
    (ho : o.op = .call { callee := .builtin .append, args := #[s, x], argTypes := #[44, 44] }) (a0 : Option Addr) (n c : Nat) (l : List Int) (hs : a.eval s = .slice a0 n c) (ht : IOwn w 0 (.slice a0 n c) n l)
    (ad : Addr) (k : Int) (hx : a.eval x = .slice (some ad) 1 1) (hr : SRd intE w (some ad) [k]) (hn : n ≤ 4194304)
    (h : ∀ g off c' w', IOwn w' 0 (.slice (some ⟨g, off, none⟩) (n + 1) c') (n + 1) (l ++ [k]) → w.grownBy w' (Value.ownBlock (.slice a0 n c)) → (Value.ownBlock (.slice a0 n c) = some g ∨ w.heap.size ≤ g) → K (a.put o.dst (.slice (some ⟨g, off, none⟩) (n + 1) c')) w') : if Region.wanted o (yielded ops a.tmps) = true then Oper.wp Tryz.prog o a w K Q else E := by
  have hw : Region.wanted o (yielded ops a.tmps) = true := by simp [Region.wanted, hgd]
  rw [if_pos hw]
  obtain ⟨i0, z, hi, hz0, hz1, hz2, hz3⟩ := intET.info
  have hone : ∀ u ∈ intE.flat [k], u.oneCell' = true := intE.flat_one [k]
  have done : ∀ v' w', (Builtin.append_ #[44, 44] o.type #[.slice a0 n c, .slice (some ad) 1 1]).run Tryz.prog w = .ok v' w' → (∃ g off c', v' = .slice (some ⟨g, off, none⟩) (n + 1) c' ∧ IOwn w' 0 (.slice (some ⟨g, off, none⟩) (n + 1) c') (n + 1) (l ++ [k]) ∧ w.grownBy w' (Value.ownBlock (.slice a0 n c)) ∧ (Value.ownBlock (.slice a0 n c) = some g ∨ w.heap.size ≤ g)) → Oper.wp Tryz.prog o a w K Q := by
    rintro v' w' hrun ⟨g, off, c', rfl, g1, g2, g3⟩
    unfold Oper.wp
    simp [execOp, ho, resolve, invoke, builtin, hs, hx, hrun, Result.andThen]
    exact h g off c' w' g1 g2 g3
  have hlen := ht.1
  rcases ht.2 with ⟨e0, hn0⟩ | ⟨b, off, cap, cur, e0, hb0, hcur, hnc, hcm, hle, hcs⟩
  · simp only [Value.slice.injEq] at e0
    obtain ⟨rfl, rfl, rfl⟩ := e0
    have hl0 : l = [] := List.eq_nil_of_length_eq_zero hlen
    subst hl0
    obtain ⟨v', w', hrun, hown', hg, _, hwh⟩ := run_append_own_at (P := Tryz.prog) w 0 44 o.type 3 i0 z intE.size 8 intET.under hi hz0 hz1 hz2 hz3 intE.pos (.slice none 0 0) 0 [] (World.ownsRow_nil w 0 3 intE.size) ad 1 1 (intE.flat [k]) (intE.flat_len [k]) hr.news hone (by unfold maxLen; omega) (by omega) (Nat.zero_le _)
    have hso : SOwn intE 3 w' 0 v' 1 [k] := by have h9 := hown'; simp only [Nat.zero_add, List.nil_append] at h9; exact h9
    obtain ⟨g, cap, rfl, _⟩ := hso.some (fun e => by
      subst e
      rcases hso.2 with ⟨_, h7⟩ | ⟨g, cap, cur, h7, _⟩
      · omega
      · cases h7)
    refine done _ w' hrun ⟨g, 0, cap, rfl, IOwn.of hso, hg, .inr ?_⟩
    rcases hwh with e | e
    · cases e
    · exact Nat.le_of_eq (Option.some.inj e).symm
  · simp only [Value.slice.injEq] at e0
    obtain ⟨rfl, _, rfl⟩ := e0
    by_cases hroom : n + 1 ≤ c
    · have hlt : off + n < cur.size := by omega
      have hcell : ∀ j, j < (intE.flat [k]).length → (w.cell? ⟨b, off + n * i0.size + j, none⟩).isSome = true := fun j hj => by
        have hj0 : j = 0 := by simp [intE, Elem.flat] at hj; exact hj
        subst hj0
        unfold World.cell?
        rw [hz1]
        simp only [show intE.size = 1 from rfl, Nat.mul_one, Nat.add_zero, hcur]
        simp [hlt]
      have hfr : ∀ j, j < (intE.flat [k]).length → w.frozen? ⟨b, off + n * i0.size + j, none⟩ = false := fun j hj => by
        unfold World.frozen?
        simp only [hcur]
        simp
      have hrun := run_append_room_cells (P := Tryz.prog) w 44 o.type 3 i0 intET.under hi b off n c ad 1 1 (intE.flat [k]) (by rw [hz1]; exact intE.flat_len [k]) hr.news hone (by omega) hcell hfr
      have hwe : w.setCells b (off + n * i0.size) (intE.flat [k]) = w.setCell ⟨b, off + n, none⟩ (.int .i64 k) := by
        rw [hz1, show intE.size = 1 from rfl, Nat.mul_one]
        rfl
      rw [hwe] at hrun
      refine done _ _ hrun ⟨b, off, c, rfl, ⟨by simp [hlen], .inr ⟨b, off, c, cur.set (off + n) (.int .i64 k) hlt, rfl, Nat.zero_le _, ?_, hroom, hcm, by simpa using hle, fun i z hz => ?_⟩⟩, gb_set rfl, .inl rfl⟩
      · rw [setCell_eq_setRow w b (off + n) _ 3 (0, 0) _ hcur, setRow_heap w b _ _ 3 _ hcur]
        simp [Array.setIfInBounds, hlt]
      · rcases Nat.lt_or_ge i n with hi' | hi'
        · rw [List.getElem?_append_left (by omega)] at hz
          rw [Array.getElem?_set_ne _ (by omega)]
          exact hcs i z hz
        · rw [List.getElem?_append_right (by omega)] at hz
          have h0 : i - l.length = 0 := by
            have := (List.getElem?_eq_some_iff.1 hz).1
            simp at this
            omega
          rw [h0] at hz
          simp at hz
          subst hz
          have : i = n := by omega
          subst this
          rw [Array.getElem?_set_self]
    · have hc0 : c = n := by omega
      subst hc0
      have holds : ∀ j u, (intE.flat l)[j]? = some u → w.cell? ((⟨b, off, none⟩ : Addr).add j) = some u := fun j u hj => by
        rw [iflat] at hj
        obtain ⟨y, hy, rfl⟩ := Option.map_eq_some_iff.1 hj
        have h6 : w.cell? ⟨b, off + j, none⟩ = some (.int .i64 y) := by
          rw [cell_of_row w b (off + j) _ _ _ hcur]
          exact hcs j y hy
        rw [← h6]
        congr 1
        unfold Addr.add
        by_cases h0 : j = 0
        · rw [h0]; rfl
        · simp [h0]
      obtain ⟨v', w', hrun, hown', hg⟩ := run_append_arg_grows (P := Tryz.prog) w 44 o.type 3 i0 z intE.size 8 intET.under hi hz0 hz1 hz2 hz3 intE.pos ⟨b, off, none⟩ c c (intE.flat l) (by rw [intE.flat_len, hlen]) holds ad 1 1 (intE.flat [k]) (intE.flat_len [k]) hr.news (by omega) (by unfold maxLen; omega) (by omega)
      have hso : SOwn intE 3 w' w.heap.size v' (c + 1) (l ++ [k]) := by
        have h9 := hown'
        rw [← intE.flat_app] at h9
        exact h9
      obtain ⟨g, cap, rfl, hge, _⟩ := hso.some (fun e => by
        subst e
        have h8 := hso.len
        rcases hso.2 with ⟨_, h7⟩ | ⟨g, cap, cur, h7, _⟩
        · omega
        · cases h7)
      exact done _ w' hrun ⟨g, 0, cap, rfl, (IOwn.of hso).base (Nat.zero_le _), gb_any hg _, .inr hge⟩
end Go.Proofs.YtgpgkpciajajcaaGreatDoor

/- Package wal: a log over its disk; roll. -/
namespace Go.Proofs.YtgpgkpciajajcaaGreatDoor
open Go.RowKit Go.Maps Go.Sort
set_option linter.unusedVariables false
set_option maxRecDepth 20000

/-- A log's struct in block p; its own blocks are among A. -/
def WalA (w : World) (p d : Nat) (dir cp : ByteArray) (segs : List Nat) (op : Nat) (A : Nat → Prop) : Prop := ∃ a c, WRow w p d dir cp (.slice a segs.length c) (op : Int) ∧ IOwn w 0 (.slice a segs.length c) segs.length (nI segs) ∧ A p ∧ (∀ y, a = some y → A y.block ∧ y.block ≠ p)
/-- A log over its disk. -/
structure LogAt (w : World) (base d mb n : Nat) (x : DSt) (p : Nat) (dir cp : ByteArray) (segs : List Nat) (op : Nat) (A B : Nat → Prop) : Prop where
  disk : DS w base d mb n x B
  wal : WalA w p d dir cp segs op A
  apart : ∀ k, A k → ¬ B k
  ltB : ∀ k, B k → k < w.heap.size
  ltA : ∀ k, A k → k < w.heap.size
/-- From one world to another: only the log's blocks and the disk's are written. -/
structure Step2 (w w' : World) (A B A' B' : Nat → Prop) : Prop where
  kept : Kept w w' (fun k => A k ∨ B k)
  oldB : ∀ k, k < w.heap.size → B' k → B k
  oldA : ∀ k, k < w.heap.size → A' k → A k
theorem Step2.trans {w w1 w2 : World} {A B A1 B1 A2 B2 : Nat → Prop} (h : Step2 w w1 A B A1 B1) (h' : Step2 w1 w2 A1 B1 A2 B2) : Step2 w w2 A B A2 B2 :=
  ⟨h.kept.trans h'.kept (fun k hk hx => hx.elim (fun h1 => .inl (h.oldA k hk h1)) (fun h1 => .inr (h.oldB k hk h1))), fun k hk hb => h.oldB k hk (h'.oldB k (Nat.lt_of_lt_of_le hk h.kept.size) hb), fun k hk ha => h.oldA k hk (h'.oldA k (Nat.lt_of_lt_of_le hk h.kept.size) ha)⟩
theorem Step2.grown {w w' : World} (A B : Nat → Prop) (h : w.grownBy w' none) : Step2 w w' A B A B := ⟨Kept.of h (fun k hk => by cases hk), fun k _ hb => hb, fun k _ ha => ha⟩
theorem WalA.kept {w w' : World} {p d : Nat} {dir cp : ByteArray} {segs : List Nat} {op : Nat} {A X : Nat → Prop} (h : WalA w p d dir cp segs op A) (hg : Kept w w' X) (hX : ∀ k, A k → ¬ X k) : WalA w' p d dir cp segs op A := by
  obtain ⟨a, c, h1, h2, h3, h4⟩ := h
  refine ⟨a, c, h1.of_block (hg.block p h1.lt (hX p h3)), h2.keptK hg (fun k hk => ?_), h3, h4⟩
  cases a with
  | none => cases hk
  | some y =>
    have e : y.block = k := Option.some.inj hk
    subst e
    exact hX _ (h4 y rfl).1
theorem LogAt.grown {w w' : World} {base d mb n : Nat} {x : DSt} {p : Nat} {dir cp : ByteArray} {segs : List Nat} {op : Nat} {A B : Nat → Prop} (h : LogAt w base d mb n x p dir cp segs op A B) (hg : w.grownBy w' none) : LogAt w' base d mb n x p dir cp segs op A B :=
  ⟨DV.kept h.disk hg, h.wal.kept (Kept.of hg (X := fun _ => False) (fun k hk => by cases hk)) (fun _ _ h => h), h.apart, fun k hk => Nat.lt_of_lt_of_le (h.ltB k hk) hg.size, fun k hk => Nat.lt_of_lt_of_le (h.ltA k hk) hg.size⟩
theorem DS.bound {w : World} {base d mb n : Nat} {x : DSt} {B : Nat → Prop} (h : DS w base d mb n x B) : DS w base d mb n x (fun k => B k ∧ k < w.heap.size) := by
  obtain ⟨F, G, hd, hv, hb⟩ := h
  refine ⟨F, G, hd, hv, fun k hk => ⟨hb k hk, ?_⟩⟩
  rcases hk with e | e | ⟨s, b, hs, e | ⟨y, hy, e⟩⟩
  · subst e; exact hd.row.lt
  · subst e; exact hd.map.lt
  · subst e; exact (hd.lt s _ hs).1
  · subst e; exact (hd.slc hs hy).2.1
/-- The disk was written. -/
theorem LogAt.write {w w' : World} {base d mb n n' : Nat} {x x' : DSt} {p : Nat} {dir cp : ByteArray} {segs : List Nat} {op : Nat} {A B B' : Nat → Prop} (h : LogAt w base d mb n x p dir cp segs op A B) (hd : DS w' base d mb n' x' B') (hs : Step w w' B B') :
    ∃ B'', LogAt w' base d mb n' x' p dir cp segs op A B'' ∧ Step2 w w' A B A B'' := by
  refine ⟨fun k => B' k ∧ k < w'.heap.size, ⟨hd.bound, h.wal.kept hs.1 (fun k ha hb => h.apart k ha hb), fun k ha hb => ?_, fun k hb => hb.2, fun k ha => Nat.lt_of_lt_of_le (h.ltA k ha) hs.1.size⟩, ⟨hs.1.mono (fun k _ hb => .inr hb), fun k hk hb => hs.2 k hk hb.1, fun k _ ha => ha⟩⟩
  exact h.apart k ha (hs.2 k (h.ltA k ha) hb.1)
/-- The struct's number was written. -/
theorem LogAt.setOpen {w : World} {base d mb n : Nat} {x : DSt} {p : Nat} {dir cp : ByteArray} {segs : List Nat} {op : Nat} {A B : Nat → Prop} (h : LogAt w base d mb n x p dir cp segs op A B) (op' : Nat) (u : Int) (hu : u = (op' : Int)) :
    LogAt (w.setCell ⟨p, 4, none⟩ (.int .i64 u)) base d mb n x p dir cp segs op' A B ∧ Step2 w (w.setCell ⟨p, 4, none⟩ (.int .i64 u)) A B A B := by
  subst hu
  have hg : w.grownBy (w.setCell ⟨p, 4, none⟩ (.int .i64 (op' : Int))) (some p) := gb_set rfl
  obtain ⟨a, c, h1, h2, h3, h4⟩ := h.wal
  have hk : Kept w (w.setCell ⟨p, 4, none⟩ (.int .i64 (op' : Int))) (fun k => k = p) := Kept.of hg (fun k hk => by cases hk; rfl)
  refine ⟨⟨h.disk.others hk (fun k hb e => by subst e; exact h.apart _ h3 hb), ⟨a, c, (h1.set 4 (.int .i64 (op' : Int))).congr (five rfl rfl rfl rfl rfl), IOwn.kept h2 hg ?_, h3, h4⟩, h.apart, fun k hb => Nat.lt_of_lt_of_le (h.ltB k hb) hg.size, fun k ha => Nat.lt_of_lt_of_le (h.ltA k ha) hg.size⟩, ⟨hk.mono (fun k _ e => by subst e; exact .inl h3), fun k _ hb => hb, fun k _ ha => ha⟩⟩
  cases a with
  | none => exact .inl rfl
  | some y => exact .inr (fun e => (h4 y rfl).2 (Option.some.inj e))
/-- What roll makes of the disk and of the open segment. -/
def rollX (x : DSt) (dir : ByteArray) (op : Nat) : DSt × Nat := match x.V (segN dir op) with
  | none => (x, op)
  | some q => if 4096 ≤ q.1.length then ((x.sync (segN dir op)).2, op + 1) else (x, op)
set_option maxHeartbeats 8000000 in
theorem w_roll (base d mb n : Nat) (x : DSt) (p : Nat) (dir cp : ByteArray) (segs : List Nat) (op : Nat) (A B : Nat → Prop) (w : World) (hdir : dirB dir = true) (ht : Tab w) (h : LogAt w base d mb n x p dir cp segs op A B) (hon : x.off = false) (hset : x.set = false) (hok : x.ok) (hop : op < 99999999) :
    Calls Tryz.prog 99 #[.pointer (some ⟨p, 0, none⟩)] w fun e w' => e = .returned (.tuple #[]) ∧ ∃ n' B', n' ≤ n ∧ LogAt w' base d mb n' (rollX x dir op).1 p dir cp segs (rollX x dir op).2 A B' ∧ Step2 w w' A B A B' := by
  have hds : dir.size ≤ 32 := by simp only [dirB, Bool.and_eq_true, decide_eq_true_eq] at hdir; exact hdir.2
  have HL : Hid (LogAt w base d mb n x p dir cp segs op A B) := h
  have HT : Hid (Tab w) := ht
  have hnm := seg_name hdir op
  obtain ⟨a, c, hW, _⟩ := h.wal
  obtain ⟨c0, c1, c2, c3, c4⟩ := hW.cells
  have HW : Hid (WRow w p d dir cp (.slice a segs.length c) (op : Int)) := hW
  have HGD : Hid (w.grownBy w.drew none) := gb_drew (World.grownBy.refl _ _)
  have HSG : Hid (Calls Tryz.prog 105 #[.pointer (some ⟨p, 0, none⟩), .int .i64 (op : Int)] w.drew fun e w' => e = .returned (.string (segN dir op)) ∧ w.drew.grownBy w' none) := w_segment p d dir cp _ _ op (by omega) _ (by omega) (ht.grown HGD.out) (hW.kept HGD.out (by simp))
  have HRD : Hid (∀ w1, w.grownBy w1 none → Calls Tryz.prog 133 #[.pointer (some ⟨d, 0, none⟩), .string (segN dir op)] w1 fun e w' => ∃ a c, e = .returned (.tuple #[.slice a (x.read (segN dir op)).1.length c, .int .i64 (x.read (segN dir op)).2]) ∧ SOwn byteE 5 w' w1.heap.size (.slice a (x.read (segN dir op)).1.length c) (x.read (segN dir op)).1.length (x.read (segN dir op)).1 ∧ (∀ z ∈ (x.read (segN dir op)).1, 0 ≤ z ∧ z ≤ 255) ∧ (x.read (segN dir op)).1.length ≤ 4194304 ∧ w1.grownBy w' none) := fun w1 hg => x_read base d mb n x B (segN dir op) w1 (DV.kept h.disk hg) hnm
  clear h hW c1 c2 c3
  go_enter Tryz.func99, Tryz.ntmps99
  go_upto_region 0 with fail
  go_cut [2, 3] from 4 (fun t2 t3 wc => ∃ a c, t2 = .slice a (x.read (segN dir op)).1.length c ∧ t3 = .int .i64 (x.read (segN dir op)).2 ∧ w.grownBy wc none)
  case first =>
    go_region_held3 (fun W => W.cell? ⟨p, 0, none⟩ = some (.pointer (some ⟨d, 0, none⟩)) ∧ W.cell? ⟨p, 4, none⟩ = some (.int .i64 (op : Int))) (go_keep) (first
      | (go_at_call 105; refine HSG.out.mono ?_; rintro e w1 ⟨rfl, hg1⟩; have HG1 : Hid (w.grownBy w1 none) := HGD.out.trans hg1; have c0' := (HW.out.kept HG1.out (by simp)).cells.1; have c4' := (HW.out.kept HG1.out (by simp)).cells.2.2.2.2; clear hg1)
      | (go_at_call 133; refine (HRD.out _ HG1.out).mono ?_; rintro e w2 ⟨a2, k2, rfl, _, _, _, hg2⟩; have HG2 : Hid (w.grownBy w2 none) := HG1.out.trans hg2; have c0'' := (HW.out.kept HG2.out (by simp)).cells.1; have c4'' := (HW.out.kept HG2.out (by simp)).cells.2.2.2.2; clear hg2))
    all_goals (go_wp2; go_meet)
    all_goals exact ⟨a2, k2, rfl, rfl, HG2.out⟩
  case rest =>
    obtain ⟨a2, k2, rfl, rfl, hgc⟩ := hcut
    rename World => w0
    have hLc := HL.out.grown hgc
    have HGc : Hid (w.grownBy w0 none) := hgc
    have HLc : Hid (LogAt w0 base d mb n x p dir cp segs op A B) := hLc
    have HTc : Hid (Tab w0) := HT.out.grown hgc
    have HD0 := fun w => w_done0 w
    cases hV : x.V (segN dir op) with
    | none =>
      have e1 : x.read (segN dir op) = ([], 62) := by unfold DSt.read; rw [hon, hV]; rfl
      have HX : Hid (rollX x dir op = (x, op)) := by show _ = _; unfold rollX; rw [hV]
      rw [e1]
      clear hgc hLc hV e1 HSG HRD
      go_wp2
      refine bodyPost_ret (results_none rfl _ _ _) rfl ?_
      rw [HX.out]
      exact ⟨rfl, n, B, Nat.le_refl _, HLc.out, Step2.grown A B HGc.out⟩
    | some q =>
      have e1 : x.read (segN dir op) = (q.1, 0) := by unfold DSt.read; rw [hon, hV]; rfl
      rw [e1]
      obtain ⟨L, eL⟩ : ∃ L, L = q.1.length := ⟨_, rfl⟩
      rw [← eL]
      by_cases hbig : 4096 ≤ L
      · have HX : Hid (rollX x dir op = ((x.sync (segN dir op)).2, op + 1)) := by show _ = _; unfold rollX; rw [hV]; exact if_pos (by rw [← eL]; exact hbig)
        have HS1 : Hid ((x.sync (segN dir op)).1 = 0) := by show _ = _; unfold DSt.sync; rw [hon, hV]; unfold DSt.wr; simp [hset]
        have qb : decide ((4096 : Int) ≤ (L : Int)) = true := by simp; omega
        have HSY : Hid (∀ w1, w0.grownBy w1 none → Calls Tryz.prog 104 #[.pointer (some ⟨d, 0, none⟩), .string (segN dir op)] w1 fun e w' => e = .returned (.int .i64 0) ∧ ∃ n' B', n' ≤ n ∧ LogAt w' base d mb n' (x.sync (segN dir op)).2 p dir cp segs op A B' ∧ Step2 w0 w' A B A B') := fun w1 hg => by
          have h1 := HLc.out.grown hg
          refine (x_syncN base d mb n x B (segN dir op) w1 h1.disk hok hnm).mono ?_
          rintro e w' ⟨rfl, n', B', hn', hd', hst⟩
          obtain ⟨B'', h2, h3⟩ := h1.write hd' hst
          exact ⟨by rw [HS1.out], n', B'', hn', h2, (Step2.grown A B hg).trans h3⟩
        have HCELL : Hid (∀ w2, (∃ n' B', n' ≤ n ∧ LogAt w2 base d mb n' (x.sync (segN dir op)).2 p dir cp segs op A B' ∧ Step2 w0 w2 A B A B') → w2.cell? ⟨p, 0, none⟩ = some (.pointer (some ⟨d, 0, none⟩)) ∧ w2.cell? ⟨p, 4, none⟩ = some (.int .i64 (op : Int))) := by
          rintro w2 ⟨n', B', _, h2, h3⟩
          obtain ⟨a2, c2, hW2, _⟩ := h2.wal
          exact ⟨hW2.cells.1, hW2.cells.2.2.2.2⟩
        obtain ⟨a3, c3, hW3, _⟩ := HLc.out.wal
        have HGD2 : Hid (w0.grownBy w0.drew none) := gb_drew (World.grownBy.refl _ _)
        have HSG2 : Hid (Calls Tryz.prog 105 #[.pointer (some ⟨p, 0, none⟩), .int .i64 (op : Int)] w0.drew fun e w' => e = .returned (.string (segN dir op)) ∧ w0.drew.grownBy w' none) := w_segment p d dir cp _ _ op (by omega) _ (by omega) (HTc.out.grown HGD2.out) (hW3.kept HGD2.out (by simp))
        have HW3 : Hid (WRow w0 p d dir cp (.slice a3 segs.length c3) (op : Int)) := hW3
        have y0 := hW3.cells.1
        have y4 := hW3.cells.2.2.2.2
        clear hgc hLc hV e1 HSG HRD eL hW3
        go_wp2_with fail
        refine (HD0 _).mono ?_
        rintro e w1 ⟨rfl, rfl⟩
        go_upto_region 4 with fail
        go_cut [] from 25 (fun wx => ∃ n' B', n' ≤ n ∧ LogAt wx base d mb n' (x.sync (segN dir op)).2 p dir cp segs op A B' ∧ Step2 w0 wx A B A B')
        case first =>
          go_region_held3 (fun W => W.cell? ⟨p, 0, none⟩ = some (.pointer (some ⟨d, 0, none⟩)) ∧ W.cell? ⟨p, 4, none⟩ = some (.int .i64 (op : Int))) (go_keep) (first
            | (go_at_call 105; refine HSG2.out.mono ?_; rintro e w1 ⟨rfl, hg1⟩; have HG1 : Hid (w0.grownBy w1 none) := HGD2.out.trans hg1; have c0' := (HW3.out.kept HG1.out (by simp)).cells.1; have c4' := (HW3.out.kept HG1.out (by simp)).cells.2.2.2.2; clear hg1)
            | (go_at_call 104; refine (HSY.out _ HG1.out).mono ?_; rintro e w2 ⟨rfl, hx2⟩; have HX2 : Hid (∃ n' B', n' ≤ n ∧ LogAt w2 base d mb n' (x.sync (segN dir op)).2 p dir cp segs op A B' ∧ Step2 w0 w2 A B A B') := hx2; obtain ⟨c0'', c4''⟩ := HCELL.out w2 hx2; clear hx2)
            | (go_at_call 103; refine (HD0 _).mono ?_; rintro e w3 ⟨rfl, rfl⟩))
          all_goals (go_wp2; go_meet)
          all_goals exact HX2.out
        case rest =>
          obtain ⟨n', B', hn', hL', hS'⟩ := hcut
          obtain ⟨a4, c4', hW4, _⟩ := hL'.wal
          have x4 := hW4.cells.2.2.2.2
          have z4 := hW4.frozen 4
          have HFIN : Hid (LogAt (wc.setCell ⟨p, 4, none⟩ (.int .i64 ((op : Int) + 1))) base d mb n' (x.sync (segN dir op)).2 p dir cp segs (op + 1) A B' ∧ Step2 wc (wc.setCell ⟨p, 4, none⟩ (.int .i64 ((op : Int) + 1))) A B' A B') := hL'.setOpen (op + 1) _ (by omega)
          have HS' : Hid (Step2 w0 wc A B A B') := hS'
          clear hL' hS' hW4
          go_wp2
          go_end0
          rw [HX.out]
          exact ⟨rfl, n', B', hn', HFIN.out.1, ((Step2.grown A B HGc.out).trans HS'.out).trans HFIN.out.2⟩
      · have HX : Hid (rollX x dir op = (x, op)) := by show _ = _; unfold rollX; rw [hV]; exact if_neg (by rw [← eL]; exact hbig)
        have qb : decide ((4096 : Int) ≤ (L : Int)) = false := by simp; omega
        clear hgc hLc hV e1 HSG HRD eL
        go_wp2_with fail
        refine (HD0 _).mono ?_
        rintro e w1 ⟨rfl, rfl⟩
        go_wp2
        go_end0
        rw [HX.out]
        exact ⟨rfl, n, B, Nat.le_refl _, HLc.out, Step2.grown A B HGc.out⟩
end Go.Proofs.YtgpgkpciajajcaaGreatDoor

/- Package wal: write. -/
namespace Go.Proofs.YtgpgkpciajajcaaGreatDoor
open Go.RowKit Go.Maps Go.Sort
set_option linter.unusedVariables false
set_option maxRecDepth 20000

/-- The struct's segments were written. -/
theorem LogAt.addSeg {w w2 : World} {base d mb n : Nat} {x : DSt} {p : Nat} {dir cp : ByteArray} {segs : List Nat} {op g off c2 : Nat} {A B : Nat → Prop} {a : Option Addr} {c : Nat} {o : Obj} (h : LogAt w base d mb n x p dir cp segs op A B) (hW : WRow w p d dir cp (.slice a segs.length c) (op : Int)) (hso : IOwn w 0 (.slice a segs.length c) segs.length (nI segs)) (hA : ∀ y, a = some y → A y.block ∧ y.block ≠ p) (hAp : A p) (ho2 : IOwn w2 0 (.slice (some ⟨g, off, none⟩) (segs.length + 1) c2) (segs.length + 1) (nI segs ++ [(op : Int)])) (hg2 : (w.drew.alloc o).grownBy w2 (Value.ownBlock (.slice a segs.length c))) (hgg : Value.ownBlock (.slice a segs.length c) = some g ∨ (w.drew.alloc o).heap.size ≤ g) :
    ∃ A', LogAt (w2.setCell ⟨p, 3, none⟩ (.slice (some ⟨g, off, none⟩) (segs.length + 1) c2)) base d mb n x p dir cp (segs ++ [op]) op A' B ∧ Step2 w (w2.setCell ⟨p, 3, none⟩ (.slice (some ⟨g, off, none⟩) (segs.length + 1) c2)) A B A' B := by
  have hza : (w.drew.alloc o).heap.size = w.heap.size + 1 := Array.size_push _
  have hgs : w2.grownBy (w2.setCell ⟨p, 3, none⟩ (.slice (some ⟨g, off, none⟩) (segs.length + 1) c2)) (some p) := gb_set rfl
  have hg0 : w.grownBy (w.drew.alloc o) none := (gb_drew (World.grownBy.refl w none)).trans (World.grownBy_alloc _ o none)
  have hown : ∀ k, Value.ownBlock (.slice a segs.length c) = some k → A k ∧ k ≠ p := fun k hk => by
    cases a with
    | none => cases hk
    | some y => have e : y.block = k := Option.some.inj hk; subst e; exact hA y rfl
  have hpne : some p ≠ Value.ownBlock (.slice a segs.length c) := fun e => (hown p e.symm).2 rfl
  have hW2 : WRow w2 p d dir cp (.slice a segs.length c) (op : Int) := (hW.kept hg0 (by simp)).kept hg2 hpne
  have hgp : g ≠ p := by
    rcases hgg with h1 | h1
    · exact (hown g h1).2
    · have := hW.lt; omega
  have hgl : g < w2.heap.size := (ho2.block g rfl).2
  have hk : Kept w (w2.setCell ⟨p, 3, none⟩ (.slice (some ⟨g, off, none⟩) (segs.length + 1) c2)) A := by
    refine ((Kept.of hg0 (fun k hk => by cases hk)).trans (Kept.of hg2 (X := A) (fun k hk => (hown k hk).1)) (fun k _ hk => hk)).trans (Kept.of hgs (X := A) (fun k hk => by cases hk; exact hAp)) (fun k _ hk => hk)
  have e1 : (segs ++ [op]).length = segs.length + 1 := by simp
  refine ⟨fun k => A k ∨ k = g, ⟨?_, ⟨some ⟨g, off, none⟩, c2, ?_, ?_, .inl hAp, fun y hy => by cases hy; exact ⟨.inr rfl, hgp⟩⟩, ?_, fun k hb => Nat.lt_of_lt_of_le (h.ltB k hb) hk.size, fun k ha => ?_⟩, ⟨hk.mono (fun k _ ha => .inl ha), fun k _ hb => hb, fun k hlt ha => ?_⟩⟩
  · exact h.disk.others hk (fun k hb ha => h.apart k ha hb)
  · rw [e1]
    exact (hW2.set 3 _).congr (five rfl rfl rfl rfl rfl)
  · rw [e1, nI_app]
    exact IOwn.kept ho2 hgs (.inr (fun e => hgp (Option.some.inj e)))
  · rintro k (ha | rfl) hb
    · exact h.apart k ha hb
    · rcases hgg with h1 | h1
      · exact h.apart k (hown k h1).1 hb
      · have := h.ltB k hb; omega
  · rcases ha with ha | rfl
    · exact Nat.lt_of_lt_of_le (h.ltA k ha) hk.size
    · exact Nat.lt_of_lt_of_le hgl hgs.size
  · rcases ha with ha | rfl
    · exact ha
    · rcases hgg with h1 | h1
      · exact (hown k h1).1
      · omega
/-- The numbers of the segments behind a write. -/
def segsX (segs : List Nat) (op : Nat) : List Nat := if isOpen segs op = true then segs else segs ++ [op]
set_option maxHeartbeats 8000000 in
theorem w_write (base d mb n : Nat) (x : DSt) (p : Nat) (dir cp : ByteArray) (segs : List Nat) (op : Nat) (A B : Nat → Prop) (ad : Addr) (zs : List Int) (M cd : Nat) (w : World) (hdir : dirB dir = true) (ht : Tab w) (h : LogAt w base d mb n x p dir cp segs op A B) (hon : x.off = false) (hset : x.set = false) (hok : x.ok) (hop : op < 99999999) (hn : n < 1048576) (hsg : segs.length ≤ 4194304) (hr : SRd byteE w (some ad) zs) (hM : zs.length = M) (hby : ∀ z ∈ zs, 0 ≤ z ∧ z ≤ 255) (hlen : (oldV x.V (segN dir op)).1.length + M ≤ 4194304) (hb : base ≤ w.heap.size) (had : ¬ B ad.block) (hadl : ad.block < w.heap.size) :
    Calls Tryz.prog 100 #[.pointer (some ⟨p, 0, none⟩), .slice (some ad) M cd] w fun e w' => e = .returned (.tuple #[]) ∧ ∃ n' A' B', n' ≤ n + 1 ∧ LogAt w' base d mb n' (x.append (segN dir op) zs).2 p dir cp (segsX segs op) op A' B' ∧ Step2 w w' A B A' B' := by
  have hds : dir.size ≤ 32 := by simp only [dirB, Bool.and_eq_true, decide_eq_true_eq] at hdir; exact hdir.2
  have HL : Hid (LogAt w base d mb n x p dir cp segs op A B) := h
  have hnm := seg_name hdir op
  obtain ⟨a, c, hW, _⟩ := h.wal
  obtain ⟨c0, c1, c2, c3, c4⟩ := hW.cells
  have HW : Hid (WRow w p d dir cp (.slice a segs.length c) (op : Int)) := hW
  have HGD : Hid (w.grownBy w.drew none) := gb_drew (World.grownBy.refl _ _)
  have HSG : Hid (Calls Tryz.prog 105 #[.pointer (some ⟨p, 0, none⟩), .int .i64 (op : Int)] w.drew fun e w' => e = .returned (.string (segN dir op)) ∧ w.drew.grownBy w' none) := w_segment p d dir cp _ _ op (by omega) _ (by omega) (ht.grown HGD.out) (hW.kept HGD.out (by simp))
  have HA1 : Hid ((x.append (segN dir op) zs).1 = 0) := by show _ = _; unfold DSt.append; rw [hon]; unfold DSt.wr; simp [hset]
  have hBd : B d := by obtain ⟨F, G, _, _, hb⟩ := h.disk; exact hb d (.inl rfl)
  have hBm : B mb := by obtain ⟨F, G, _, _, hb⟩ := h.disk; exact hb mb (.inr (.inl rfl))
  have HAP : Hid (∀ w1, w.grownBy w1 none → Calls Tryz.prog 134 #[.pointer (some ⟨d, 0, none⟩), .string (segN dir op), .slice (some ad) M cd] w1 fun e w' => e = .returned (.int .i64 0) ∧ ∃ n' B', n' ≤ n + 1 ∧ LogAt w' base d mb n' (x.append (segN dir op) zs).2 p dir cp segs op A B' ∧ Step2 w w' A B A B') := fun w1 hg => by
    have h1 := HL.out.grown hg
    refine (x_append base d mb n x B (segN dir op) ad zs M cd w1 h1.disk hok hnm hn (hr.grown hg (by simp)) hM hby hlen (Nat.le_trans hb hg.size) (fun e => had (e ▸ hBm)) (fun e => had (e ▸ hBd))).mono ?_
    rintro e w' ⟨rfl, n', B', hn', hd', hst⟩
    obtain ⟨B'', h2, h3⟩ := h1.write hd' hst
    exact ⟨by rw [HA1.out], n', B'', hn', h2, (Step2.grown A B hg).trans h3⟩
  have HCELL : Hid (∀ w2, (∃ n' B', n' ≤ n + 1 ∧ LogAt w2 base d mb n' (x.append (segN dir op) zs).2 p dir cp segs op A B' ∧ Step2 w w2 A B A B') → w2.cell? ⟨p, 0, none⟩ = some (.pointer (some ⟨d, 0, none⟩)) ∧ w2.cell? ⟨p, 4, none⟩ = some (.int .i64 (op : Int))) := by
    rintro w2 ⟨n', B', _, h2, h3⟩
    obtain ⟨a2, c2, hW2, _⟩ := h2.wal
    exact ⟨hW2.cells.1, hW2.cells.2.2.2.2⟩
  clear h hW c1 c2 c3 hr hby hlen had hadl hBd hBm hM
  go_enter Tryz.func100, Tryz.ntmps100
  go_upto_region 0 with fail
  go_cut [4] from 5 (fun t4 wc => t4 = .int .i64 0 ∧ ∃ n' B', n' ≤ n + 1 ∧ LogAt wc base d mb n' (x.append (segN dir op) zs).2 p dir cp segs op A B' ∧ Step2 w wc A B A B')
  case first =>
    go_region_held3 (fun W => W.cell? ⟨p, 0, none⟩ = some (.pointer (some ⟨d, 0, none⟩)) ∧ W.cell? ⟨p, 4, none⟩ = some (.int .i64 (op : Int))) (go_keep) (first
      | (go_at_call 105; refine HSG.out.mono ?_; rintro e w1 ⟨rfl, hg1⟩; have HG1 : Hid (w.grownBy w1 none) := HGD.out.trans hg1; have c0' := (HW.out.kept HG1.out (by simp)).cells.1; have c4' := (HW.out.kept HG1.out (by simp)).cells.2.2.2.2; clear hg1)
      | (go_at_call 134; refine (HAP.out _ HG1.out).mono ?_; rintro e w2 ⟨rfl, hx2⟩; have HX2 : Hid (∃ n' B', n' ≤ n + 1 ∧ LogAt w2 base d mb n' (x.append (segN dir op) zs).2 p dir cp segs op A B' ∧ Step2 w w2 A B A B') := hx2; obtain ⟨c0'', c4''⟩ := HCELL.out w2 hx2; clear hx2))
    all_goals (go_wp2; go_meet)
    all_goals exact ⟨rfl, HX2.out⟩
  case rest =>
    obtain ⟨rfl, n', B', hn', hL', hS'⟩ := hcut
    have HL' : Hid (LogAt wc base d mb n' (x.append (segN dir op) zs).2 p dir cp segs op A B') := hL'
    have HS' : Hid (Step2 w wc A B A B') := hS'
    obtain ⟨a4, k4, hW4, hso4, hA4, hB4⟩ := hL'.wal
    have HD0 := fun w => w_done0 w
    have HHF : Hid (Calls Tryz.prog 101 #[.pointer (some ⟨p, 0, none⟩)] wc fun e w' => e = .returned (.bool (isOpen segs op)) ∧ ∃ k, w' = wc.drewN k) := w_hasFile p d dir cp a4 k4 segs op wc hW4 hso4.rd (by omega)
    have HW4 : Hid (WRow wc p d dir cp (.slice a4 segs.length k4) (op : Int)) := hW4
    have HSO4 : Hid (IOwn wc 0 (.slice a4 segs.length k4) segs.length (nI segs)) := hso4
    have HA4 : Hid (A p ∧ ∀ y, a4 = some y → A y.block ∧ y.block ≠ p) := ⟨hA4, hB4⟩
    clear hL' hS' hW4 hso4 hA4 hB4 HSG HAP
    go_wp2_with fail
    refine HHF.out.mono ?_
    rintro e w5 ⟨rfl, kq, rfl⟩
    obtain ⟨wk, ewk⟩ : ∃ wk, wk = wc.drewN kq := ⟨_, rfl⟩
    have hgk : wc.grownBy wk none := by rw [ewk]; exact gb_drewN wc kq
    have HLk : Hid (LogAt wk base d mb n' (x.append (segN dir op) zs).2 p dir cp segs op A B') := HL'.out.grown hgk
    have HSk : Hid (Step2 w wk A B A B') := HS'.out.trans (Step2.grown A B' hgk)
    have HWk : Hid (WRow wk p d dir cp (.slice a4 segs.length k4) (op : Int)) := HW4.out.kept hgk (by simp)
    have HSOk : Hid (IOwn wk 0 (.slice a4 segs.length k4) segs.length (nI segs)) := IOwn.kept HSO4.out hgk (by cases a4 <;> simp [Value.ownBlock])
    rw [← ewk]
    clear ewk hgk HHF HL' HS' HW4 HSO4
    cases ho : isOpen segs op with
    | true =>
      have HX : Hid (segsX segs op = segs) := by show _ = _; unfold segsX; rw [if_pos ho]
      go_wp2_with fail
      refine (HD0 _).mono ?_
      rintro e w1 ⟨rfl, rfl⟩
      go_wp2
      go_end0
      rw [HX.out]
      exact ⟨rfl, n', A, B', hn', HLk.out, HSk.out⟩
    | false =>
      have HX : Hid (segsX segs op = segs ++ [op]) := by show _ = _; unfold segsX; rw [if_neg (by rw [ho]; simp)]
      have hWd : WRow (wk.alloc (.cells #[.int .i64 (op : Int)] 3)).drew p d dir cp (.slice a4 segs.length k4) (op : Int) := (HWk.out.alloc _).drew
      have x3 := HWk.out.cells.2.2.2.1
      have x4 := HWk.out.cells.2.2.2.2
      have y3 : (wk.alloc (.cells #[.int .i64 (op : Int)] 3)).cell? ⟨p, 3, none⟩ = some (.slice a4 segs.length k4) := hWd.cells.2.2.2.1
      have y4 : (wk.alloc (.cells #[.int .i64 (op : Int)] 3)).cell? ⟨p, 4, none⟩ = some (.int .i64 (op : Int)) := hWd.cells.2.2.2.2
      have HWd : Hid (WRow (wk.alloc (.cells #[.int .i64 (op : Int)] 3)).drew p d dir cp (.slice a4 segs.length k4) (op : Int)) := hWd
      have HOW : Hid (IOwn (wk.alloc (.cells #[.int .i64 (op : Int)] 3)).drew 0 (.slice a4 segs.length k4) segs.length (nI segs)) := IOwn.kept HSOk.out (gb_drew (World.grownBy_alloc wk _ none)) (by cases a4 <;> simp [Value.ownBlock])
      have HPN : Hid (∀ k, Value.ownBlock (.slice a4 segs.length k4) = some k → k ≠ p) := fun k hk => by
        cases a4 with
        | none => cases hk
        | some y => have e : y.block = k := Option.some.inj hk; subst e; exact (HA4.out.2 y rfl).2
      have HIL : Hid (SRd intE (wk.alloc (.cells #[.int .i64 (op : Int)] 3)).drew (some ⟨wk.heap.size, 0, none⟩) [(op : Int)]) := ilit wk.drew [(op : Int)]
      clear hWd ho
      obtain ⟨L, eL⟩ : ∃ L, L = segs.length := ⟨_, rfl⟩
      have EL : Hid (L = segs.length) := eL
      rw [← eL] at x3 y3 hsg
      have HOW2 : Hid (IOwn (wk.alloc (.cells #[.int .i64 (op : Int)] 3)).drew 0 (.slice a4 L k4) L (nI segs)) := by show IOwn _ _ _ _ _; rw [eL]; exact HOW.out
      have HSTEP : Hid (∀ g3 o3 c3 w3, IOwn w3 0 (.slice (some ⟨g3, o3, none⟩) (L + 1) c3) (L + 1) (nI segs ++ [(op : Int)]) → (wk.alloc (.cells #[.int .i64 (op : Int)] 3)).drew.grownBy w3 (Value.ownBlock (.slice a4 L k4)) → (Value.ownBlock (.slice a4 L k4) = some g3 ∨ (wk.alloc (.cells #[.int .i64 (op : Int)] 3)).drew.heap.size ≤ g3) → w3.cell? ⟨p, 3, none⟩ = some (.slice a4 L k4) ∧ w3.frozen? ⟨p, 3, none⟩ = false ∧ ∃ A', LogAt (w3.setCell ⟨p, 3, none⟩ (.slice (some ⟨g3, o3, none⟩) (L + 1) c3)) base d mb n' (x.append (segN dir op) zs).2 p dir cp (segs ++ [op]) op A' B' ∧ Step2 wk (w3.setCell ⟨p, 3, none⟩ (.slice (some ⟨g3, o3, none⟩) (L + 1) c3)) A B' A' B') := by
        show ∀ g3 o3 c3 w3, _
        rw [eL]
        intro g3 o3 c3 w3 ho3 hg3 hgg
        have hW3 := HWd.out.kept hg3 (fun e => HPN.out p e.symm rfl)
        exact ⟨hW3.cells.2.2.2.1, hW3.frozen 3, LogAt.addSeg HLk.out HWk.out HSOk.out HA4.out.2 HA4.out.1 ho3 hg3 hgg⟩
      clear eL
      go_wp2_with fail
      go_region_law (refine step_append_I rfl (.tmp 28) (.tmp 33) rfl a4 L k4 (nI segs) (by simp [Act.eval]) HOW2.out ⟨wk.heap.size, 0, none⟩ (op : Int) (by simp [Act.eval]) HIL.out (by omega) ?_; intro g3 o3 c3 w3 ho3 hg3 hgg; obtain ⟨s3, z3, hx3⟩ := HSTEP.out g3 o3 c3 w3 ho3 hg3 hgg; have HX3 : Hid (∃ A', LogAt (w3.setCell ⟨p, 3, none⟩ (.slice (some ⟨g3, o3, none⟩) (L + 1) c3)) base d mb n' (x.append (segN dir op) zs).2 p dir cp (segs ++ [op]) op A' B' ∧ Step2 wk (w3.setCell ⟨p, 3, none⟩ (.slice (some ⟨g3, o3, none⟩) (L + 1) c3)) A B' A' B') := hx3; clear ho3 hg3 hgg hx3)
      all_goals go_wp2_with fail
      all_goals refine (HD0 _).mono ?_
      all_goals rintro e w1 ⟨rfl, rfl⟩
      all_goals go_wp2
      all_goals go_end0
      all_goals rw [HX.out]
      all_goals (obtain ⟨A', h1, h2⟩ := HX3.out; exact ⟨rfl, n', A', B', hn', h1, HSk.out.trans h2⟩)
end Go.Proofs.YtgpgkpciajajcaaGreatDoor

