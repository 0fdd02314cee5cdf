/- Package wal: cut. -/
import Derived.Test.YtbhffjeoakalbaaGreatDoorWk
namespace Go.Proofs.YtbhffjeoakalbaaGreatDoor
open Go.RowKit Go.Maps Go.Sort
set_option linter.unusedVariables false
set_option maxRecDepth 20000

/-- Deleted, one behind the other. -/
def delAll (x : DSt) : List ByteArray → DSt
  | [] => x
  | s :: l => delAll (x.delete s).2 l
theorem delAll_snoc (x : DSt) (s : ByteArray) : ∀ l, delAll x (l ++ [s]) = ((delAll x l).delete s).2 := by
  intro l
  induction l generalizing x with
  | nil => rfl
  | cons t l ih => exact ih _
/-- What cut makes of the disk. -/
def cutX (x : DSt) (dir cp : ByteArray) (segs : List Nat) (op : Nat) (zs : List Int) : DSt := delAll (putX x dir (cpN dir op) zs) ((if cp = ⟨#[]⟩ then [] else [cp]) ++ segs.map (segN dir))
/-- In the midst of cut's deletions: the disk, and what is left of the struct's segments. -/
structure CutAt (w w' : World) (base d mb n : Nat) (x : DSt) (p : Nat) (dir cp : ByteArray) (left : List Nat) (op : Nat) (A B B' : Nat → Prop) (a : Option Addr) (c : Nat) : Prop where
  disk : DS w' base d mb n x B'
  row : WRow w' p d dir cp (.slice a left.length c) (op : Int) ∧ SRd intE w' a (nI left) ∧ left.length ≤ c ∧ ∀ y, a = some y → A y.block ∧ y.block ≠ p ∧ y.block < w'.heap.size ∧ y.spot = none
  apart : ∀ k, A k → ¬ B' k
  step : Step2 w w' A B A B'
  ltB : ∀ k, B' k → k < w'.heap.size
  ltA : ∀ k, A k → k < w'.heap.size
  own : A p
theorem LogAt.cutAt {w0 w : World} {base d mb n : Nat} {x : DSt} {p : Nat} {dir cp : ByteArray} {segs : List Nat} {op : Nat} {A B0 B : Nat → Prop} (h : LogAt w base d mb n x p dir cp segs op A B) (hs : Step2 w0 w A B0 A B) : ∃ a c, CutAt w0 w base d mb n x p dir cp segs op A B0 B a c := by
  obtain ⟨a, c, h1, h2, h3, h4⟩ := h.wal
  refine ⟨a, c, h.disk, ⟨h1, h2.rd, (sown_cap h2).1, fun y hy => ?_⟩, h.apart, hs, h.ltB, h.ltA, h3⟩
  subst hy
  obtain ⟨g, cap, e, _, hlt, _⟩ := h2.some (by simp)
  have e' : y = ⟨g, 0, none⟩ := by injection e with e; exact Option.some.inj e
  refine ⟨(h4 y rfl).1, (h4 y rfl).2, ?_, ?_⟩
  · rw [e']; exact hlt
  · rw [e']
theorem CutAt.grown {w0 w w' : World} {base d mb n : Nat} {x : DSt} {p : Nat} {dir cp : ByteArray} {left : List Nat} {op : Nat} {A B0 B : Nat → Prop} {a : Option Addr} {c : Nat} (h : CutAt w0 w base d mb n x p dir cp left op A B0 B a c) (hg : w.grownBy w' none) : CutAt w0 w' base d mb n x p dir cp left op A B0 B a c := by
  obtain ⟨h1, h2, h3, h4⟩ := h.row
  exact ⟨DV.kept h.disk hg, ⟨h1.kept hg (by simp), h2.grown hg (by simp), h3, fun y hy => ⟨(h4 y hy).1, (h4 y hy).2.1, Nat.lt_of_lt_of_le (h4 y hy).2.2.1 hg.size, (h4 y hy).2.2.2⟩⟩, h.apart, h.step.trans (Step2.grown A B hg), fun k hk => Nat.lt_of_lt_of_le (h.ltB k hk) hg.size, fun k hk => Nat.lt_of_lt_of_le (h.ltA k hk) hg.size, h.own⟩
theorem srd_keptI {w w' : World} {X : Nat → Prop} {a : Option Addr} {l : List Int} (h : SRd intE w a l) (hk : Kept w w' X) (hb : ∀ y, a = some y → y.block < w.heap.size ∧ ¬ X y.block) : SRd intE w' a l := by
  rcases h with h | ⟨b, off, e, h⟩
  · exact .inl h
  · refine .inr ⟨b, off, e, fun j v hj => ?_⟩
    exact cell_kept hk (hb _ e).1 (hb _ e).2 (h j v hj)
theorem CutAt.write {w0 w w' : World} {base d mb n n' : Nat} {x x' : DSt} {p : Nat} {dir cp : ByteArray} {left : List Nat} {op : Nat} {A B0 B B' : Nat → Prop} {a : Option Addr} {c : Nat} (h : CutAt w0 w base d mb n x p dir cp left op A B0 B a c) (hd : DS w' base d mb n' x' B') (hs : Step w w' B B') : ∃ B'', CutAt w0 w' base d mb n' x' p dir cp left op A B0 B'' a c := by
  obtain ⟨h1, h2, h3, h4⟩ := h.row
  have hX : ∀ k, A k → ¬ B k := h.apart
  refine ⟨fun k => B' k ∧ k < w'.heap.size, hd.bound, ⟨h1.of_block (hs.1.block p h1.lt (hX p h.own)), srd_keptI h2 hs.1 (fun y hy => ⟨(h4 y hy).2.2.1, hX _ (h4 y hy).1⟩), h3, fun y hy => ⟨(h4 y hy).1, (h4 y hy).2.1, Nat.lt_of_lt_of_le (h4 y hy).2.2.1 hs.1.size, (h4 y hy).2.2.2⟩⟩, fun k ha hb => h.apart k ha (hs.2 k (h.ltA k ha) hb.1), h.step.trans ⟨hs.1.mono (fun k _ hb => .inr hb), fun k hk hb => hs.2 k hk hb.1, fun k _ ha => ha⟩, fun k hb => hb.2, fun k ha => Nat.lt_of_lt_of_le (h.ltA k ha) hs.1.size, h.own⟩
/-- A cell of the struct is written. -/
theorem CutAt.set {w0 w : World} {base d mb n : Nat} {x : DSt} {p : Nat} {dir cp cp' : ByteArray} {left left' : List Nat} {op op' : Nat} {A B0 B : Nat → Prop} {i : Nat} {u : Value} {a a' : Option Addr} {c c' : Nat} (h : CutAt w0 w base d mb n x p dir cp left op A B0 B a c) (hW : WRow (w.setCell ⟨p, i, none⟩ u) p d dir cp' (.slice a' left'.length c') (op' : Int)) (hr : SRd intE w a' (nI left')) (hc : left'.length ≤ c') (ha : ∀ y, a' = some y → A y.block ∧ y.block ≠ p ∧ y.block < w.heap.size ∧ y.spot = none) : CutAt w0 (w.setCell ⟨p, i, none⟩ u) base d mb n x p dir cp' left' op' A B0 B a' c' := by
  have hg : w.grownBy (w.setCell ⟨p, i, none⟩ u) (some p) := gb_set rfl
  have hk : Kept w (w.setCell ⟨p, i, none⟩ u) (fun k => k = p) := Kept.of hg (fun k hk => by cases hk; rfl)
  exact ⟨h.disk.others hk (fun k hb e => by subst e; exact h.apart _ h.own hb), ⟨hW, hr.grown hg (fun y hy e => (ha y hy).2.1 (Option.some.inj e)), hc, fun y hy => ⟨(ha y hy).1, (ha y hy).2.1, Nat.lt_of_lt_of_le (ha y hy).2.2.1 hg.size, (ha y hy).2.2.2⟩⟩, h.apart, h.step.trans ⟨hk.mono (fun k _ e => by subst e; exact .inl h.own), fun k _ hb => hb, fun k _ ha => ha⟩, fun k hb => Nat.lt_of_lt_of_le (h.ltB k hb) hg.size, fun k ha => Nat.lt_of_lt_of_le (h.ltA k ha) hg.size, h.own⟩
theorem tail75n (w : World) (b off M C : Nat) (h : M + 1 ≤ C) : (Instr.slice 75 (.slice (some ⟨b, off, none⟩) (M + 1) C) (some (.int .i64 1)) none none).run Tryz.prog w = .ok (.slice (some (if C = 1 then ⟨b, off, none⟩ else ⟨b, off + 1, none⟩)) M (C - 1)) w := by
  rw [run_slice_l w 75 _ (M + 1) C (by rw [elem75]; exact Tryz.underlying75) .i64 1 (by omega) (by omega), elem75, Tryz.sizeOf3]
  by_cases hC : C = 1
  · subst hC
    simp [sliced, Result.andThen]
  · simp [sliced, Result.andThen, Addr.add, hC]
theorem srd_tail {w : World} {b off : Nat} {k : Int} {l : List Int} (h : SRd intE w (some ⟨b, off, none⟩) (k :: l)) (C : Nat) (hC : l.length + 1 ≤ C) : SRd intE w (some (if C = 1 then ⟨b, off, none⟩ else ⟨b, off + 1, none⟩)) l := by
  cases l with
  | nil => exact .inl rfl
  | cons z l =>
    rw [if_neg (by simp at hC; omega)]
    rcases h with h | ⟨b', off', e, h⟩
    · cases h
    · cases e
      refine .inr ⟨b, off + 1, rfl, fun j v hj => ?_⟩
      have := h (j + 1) v (by simpa [Elem.flat, intE] using hj)
      rw [show off + 1 + j = off + (j + 1) by omega]
      exact this
end Go.Proofs.YtbhffjeoakalbaaGreatDoor
