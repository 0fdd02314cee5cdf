/- HeadKeeps. -/
import Derived.Test.YtpabbmiibehfjaaGreatDoorGv
import Derived.Test.YtpabbmiibehfjaaGreatDoorIq
namespace Go.Proofs.YtpabbmiibehfjaaGreatDoor
open Go.RowKit Go.Maps
set_option linter.unusedVariables false
set_option maxRecDepth 20000

theorem run_fate {w wr : World} {hb lim N P : Nat} {S : List Ser} {B : Nat → Prop} {la : Option Addr} {lc L : Nat} {ls : List Lab} (T V : Int) (h : RunAt w wr hb lim N P S B) (hP : P ≤ 8796093022206) (hr : SRd labE w la ls) (hL : ls.length = L) (hz : ls.length ≤ 4398046511104) :
    Calls Tryz.prog 14 #[.pointer (some ⟨hb, 0, none⟩), .agg #[.slice la L lc, .int .i64 T, .int .u64 V]] wr fun e w' => e = .returned (.int .i64 (fateR lim S ls T V)) ∧ RunAt w w' hb lim N P S B := by
  refine (h_fate w.heap.size hb lim N P S B la L lc ls T V wr h.head (hr.grown h.grown (by simp)) hL (by omega) hP).mono ?_
  rintro e w' ⟨rfl, hg⟩
  exact ⟨rfl, h.grew hg⟩
theorem run_add {w wr : World} {hb lim N P : Nat} {S : List Ser} {B : Nat → Prop} {la : Option Addr} {lc L : Nat} {ls : List Lab} (T V : Int) (h : RunAt w wr hb lim N P S B) (hP : P ≤ 8796093022206) (hN : N + 20 < 9223372036854775807) (hr : SRd labE w la ls) (hL : ls.length = L) (hz : ls.length ≤ 4398046511104) (hnil : la = none → lc = 0) :
    Calls Tryz.prog 15 #[.pointer (some ⟨hb, 0, none⟩), .agg #[.slice la L lc, .int .i64 T, .int .u64 V]] wr fun e w' => e = .returned (.int .i64 (fateR lim S ls T V)) ∧ ∃ B', RunAt w w' hb lim (N + 20) (P + 1) (addR lim S ls T V) B' := by
  refine (h_add w.heap.size hb lim N P S B la L lc ls T V wr h.head (hr.grown h.grown (by simp)) hL (by omega) hnil hP hN).mono ?_
  rintro e w' ⟨rfl, B', hh, hst⟩
  exact ⟨rfl, B', h.step hst hh⟩
theorem pnt_cells {w : World} {a : Option Addr} {ps : List Pt} (h : SRd pntE w a ps) {k : Nat} {t v : Int} (hs : ps[k]? = some (t, v)) :
    ∃ b off, a = some ⟨b, off, none⟩ ∧ w.cell? ⟨b, off + k * 2, none⟩ = some (.int .i64 t) ∧ w.cell? ⟨b, off + k * 2 + 1, none⟩ = some (.int .u64 v) := by
  have hk : k < ps.length := (List.getElem?_eq_some_iff.1 hs).1
  obtain ⟨b, off, rfl, hc⟩ := h.at (by omega)
  exact ⟨b, off, rfl, hc k _ 0 _ hs rfl, by rw [Nat.add_assoc]; exact hc k _ 1 _ hs rfl⟩
theorem row2 {w : World} {x y : Value} {t : TypeId} : (w.alloc (.cells #[x, y] t)).cell? ⟨w.heap.size, 0, none⟩ = some x ∧ (w.alloc (.cells #[x, y] t)).cell? ⟨w.heap.size, 1, none⟩ = some y :=
  ⟨cell_of_row _ w.heap.size 0 _ t _ (heap_alloc_new w _), cell_of_row _ w.heap.size 1 _ t _ (heap_alloc_new w _)⟩
theorem sets_at {S : List Ser} (h : Good S) {j : Nat} {s t : Ser} (hs : S[j]? = some s) (ht : S[j + 1]? = some t) : cmpR s.1 t.1 < 0 := by
  have hp := h.sets
  have h1 : (S.map (·.1))[j]? = some s.1 := by rw [List.getElem?_map, hs]; rfl
  have h2 : (S.map (·.1))[j + 1]? = some t.1 := by rw [List.getElem?_map, ht]; rfl
  obtain ⟨l1, e1⟩ := List.getElem?_eq_some_iff.1 h1
  obtain ⟨l2, e2⟩ := List.getElem?_eq_some_iff.1 h2
  have := List.pairwise_iff_getElem.1 hp j (j + 1) l1 l2 (by omega)
  rw [e1, e2] at this
  exact this
theorem rise_at {ps : List Pt} (h : Rise ps) {j : Nat} {s t : Pt} (hs : ps[j]? = some s) (ht : ps[j + 1]? = some t) : s.1 < t.1 := by
  obtain ⟨l1, e1⟩ := List.getElem?_eq_some_iff.1 hs
  obtain ⟨l2, e2⟩ := List.getElem?_eq_some_iff.1 ht
  have := List.pairwise_iff_getElem.1 h.up j (j + 1) l1 l2 (by omega)
  rw [e1, e2] at this
  exact this
/-- The head's series, handed out; each is small, and each of its points came in as a sample. -/
structure KeepsAt (w w3 : World) (a1 : Option Addr) (raw1 : List (Sv × Sv)) (S : List Ser) (a : Option Addr) (raw : List (Sv × Int × Int)) (Q : List Smp) : Prop where
  gr : w.grownBy w3 none
  rd : SerRd w3 a1 raw1 S
  smp : SmpRd w a raw Q
  good : Good S
  small : ∀ s ∈ S, s.1.length ≤ 16 ∧ s.2.length ≤ 8796093022206
  from' : ∀ s ∈ S, ∀ p ∈ s.2, ∃ j, j < Q.length ∧ Q[j]? = some (s.1, p)
end Go.Proofs.YtpabbmiibehfjaaGreatDoor
