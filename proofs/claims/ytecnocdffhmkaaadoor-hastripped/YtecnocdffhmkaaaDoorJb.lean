/- What a law spoils: samples. (Printed by mk_jb.py.) -/
import Derived.Test.YtecnocdffhmkaaaDoorJa
namespace Go.Proofs.YtecnocdffhmkaaaDoor
open Go.RowKit
set_option linter.unusedVariables false
set_option maxRecDepth 20000

/-- A row of so many samples lies in a block. -/
def Rw3 (w : World) (g cap : Nat) : Prop := ∃ cur : Array Value, w.heap[g]? = some (.cells cur 47 (0, 0)) ∧ cur.size = cap * 3
theorem Rw3.lt {w : World} {g cap : Nat} (h : Rw3 w g cap) : g < w.heap.size := by
  obtain ⟨cur, h1, _⟩ := h
  exact (Array.getElem?_eq_some_iff.1 h1).1
theorem Rw3.cells {w : World} {g cap : Nat} (h : Rw3 w g cap) (k : Nat) (hk : k < cap) : ∃ v0 v1 v2, w.cell? ⟨g, k * 3, none⟩ = some v0 ∧ w.cell? ⟨g, k * 3 + 1, none⟩ = some v1 ∧ w.cell? ⟨g, k * 3 + 2, none⟩ = some v2 ∧ w.frozen? ⟨g, k * 3, none⟩ = false ∧ w.frozen? ⟨g, k * 3 + 1, none⟩ = false ∧ w.frozen? ⟨g, k * 3 + 2, none⟩ = false := by
  obtain ⟨cur, h1, h2⟩ := h
  refine ⟨_, _, _, by rw [cell_of_row w g _ cur 47 _ h1, Array.getElem?_eq_getElem (by omega)], by rw [cell_of_row w g _ cur 47 _ h1, Array.getElem?_eq_getElem (by omega)], by rw [cell_of_row w g _ cur 47 _ h1, Array.getElem?_eq_getElem (by omega)], ?_, ?_, ?_⟩ <;> simp [World.frozen?, h1]
theorem Rw3.set {w : World} {g cap : Nat} (h : Rw3 w g cap) (j : Nat) (v : Value) : Rw3 (w.setCell ⟨g, j, none⟩ v) g cap := by
  obtain ⟨cur, h1, h2⟩ := h
  exact ⟨cur.setIfInBounds j v, by rw [setCell_eq_setRow w g j cur 47 (0, 0) v h1, setRow_heap w g cur _ 47 _ h1], by simpa using h2⟩
theorem SameRows.rw3 {w w' : World} (h : SameRows w w') {g cap : Nat} (hr : Rw3 w g cap) : Rw3 w' g cap := by
  obtain ⟨cur, h1, h2⟩ := hr
  obtain ⟨c2, h3, e3⟩ := h g cur 47 h1
  exact ⟨c2, h3, e3.trans h2⟩
theorem SameRows.one3 {w w' : World} {g cap : Nat} (hg : w.grownBy w' (some g)) (h : Rw3 w g cap) (h' : Rw3 w' g cap) : SameRows w w' := fun b cur t hb => by
  by_cases hbg : b = g
  · subst hbg
    obtain ⟨c1, h1, e1⟩ := h
    obtain ⟨c2, h2, e2⟩ := h'
    rw [h1] at hb
    simp only [Option.some.injEq, Obj.cells.injEq, and_true] at hb
    obtain ⟨rfl, rfl⟩ := hb
    exact ⟨c2, h2, by rw [e1, e2]⟩
  · exact ⟨cur, (hg.block b (Array.getElem?_eq_some_iff.1 hb).1 (fun e => hbg (Option.some.inj e))).trans hb, rfl⟩
theorem Rw3.typed {w : World} {g cap : Nat} (h : Rw3 w g cap) : Typed w g 47 := by
  obtain ⟨cur, h1, _⟩ := h
  exact ⟨cur, h1⟩
theorem Rw.typed {w : World} {e : TypeId} {g cap : Nat} (h : Rw w e g cap) : Typed w g e := by
  obtain ⟨cur, h1, _⟩ := h
  exact ⟨cur, h1⟩
theorem below_go {B : Nat} {w w' w2 : World} {row : Option Nat} (h : Below B w w') (hg : w'.grownBy w2 row) (hB : B ≤ w.heap.size) (hr : ∀ k, row = some k → B ≤ k) : Below B w w2 :=
  ⟨hg.os.trans h.os, hg.tape.trans h.tape, hg.output.trans h.output, Nat.le_trans h.size hg.size, fun k hk => by
    rw [hg.block k (Nat.lt_of_lt_of_le hk (Nat.le_trans hB h.size)) (fun e => by have := hr k e.symm; omega)]
    exact h.block k hk⟩
/-- k samples are spoilt. -/
structure SpAt (w wr : World) (B : Nat) (b c : Nat) (raw : List (Sv × Int × Int)) (k : Nat) : Prop where
  kept : Below B w wr
  same : SameRows w wr
  row : Rw3 wr b c
  cells : ∀ (j : Nat) (r : Sv × Int × Int), k ≤ j → raw[j]? = some r → wr.cell? ⟨b, j * 3, none⟩ = some (svV r.1)
theorem cell_stays {w w' : World} {row : Option Nat} {b o : Nat} {v : Value} (hg : w.grownBy w' row) (hb : b < w.heap.size) (hne : some b ≠ row) (h : w.cell? ⟨b, o, none⟩ = some v) : w'.cell? ⟨b, o, none⟩ = some v := by
  have := hg.block b hb hne
  simpa [World.cell?, this] using h
theorem loose_typed {w : World} {e : TypeId} {a : Option Addr} {n c k : Nat} (h : Loose w e a n c) (hk : Value.ownBlock (.slice a n c) = some k) : Typed w k e := by
  rcases h with ⟨rfl, _⟩ | ⟨g, rfl, hr, _⟩
  · simp [Value.ownBlock] at hk
  · have : g = k := by simpa [Value.ownBlock] using hk
    subst this
    exact hr.typed
theorem SpAt.spoil {w wr w2 : World} {B b c : Nat} {raw : List (Sv × Int × Int)} {k : Nat} {a : Option Addr} {n d : Nat} (h : SpAt w wr B b c raw k) (hB : B ≤ w.heap.size) (hl : Loose wr 63 a n d) (hX : ∀ x, Value.ownBlock (.slice a n d) = some x → B ≤ x) (hg : wr.grownBy w2 (Value.slice a n d).ownBlock) (hs : SameRows wr w2) : SpAt w w2 B b c raw k := by
  have hne : some b ≠ (Value.slice a n d).ownBlock := fun e1 => Typed.ne h.row.typed (loose_typed hl e1.symm) (by decide) rfl
  exact ⟨below_go h.kept hg hB hX, h.same.trans hs, hs.rw3 h.row, fun j r hj hr => cell_stays hg h.row.lt hne (h.cells j r hj hr)⟩
theorem SpAt.store {w wr : World} {B b c : Nat} {raw : List (Sv × Int × Int)} {k : Nat} (h : SpAt w wr B b c raw k) (hB : B ≤ w.heap.size) (hX : B ≤ b) (u v t : Value) : SpAt w (((wr.setCell ⟨b, k * 3, none⟩ u).setCell ⟨b, k * 3 + 1, none⟩ v).setCell ⟨b, k * 3 + 2, none⟩ t) B b c raw (k + 1) := by
  have hg : wr.grownBy (((wr.setCell ⟨b, k * 3, none⟩ u).setCell ⟨b, k * 3 + 1, none⟩ v).setCell ⟨b, k * 3 + 2, none⟩ t) (some b) := gb_trans (gb_trans (gb_set rfl) (gb_set rfl) (fun j hj => .inr hj)) (gb_set rfl) (fun j hj => .inr hj)
  have hr := ((h.row.set (k * 3) u).set (k * 3 + 1) v).set (k * 3 + 2) t
  refine ⟨below_go h.kept hg hB (fun x hx => by cases hx; exact hX), h.same.trans (SameRows.one3 hg h.row hr), hr, fun j r hj hrj => ?_⟩
  have h1 := h.cells j r (by omega) hrj
  rw [World.cell?_setCell_other, World.cell?_setCell_other, World.cell?_setCell_other]
  · exact h1
  · simp <;> omega
  · simp <;> omega
  · simp <;> omega
set_option maxHeartbeats 2000000 in
/-- SpoilSamples of what a call owns. -/
theorem s_spoil (v : Value) (B : Nat) (Q : List Smp) (raw : List (Sv × Int × Int)) (w : World) (h : SmsOwn w B v Q raw) (hB : B ≤ w.heap.size) (hz : Q.length ≤ 3518437208882) :
    Calls Tryd.prog 12 #[v] w fun e w' => e = .returned (.tuple #[]) ∧ Below B w w' := by
  have hown := h.row
  obtain ⟨a, c, rfl⟩ := sown_slice hown
  have hlen : raw.length = Q.length := SOwn.len hown
  by_cases h0 : Q.length = 0
  · rw [h0]
    clear hown h
    go_enter Tryd.func12, Tryd.ntmps12
    go_wp2
    refine wp_loop_rounds 1 ?_
    rw [rounds_succ]
    go_wp2
    go_end0
    exact ⟨rfl, Below.refl _ _⟩
  obtain ⟨b, rfl, hrow, hbb, hnc⟩ : ∃ b, a = some ⟨b, 0, none⟩ ∧ Rw3 w b c ∧ B ≤ b ∧ Q.length ≤ c := by
    rcases hown.2 with ⟨h', h1⟩ | ⟨g, cap, cur, h', h1, h2, h3, h4, h5, h6⟩
    · omega
    · simp only [Value.slice.injEq] at h'
      obtain ⟨rfl, _, rfl⟩ := h'
      exact ⟨g, rfl, ⟨cur, h2, h5⟩, h1, h3⟩
  have HSP0 : Hid (SpAt w w B b c raw 0) := by
    refine ⟨Below.refl _ _, fun b cur t h => ⟨cur, h, rfl⟩, hrow, fun j r _ hr => ?_⟩
    obtain ⟨b', off, e, hc⟩ := (SOwn.rd hown).at (by rw [hlen]; omega)
    cases e
    have h1 := hc j r 0 _ hr rfl
    simp only [Nat.zero_add, Nat.add_zero] at h1
    exact h1
  have HS : Hid (∀ (i : Nat) (r : Sv × Int × Int), raw[i]? = some r → Loose w 63 r.1.1 r.1.2.1 r.1.2.2 ∧ (∀ x, Value.ownBlock (svV r.1) = some x → B ≤ x) ∧ r.1.2.1 ≤ 4398046511000) := by
    intro i r hr
    obtain ⟨s, hs⟩ : ∃ s, Q[i]? = some s := ⟨_, List.getElem?_eq_getElem (by have := (List.getElem?_eq_some_iff.1 hr).1; omega)⟩
    have hk := h.smp i r s hr hs
    have ho := hk.own
    rw [← hk.tn] at ho
    refine ⟨Loose.of (E := labE) rfl ho, fun x hx => (SOwn.block ho x hx).1, by rw [hk.tn]; exact hk.sm⟩
  obtain ⟨M, eM⟩ : ∃ M, M = Q.length := ⟨_, rfl⟩
  have EM : Hid (M = raw.length) := eM.trans hlen.symm
  rw [← eM] at hz hnc ⊢
  clear hown h hlen h0 hrow eM
  go_enter Tryd.func12, Tryd.ntmps12
  go_wp2
  go_loopw [2] (fun i wr => ∃ k : Nat, k ≤ M ∧ i = .int .i64 k ∧ SpAt w wr B b c raw k) (fun i _ => M - (intOf i).toNat)
  case atStart => exact ⟨0, Nat.zero_le _, rfl, HSP0.out⟩
  case round =>
    obtain ⟨k, hk, rfl, hsp⟩ := hrel
    have HSP : Hid (SpAt w wr B b c raw k) := hsp
    clear hsp HSP0
    by_cases hlt : k < M
    · have hi : (k : Int) < (M : Int) := by omega
      obtain ⟨⟨⟨la, ln, lc⟩, T, V⟩, hr⟩ : ∃ r, raw[k]? = some r := ⟨_, List.getElem?_eq_getElem (by have := EM.out; omega)⟩
      obtain ⟨l1, x1, n1⟩ := HS.out k _ hr
      simp only [svV] at l1 x1 n1
      have c0 := HSP.out.cells k _ (Nat.le_refl _) hr
      simp only [svV] at c0
      have HL1 : Hid (Loose wr 63 la ln lc) := l1.same HSP.out.same
      have HX1 : Hid (∀ x, Value.ownBlock (.slice la ln lc) = some x → B ≤ x) := x1
      clear l1 x1 hr
      go_wp2_with fail
      refine (lspoilW la ln lc wr HL1.out n1).mono ?_
      rintro e w2 ⟨rfl, hg2, hs2⟩
      have HSP2 : Hid (SpAt w w2 B b c raw k) := HSP.out.spoil hB HL1.out HX1.out hg2 hs2
      obtain ⟨v0, v1, v2, z0, z1, z2, f0, f1, f2⟩ := HSP2.out.row.cells k (by omega)
      clear hg2 hs2 HSP HL1 HX1 c0
      go_wp2
      go_roundw
      case rel => exact ⟨k + 1, by omega, by go_num, HSP2.out.store hB hbb _ _ _⟩
      case measure => simp [intOf]; omega
    · go_wp2
      go_end0
      exact ⟨rfl, HSP.out.kept⟩
end Go.Proofs.YtecnocdffhmkaaaDoor
