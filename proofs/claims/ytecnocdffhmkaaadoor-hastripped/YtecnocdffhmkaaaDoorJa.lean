/- What a law spoils: labels, points, series. -/
import Derived.Test.YtecnocdffhmkaaaDoorHj
namespace Go.Proofs.YtecnocdffhmkaaaDoor
open Go.ChangeShapes Go.WideShapes Go.ChangeAt Go.RowKit
set_option linter.unusedVariables false
set_option maxRecDepth 20000

/-- A row of so many elements of two cells lies in a block. -/
def Rw (w : World) (e : TypeId) (g cap : Nat) : Prop := ∃ cur : Array Value, w.heap[g]? = some (.cells cur e (0, 0)) ∧ cur.size = cap * 2
theorem Rw.lt {w : World} {e : TypeId} {g cap : Nat} (h : Rw w e g cap) : g < w.heap.size := by
  obtain ⟨cur, h1, _⟩ := h
  exact (Array.getElem?_eq_some_iff.1 h1).1
theorem Rw.cells {w : World} {e : TypeId} {g cap : Nat} (h : Rw w e g cap) (k : Nat) (hk : k < cap) : ∃ v0 v1, w.cell? ⟨g, k * 2, none⟩ = some v0 ∧ w.cell? ⟨g, k * 2 + 1, none⟩ = some v1 ∧ w.frozen? ⟨g, k * 2, none⟩ = false ∧ w.frozen? ⟨g, k * 2 + 1, none⟩ = false := by
  obtain ⟨cur, h1, h2⟩ := h
  refine ⟨_, _, by rw [cell_of_row w g _ cur e _ h1, Array.getElem?_eq_getElem (by omega)], by rw [cell_of_row w g _ cur e _ h1, Array.getElem?_eq_getElem (by omega)], ?_, ?_⟩ <;> simp [World.frozen?, h1]
theorem Rw.set {w : World} {e : TypeId} {g cap : Nat} (h : Rw w e g cap) (j : Nat) (v : Value) : Rw (w.setCell ⟨g, j, none⟩ v) e g cap := by
  obtain ⟨cur, h1, h2⟩ := h
  exact ⟨cur.setIfInBounds j v, by rw [setCell_eq_setRow w g j cur e (0, 0) v h1, setRow_heap w g cur _ e _ h1], by simpa using h2⟩
theorem Rw.kept {w w' : World} {row : Option Nat} {e : TypeId} {g cap : Nat} (h : Rw w e g cap) (hg : w.grownBy w' row) (hne : some g ≠ row) : Rw w' e g cap := by
  have := h.lt
  obtain ⟨cur, h1, h2⟩ := h
  exact ⟨cur, (hg.block g this hne).trans h1, h2⟩
theorem Rw.own {w : World} {e : TypeId} {g cap : Nat} (h : Rw w e g cap) (n : Nat) (hn : n ≤ cap) (hc : cap ≤ maxLen) : ∃ vs : List Value, vs.length = n * 2 ∧ w.ownsRow 0 e 2 (.slice (some ⟨g, 0, none⟩) n cap) n vs := by
  obtain ⟨cur, h1, h2⟩ := h
  have hl : (cur.toList.take (n * 2)).length = n * 2 := by
    rw [List.length_take, Array.length_toList, h2]
    omega
  exact ⟨cur.toList.take (n * 2), hl, hl, .inr ⟨g, cap, cur, rfl, Nat.zero_le _, h1, hn, hc, h2, rfl⟩⟩
theorem Rw.of {w : World} {base : Nat} {e : TypeId} {g n cap : Nat} {vs : List Value} (h : w.ownsRow base e 2 (.slice (some ⟨g, 0, none⟩) n cap) n vs) : Rw w e g cap := by
  rcases h.2 with ⟨h', _⟩ | ⟨g', cap', cur, h', _, h2, _, _, h5, _⟩
  · simp at h'
  · simp only [Value.slice.injEq, Option.some.injEq, Addr.mk.injEq, and_true, true_and] at h'
    obtain ⟨rfl, rfl⟩ := h'
    exact ⟨cur, h2, h5⟩
/-- Each row lies where it lay, as long as it was. -/
def SameRows (w w' : World) : Prop := ∀ (b : Nat) (cur : Array Value) (t : TypeId), w.heap[b]? = some (.cells cur t (0, 0)) → ∃ cur', w'.heap[b]? = some (.cells cur' t (0, 0)) ∧ cur'.size = cur.size
theorem SameRows.trans {w w1 w2 : World} (h : SameRows w w1) (h' : SameRows w1 w2) : SameRows w w2 := fun b cur t hb => by
  obtain ⟨c1, h1, e1⟩ := h b cur t hb
  obtain ⟨c2, h2, e2⟩ := h' b c1 t h1
  exact ⟨c2, h2, e2.trans e1⟩
theorem SameRows.grown {w w' : World} (h : w.grownBy w' none) : SameRows w w' := fun b cur t hb => ⟨cur, (h.block b (Array.getElem?_eq_some_iff.1 hb).1 (by simp)).trans hb, rfl⟩
theorem SameRows.one {w w' : World} {e : TypeId} {g cap : Nat} (hg : w.grownBy w' (some g)) (h : Rw w e g cap) (h' : Rw w' e g cap) : SameRows w w' := fun b cur t hb => by
  by_cases hbg : b = g
  · subst hbg
    obtain ⟨c1, h1, e1⟩ := h
    obtain ⟨c2, h2, e2⟩ := h'
    rw [h1] at hb
    simp only [Option.some.injEq, Obj.cells.injEq, and_true] at hb
    obtain ⟨rfl, rfl⟩ := hb
    exact ⟨c2, h2, by rw [e1, e2]⟩
  · exact ⟨cur, (hg.block b (Array.getElem?_eq_some_iff.1 hb).1 (fun e => hbg (Option.some.inj e))).trans hb, rfl⟩
theorem SameRows.rw {w w' : World} (h : SameRows w w') {e : TypeId} {g cap : Nat} (hr : Rw w e g cap) : Rw w' e g cap := by
  obtain ⟨cur, h1, h2⟩ := hr
  obtain ⟨c2, h3, e3⟩ := h g cur e h1
  exact ⟨c2, h3, e3.trans h2⟩
/-- A slice whose block may be written over. -/
def Loose (w : World) (e : TypeId) (a : Option Addr) (n c : Nat) : Prop := (a = none ∧ n = 0 ∧ c = 0) ∨ ∃ g, a = some ⟨g, 0, none⟩ ∧ Rw w e g c ∧ n ≤ c ∧ c ≤ maxLen
theorem Loose.same {w w' : World} {e : TypeId} {a : Option Addr} {n c : Nat} (h : Loose w e a n c) (hs : SameRows w w') : Loose w' e a n c := by
  rcases h with h | ⟨g, h1, h2, h3⟩
  · exact .inl h
  · exact .inr ⟨g, h1, hs.rw h2, h3⟩
theorem Loose.of {α : Type} {E : Elem α} {e : TypeId} {w : World} {base n c : Nat} {a : Option Addr} {l : List α} (hE : E.size = 2) (h : SOwn E e w base (.slice a n c) n l) : Loose w e a n c := by
  rcases h.2 with ⟨h', h0⟩ | ⟨g, cap, cur, h', h1, h2, h3, h4, h5, h6⟩
  · simp only [Value.slice.injEq] at h'
    exact .inl h'
  · simp only [Value.slice.injEq] at h'
    obtain ⟨rfl, _, rfl⟩ := h'
    exact .inr ⟨g, rfl, ⟨cur, h2, by rw [h5, hE]⟩, h3, h4⟩
theorem srd_lit2 {α : Type} (E : Elem α) (e : TypeId) (w : World) (l : List α) : SRd E (w.alloc (.cells (E.flat l).toArray e)) (some ⟨w.heap.size, 0, none⟩) l := by
  refine .inr ⟨w.heap.size, 0, rfl, fun j v hj => ?_⟩
  rw [Nat.zero_add, cell_of_row _ w.heap.size j _ e _ (heap_alloc_new w _)]
  simpa using hj

theorem gb_lput (w : World) (g k : Nat) : w.grownBy ((w.setCell ⟨g, k * 2, none⟩ (.string ⟨#[115, 112, 111, 105, 108, 116]⟩)).setCell ⟨g, k * 2 + 1, none⟩ (.string ⟨#[115, 112, 111, 105, 108, 116]⟩)) (some g) := gb_trans (gb_set rfl) (gb_set rfl) (fun j hj => .inr hj)
set_option maxHeartbeats 1000000 in
theorem lspoilW_fits (g n c : Nat) (w : World) (hr : Rw w 63 g c) (hcm : c ≤ maxLen) (hc : n + 1 ≤ c) (hn : n ≤ 4398046511000) :
    Calls Tryd.prog 34 #[.slice (some ⟨g, 0, none⟩) n c] w fun r w' => r = .returned (.tuple #[]) ∧ w.grownBy w' (some g) ∧ Rw w' 63 g c := by
  obtain ⟨i0, z, hi, hz0, hz1, hz2, hz3⟩ := labT.info
  obtain ⟨vs, hvl, hvo⟩ := hr.own n (by omega) hcm
  have hcm : (c : Int) ≤ 9223372036854775807 := by unfold maxLen at hcm; omega
  have HO : Hid ((w.alloc (.cells (labE.flat [(spoilt, spoilt)]).toArray 63)).ownsRow 0 63 2 (.slice (some ⟨g, 0, none⟩) n c) n vs) := World.ownsRow.kept hvo (World.grownBy_alloc w _ none) (.inr (by simp [Value.ownBlock]))
  clear hvo hr
  go_enter Tryd.func34, Tryd.ntmps34
  go_wp2_with (at_builtin; refine wpList_append_fits _ rfl (.tmp 5) (.tmp 7) 44 rfl 0 63 i0 2 labT.under hi hz1 g n c vs rfl HO.out ⟨w.heap.size, 0, none⟩ 1 1 (labE.flat [(spoilt, spoilt)]) rfl rfl (SRd.news (srd_lit2 labE 63 w [(spoilt, spoilt)])) (labE.flat_one _) hc ?_; intro w1 hown hg1)
  have HG1 : Hid (w.grownBy w1 (some g)) := gb_trans (gb_any (World.grownBy_alloc w _ none) _) hg1 (fun j hj => .inr hj)
  have HR1 : Hid (Rw w1 63 g c) := Rw.of hown
  clear hown hg1 HO
  go_loopw [3] (fun i wr => ∃ k : Nat, k ≤ n + 1 ∧ i = .int .i64 k ∧ w.grownBy wr (some g) ∧ Rw wr 63 g c) (fun i _ => n + 1 - (intOf i).toNat)
  case atStart => exact ⟨0, Nat.zero_le _, rfl, HG1.out, HR1.out⟩
  case round =>
    obtain ⟨k, hk, rfl, hgr, hrow⟩ := hrel
    have HGR : Hid (w.grownBy wr (some g)) := hgr
    have HROW : Hid (Rw wr 63 g c) := hrow
    clear hgr hrow HG1 HR1
    by_cases hlt : k < n + 1
    · obtain ⟨v0, v1, c0, c1, f0, f1⟩ := HROW.out.cells k (by omega)
      have hi : (k : Int) < (n : Int) + 1 := by omega
      go_wp2
      go_roundw
      case rel => exact ⟨k + 1, by omega, by go_num, gb_trans HGR.out (gb_lput wr g k) (fun j hj => .inr hj), (HROW.out.set _ _).set _ _⟩
      case measure => simp [intOf]; omega
    · go_wp2
      go_loopw [4] (fun i wq => ∃ k : Nat, k ≤ n ∧ i = .int .i64 k ∧ w.grownBy wq (some g) ∧ Rw wq 63 g c) (fun i _ => n - (intOf i).toNat)
      case atStart => exact ⟨0, Nat.zero_le _, rfl, HGR.out, HROW.out⟩
      case round =>
        obtain ⟨q, hq, rfl, hgq, hrq⟩ := hrel
        have HGQ : Hid (w.grownBy wr (some g)) := hgq
        have HRQ : Hid (Rw wr 63 g c) := hrq
        clear hgq hrq HROW HGR
        by_cases hlt : q < n
        · obtain ⟨v0, v1, c0, c1, f0, f1⟩ := HRQ.out.cells q (by omega)
          have hi : (q : Int) < (n : Int) := by omega
          go_wp2
          go_roundw
          case rel => exact ⟨q + 1, by omega, by go_num, gb_trans HGQ.out (gb_lput wr g q) (fun j hj => .inr hj), (HRQ.out.set _ _).set _ _⟩
          case measure => simp [intOf]; omega
        · go_wp2
          go_end0
          exact ⟨rfl, HGQ.out, HRQ.out⟩
set_option maxHeartbeats 1000000 in
theorem lspoilW_grow (g n : Nat) (w : World) (hr : Rw w 63 g n) (hcm : n ≤ maxLen) (hn : n ≤ 4398046511000) :
    Calls Tryd.prog 34 #[.slice (some ⟨g, 0, none⟩) n n] w fun r w' => r = .returned (.tuple #[]) ∧ w.grownBy w' (some g) ∧ Rw w' 63 g n := by
  obtain ⟨i0, z, hi, hz0, hz1, hz2, hz3⟩ := labT.info
  obtain ⟨vs, hvl, hvo⟩ := hr.own n (Nat.le_refl _) hcm
  have HRW : Hid (Rw w 63 g n) := hr
  have HL : Hid (vs.length = n * 2) := hvl
  have HOL : Hid (∀ b, some (⟨g, 0, none⟩ : Addr) = some b → ∀ j u, vs[j]? = some u → (w.alloc (.cells (labE.flat [(spoilt, spoilt)]).toArray 63)).cell? (b.add j) = some u) := by
    intro b hb j u hj
    cases hb
    have h1 := World.ownsRow.cellAt (World.ownsRow.kept hvo (World.grownBy_alloc w (.cells (labE.flat [(spoilt, spoilt)]).toArray 63) none) (.inr (by simp [Value.ownBlock]))) j (by have := (List.getElem?_eq_some_iff.1 hj).1; omega)
    rw [hj] at h1
    rw [add_plain, Nat.zero_add]
    exact h1
  clear hvo hr hvl
  go_enter Tryd.func34, Tryd.ntmps34
  go_wp2_with (at_builtin; refine wpList_append_grows _ rfl (.tmp 5) (.tmp 7) 44 rfl 63 i0 z 2 32 labT.under hi hz0 hz1 hz2 hz3 (by decide) (some ⟨g, 0, none⟩) n n vs rfl (by simp) HL.out HOL.out ⟨w.heap.size, 0, none⟩ 1 1 (labE.flat [(spoilt, spoilt)]) rfl rfl (SRd.news (srd_lit2 labE 63 w [(spoilt, spoilt)])) (labE.flat_one _) (by omega) (by unfold maxLen; omega) (by omega) ?_; intro v' w1 hown hg1; obtain ⟨g1, c1, rfl, hge1, hlt1⟩ := World.ownsRow.form hown (by omega))
  have HG1 : Hid (w.grownBy w1 none) := gb_trans (World.grownBy_alloc w _ none) hg1 (by simp)
  have HR1 : Hid (Rw w1 63 g1 c1) := Rw.of hown
  have HGe : Hid (w.heap.size ≤ g1) := Nat.le_trans (World.grownBy_alloc w _ none).size hge1
  have hcm1 : n + 1 ≤ c1 ∧ (c1 : Int) ≤ 9223372036854775807 := by
    rcases hown.2 with ⟨h', _⟩ | ⟨g', cap', cur, h', _, _, h4, h5, _⟩
    · simp at h'
    · simp only [Value.slice.injEq, Option.some.injEq, Addr.mk.injEq, and_true, true_and] at h'
      obtain ⟨rfl, rfl⟩ := h'
      unfold maxLen at h5
      omega
  obtain ⟨hc1, hcm'⟩ := hcm1
  clear hown hg1 hge1 hlt1
  go_loopw [3] (fun i wr => ∃ k : Nat, k ≤ n + 1 ∧ i = .int .i64 k ∧ w.grownBy wr none ∧ Rw wr 63 g1 c1) (fun i _ => n + 1 - (intOf i).toNat)
  case atStart => exact ⟨0, Nat.zero_le _, rfl, HG1.out, HR1.out⟩
  case round =>
    obtain ⟨k, hk, rfl, hgr, hrow⟩ := hrel
    have HGR : Hid (w.grownBy wr none) := hgr
    have HROW : Hid (Rw wr 63 g1 c1) := hrow
    clear hgr hrow HG1 HR1
    by_cases hlt : k < n + 1
    · obtain ⟨v0, v1, c0, c1', f0, f1⟩ := HROW.out.cells k (by omega)
      have hi : (k : Int) < (n : Int) + 1 := by omega
      go_wp2
      go_roundw
      case rel => exact ⟨k + 1, by omega, by go_num, gb_trans HGR.out (gb_lput wr g1 k) (fun j hj => .inl (by simp at hj; have := HGe.out; omega)), (HROW.out.set _ _).set _ _⟩
      case measure => simp [intOf]; omega
    · have HRA : Hid (Rw wr 63 g n) := HRW.out.kept HGR.out (by simp)
      clear HROW
      go_wp2
      go_loopw [4] (fun i wq => ∃ k : Nat, k ≤ n ∧ i = .int .i64 k ∧ w.grownBy wq (some g) ∧ Rw wq 63 g n) (fun i _ => n - (intOf i).toNat)
      case atStart => exact ⟨0, Nat.zero_le _, rfl, gb_any HGR.out _, HRA.out⟩
      case round =>
        obtain ⟨q, hq, rfl, hgq, hrq⟩ := hrel
        have HGQ : Hid (w.grownBy wr (some g)) := hgq
        have HRQ : Hid (Rw wr 63 g n) := hrq
        clear hgq hrq HRA HGR
        by_cases hlt : q < n
        · obtain ⟨v0, v1, c0, c1', f0, f1⟩ := HRQ.out.cells q (by omega)
          have hi : (q : Int) < (n : Int) := by omega
          go_wp2
          go_roundw
          case rel => exact ⟨q + 1, by omega, by go_num, gb_trans HGQ.out (gb_lput wr g q) (fun j hj => .inr hj), (HRQ.out.set _ _).set _ _⟩
          case measure => simp [intOf]; omega
        · go_wp2
          go_end0
          exact ⟨rfl, HGQ.out, HRQ.out⟩
set_option maxHeartbeats 1000000 in
theorem lspoilW_nil (w : World) :
    Calls Tryd.prog 34 #[.slice none 0 0] w fun r w' => r = .returned (.tuple #[]) ∧ w.grownBy w' none := by
  obtain ⟨i0, z, hi, hz0, hz1, hz2, hz3⟩ := labT.info
  go_enter Tryd.func34, Tryd.ntmps34
  go_wp2_with (at_builtin; refine wpList_append_grows _ rfl (.tmp 5) (.tmp 7) 44 rfl 63 i0 z 2 32 labT.under hi hz0 hz1 hz2 hz3 (by decide) none 0 0 [] rfl (by simp) rfl (by simp) ⟨w.heap.size, 0, none⟩ 1 1 (labE.flat [(spoilt, spoilt)]) rfl rfl (SRd.news (srd_lit2 labE 63 w [(spoilt, spoilt)])) (labE.flat_one _) (by omega) (by unfold maxLen; omega) (by omega) ?_; intro v' w1 hown hg1; obtain ⟨g1, c1, rfl, hge1, hlt1⟩ := World.ownsRow.form hown (by omega))
  have HG1 : Hid (w.grownBy w1 none) := gb_trans (World.grownBy_alloc w _ none) hg1 (by simp)
  have HR1 : Hid (Rw w1 63 g1 c1) := Rw.of hown
  have HGe : Hid (w.heap.size ≤ g1) := Nat.le_trans (World.grownBy_alloc w _ none).size hge1
  have hcm1 : 1 ≤ c1 ∧ (c1 : Int) ≤ 9223372036854775807 := by
    rcases hown.2 with ⟨h', _⟩ | ⟨g', cap', cur, h', _, _, h4, h5, _⟩
    · simp at h'
    · simp only [Value.slice.injEq, Option.some.injEq, Addr.mk.injEq, and_true, true_and] at h'
      obtain ⟨rfl, rfl⟩ := h'
      unfold maxLen at h5
      omega
  obtain ⟨hc1, hcm'⟩ := hcm1
  clear hown hg1 hge1 hlt1
  go_loopw [3] (fun i wr => ∃ k : Nat, k ≤ 1 ∧ i = .int .i64 k ∧ w.grownBy wr none ∧ Rw wr 63 g1 c1) (fun i _ => 1 - (intOf i).toNat)
  case atStart => exact ⟨0, Nat.zero_le _, rfl, HG1.out, HR1.out⟩
  case round =>
    obtain ⟨k, hk, rfl, hgr, hrow⟩ := hrel
    have HGR : Hid (w.grownBy wr none) := hgr
    have HROW : Hid (Rw wr 63 g1 c1) := hrow
    clear hgr hrow HG1 HR1
    by_cases hlt : k < 1
    · obtain ⟨v0, v1, c0, c1', f0, f1⟩ := HROW.out.cells k (by omega)
      have hi : (k : Int) < 1 := by omega
      go_wp2
      go_roundw
      case rel => exact ⟨k + 1, by omega, by go_num, gb_trans HGR.out (gb_lput wr g1 k) (fun j hj => .inl (by simp at hj; have := HGe.out; omega)), (HROW.out.set _ _).set _ _⟩
      case measure => simp [intOf]; omega
    · clear HROW
      go_wp2
      refine wp_loop_rounds 1 ?_
      rw [rounds_succ]
      go_wp2
      go_end0
      exact ⟨rfl, HGR.out⟩
theorem lspoilW (a : Option Addr) (n c : Nat) (w : World) (ho : Loose w 63 a n c) (hn : n ≤ 4398046511000) :
    Calls Tryd.prog 34 #[.slice a n c] w fun r w' => r = .returned (.tuple #[]) ∧ w.grownBy w' (Value.slice a n c).ownBlock ∧ SameRows w w' := by
  rcases ho with ⟨rfl, rfl, rfl⟩ | ⟨g, rfl, hr, hnc, hcm⟩
  · refine (lspoilW_nil w).mono ?_
    rintro r w' ⟨rfl, hg⟩
    exact ⟨rfl, hg, SameRows.grown hg⟩
  · by_cases hc : n + 1 ≤ c
    · refine (lspoilW_fits g n c w hr hcm hc hn).mono ?_
      rintro r w' ⟨rfl, hg, h'⟩
      exact ⟨rfl, hg, SameRows.one hg hr h'⟩
    · obtain rfl : c = n := by omega
      refine (lspoilW_grow g c w hr hcm hn).mono ?_
      rintro r w' ⟨rfl, hg, h'⟩
      exact ⟨rfl, hg, SameRows.one hg hr h'⟩

end Go.Proofs.YtecnocdffhmkaaaDoor
