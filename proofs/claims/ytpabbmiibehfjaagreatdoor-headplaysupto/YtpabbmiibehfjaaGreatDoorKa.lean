/- Several texts in one: Ja, Jb. -/
import Derived.Test.YtpabbmiibehfjaaGreatDoorGt
/- What a law spoils: labels, points, series. -/
namespace Go.Proofs.YtpabbmiibehfjaaGreatDoor
open Go.ChangeShapes Go.WideShapes Go.ChangeAt Go.RowKit
set_option linter.unusedVariables false
set_option maxRecDepth 20000

/-- A row of so many elements of two cells lies in a block. -/
def Rw (w : World) (e : TypeId) (g cap : Nat) : Prop := ∃ cur : Array Value, w.heap[g]? = some (.cells cur e (0, 0)) ∧ cur.size = cap * 2
theorem Rw.lt {w : World} {e : TypeId} {g cap : Nat} (h : Rw w e g cap) : g < w.heap.size := by
  obtain ⟨cur, h1, _⟩ := h
  exact (Array.getElem?_eq_some_iff.1 h1).1
theorem Rw.cells {w : World} {e : TypeId} {g cap : Nat} (h : Rw w e g cap) (k : Nat) (hk : k < cap) : ∃ v0 v1, w.cell? ⟨g, k * 2, none⟩ = some v0 ∧ w.cell? ⟨g, k * 2 + 1, none⟩ = some v1 ∧ w.frozen? ⟨g, k * 2, none⟩ = false ∧ w.frozen? ⟨g, k * 2 + 1, none⟩ = false := by
  obtain ⟨cur, h1, h2⟩ := h
  refine ⟨_, _, by rw [cell_of_row w g _ cur e _ h1, Array.getElem?_eq_getElem (by omega)], by rw [cell_of_row w g _ cur e _ h1, Array.getElem?_eq_getElem (by omega)], ?_, ?_⟩ <;> simp [World.frozen?, h1]
theorem Rw.set {w : World} {e : TypeId} {g cap : Nat} (h : Rw w e g cap) (j : Nat) (v : Value) : Rw (w.setCell ⟨g, j, none⟩ v) e g cap := by
  obtain ⟨cur, h1, h2⟩ := h
  exact ⟨cur.setIfInBounds j v, by rw [setCell_eq_setRow w g j cur e (0, 0) v h1, setRow_heap w g cur _ e _ h1], by simpa using h2⟩
theorem Rw.kept {w w' : World} {row : Option Nat} {e : TypeId} {g cap : Nat} (h : Rw w e g cap) (hg : w.grownBy w' row) (hne : some g ≠ row) : Rw w' e g cap := by
  have := h.lt
  obtain ⟨cur, h1, h2⟩ := h
  exact ⟨cur, (hg.block g this hne).trans h1, h2⟩
theorem Rw.own {w : World} {e : TypeId} {g cap : Nat} (h : Rw w e g cap) (n : Nat) (hn : n ≤ cap) (hc : cap ≤ maxLen) : ∃ vs : List Value, vs.length = n * 2 ∧ w.ownsRow 0 e 2 (.slice (some ⟨g, 0, none⟩) n cap) n vs := by
  obtain ⟨cur, h1, h2⟩ := h
  have hl : (cur.toList.take (n * 2)).length = n * 2 := by
    rw [List.length_take, Array.length_toList, h2]
    omega
  exact ⟨cur.toList.take (n * 2), hl, hl, .inr ⟨g, cap, cur, rfl, Nat.zero_le _, h1, hn, hc, h2, rfl⟩⟩
theorem Rw.of {w : World} {base : Nat} {e : TypeId} {g n cap : Nat} {vs : List Value} (h : w.ownsRow base e 2 (.slice (some ⟨g, 0, none⟩) n cap) n vs) : Rw w e g cap := by
  rcases h.2 with ⟨h', _⟩ | ⟨g', cap', cur, h', _, h2, _, _, h5, _⟩
  · simp at h'
  · simp only [Value.slice.injEq, Option.some.injEq, Addr.mk.injEq, and_true, true_and] at h'
    obtain ⟨rfl, rfl⟩ := h'
    exact ⟨cur, h2, h5⟩
/-- Each row lies where it lay, as long as it was. -/
def SameRows (w w' : World) : Prop := ∀ (b : Nat) (cur : Array Value) (t : TypeId), w.heap[b]? = some (.cells cur t (0, 0)) → ∃ cur', w'.heap[b]? = some (.cells cur' t (0, 0)) ∧ cur'.size = cur.size
theorem SameRows.trans {w w1 w2 : World} (h : SameRows w w1) (h' : SameRows w1 w2) : SameRows w w2 := fun b cur t hb => by
  obtain ⟨c1, h1, e1⟩ := h b cur t hb
  obtain ⟨c2, h2, e2⟩ := h' b c1 t h1
  exact ⟨c2, h2, e2.trans e1⟩
theorem SameRows.grown {w w' : World} (h : w.grownBy w' none) : SameRows w w' := fun b cur t hb => ⟨cur, (h.block b (Array.getElem?_eq_some_iff.1 hb).1 (by simp)).trans hb, rfl⟩
theorem SameRows.one {w w' : World} {e : TypeId} {g cap : Nat} (hg : w.grownBy w' (some g)) (h : Rw w e g cap) (h' : Rw w' e g cap) : SameRows w w' := fun b cur t hb => by
  by_cases hbg : b = g
  · subst hbg
    obtain ⟨c1, h1, e1⟩ := h
    obtain ⟨c2, h2, e2⟩ := h'
    rw [h1] at hb
    simp only [Option.some.injEq, Obj.cells.injEq, and_true] at hb
    obtain ⟨rfl, rfl⟩ := hb
    exact ⟨c2, h2, by rw [e1, e2]⟩
  · exact ⟨cur, (hg.block b (Array.getElem?_eq_some_iff.1 hb).1 (fun e => hbg (Option.some.inj e))).trans hb, rfl⟩
theorem SameRows.rw {w w' : World} (h : SameRows w w') {e : TypeId} {g cap : Nat} (hr : Rw w e g cap) : Rw w' e g cap := by
  obtain ⟨cur, h1, h2⟩ := hr
  obtain ⟨c2, h3, e3⟩ := h g cur e h1
  exact ⟨c2, h3, e3.trans h2⟩
/-- A slice whose block may be written over. -/
def Loose (w : World) (e : TypeId) (a : Option Addr) (n c : Nat) : Prop := (a = none ∧ n = 0 ∧ c = 0) ∨ ∃ g, a = some ⟨g, 0, none⟩ ∧ Rw w e g c ∧ n ≤ c ∧ c ≤ maxLen
theorem Loose.same {w w' : World} {e : TypeId} {a : Option Addr} {n c : Nat} (h : Loose w e a n c) (hs : SameRows w w') : Loose w' e a n c := by
  rcases h with h | ⟨g, h1, h2, h3⟩
  · exact .inl h
  · exact .inr ⟨g, h1, hs.rw h2, h3⟩
theorem Loose.of {α : Type} {E : Elem α} {e : TypeId} {w : World} {base n c : Nat} {a : Option Addr} {l : List α} (hE : E.size = 2) (h : SOwn E e w base (.slice a n c) n l) : Loose w e a n c := by
  rcases h.2 with ⟨h', h0⟩ | ⟨g, cap, cur, h', h1, h2, h3, h4, h5, h6⟩
  · simp only [Value.slice.injEq] at h'
    exact .inl h'
  · simp only [Value.slice.injEq] at h'
    obtain ⟨rfl, _, rfl⟩ := h'
    exact .inr ⟨g, rfl, ⟨cur, h2, by rw [h5, hE]⟩, h3, h4⟩
theorem srd_lit2 {α : Type} (E : Elem α) (e : TypeId) (w : World) (l : List α) : SRd E (w.alloc (.cells (E.flat l).toArray e)) (some ⟨w.heap.size, 0, none⟩) l := by
  refine .inr ⟨w.heap.size, 0, rfl, fun j v hj => ?_⟩
  rw [Nat.zero_add, cell_of_row _ w.heap.size j _ e _ (heap_alloc_new w _)]
  simpa using hj

theorem gb_lput (w : World) (g k : Nat) : w.grownBy ((w.setCell ⟨g, k * 2, none⟩ (.string ⟨#[115, 112, 111, 105, 108, 116]⟩)).setCell ⟨g, k * 2 + 1, none⟩ (.string ⟨#[115, 112, 111, 105, 108, 116]⟩)) (some g) := gb_trans (gb_set rfl) (gb_set rfl) (fun j hj => .inr hj)
set_option maxHeartbeats 1000000 in
theorem lspoilW_fits (g n c : Nat) (w : World) (hr : Rw w 62 g c) (hcm : c ≤ maxLen) (hc : n + 1 ≤ c) (hn : n ≤ 4398046511000) :
    Calls Tryz.prog 56 #[.slice (some ⟨g, 0, none⟩) n c] w fun r w' => r = .returned (.tuple #[]) ∧ w.grownBy w' (some g) ∧ Rw w' 62 g c := by
  obtain ⟨i0, z, hi, hz0, hz1, hz2, hz3⟩ := labT.info
  obtain ⟨vs, hvl, hvo⟩ := hr.own n (by omega) hcm
  have hcm : (c : Int) ≤ 9223372036854775807 := by unfold maxLen at hcm; omega
  have HO : Hid ((w.alloc (.cells (labE.flat [(spoilt, spoilt)]).toArray 62)).ownsRow 0 62 2 (.slice (some ⟨g, 0, none⟩) n c) n vs) := World.ownsRow.kept hvo (World.grownBy_alloc w _ none) (.inr (by simp [Value.ownBlock]))
  clear hvo hr
  go_enter Tryz.func56, Tryz.ntmps56
  go_wp2_with (at_builtin; refine wpList_append_fits _ rfl (.tmp 5) (.tmp 7) 28 rfl 0 62 i0 2 labT.under hi hz1 g n c vs rfl HO.out ⟨w.heap.size, 0, none⟩ 1 1 (labE.flat [(spoilt, spoilt)]) rfl rfl (SRd.news (srd_lit2 labE 62 w [(spoilt, spoilt)])) (labE.flat_one _) hc ?_; intro w1 hown hg1)
  have HG1 : Hid (w.grownBy w1 (some g)) := gb_trans (gb_any (World.grownBy_alloc w _ none) _) hg1 (fun j hj => .inr hj)
  have HR1 : Hid (Rw w1 62 g c) := Rw.of hown
  clear hown hg1 HO
  go_loopw [3] (fun i wr => ∃ k : Nat, k ≤ n + 1 ∧ i = .int .i64 k ∧ w.grownBy wr (some g) ∧ Rw wr 62 g c) (fun i _ => n + 1 - (intOf i).toNat)
  case atStart => exact ⟨0, Nat.zero_le _, rfl, HG1.out, HR1.out⟩
  case round =>
    obtain ⟨k, hk, rfl, hgr, hrow⟩ := hrel
    have HGR : Hid (w.grownBy wr (some g)) := hgr
    have HROW : Hid (Rw wr 62 g c) := hrow
    clear hgr hrow HG1 HR1
    by_cases hlt : k < n + 1
    · obtain ⟨v0, v1, c0, c1, f0, f1⟩ := HROW.out.cells k (by omega)
      have hi : (k : Int) < (n : Int) + 1 := by omega
      go_wp2
      go_roundw
      case rel => exact ⟨k + 1, by omega, by go_num, gb_trans HGR.out (gb_lput wr g k) (fun j hj => .inr hj), (HROW.out.set _ _).set _ _⟩
      case measure => simp [intOf]; omega
    · go_wp2
      go_loopw [4] (fun i wq => ∃ k : Nat, k ≤ n ∧ i = .int .i64 k ∧ w.grownBy wq (some g) ∧ Rw wq 62 g c) (fun i _ => n - (intOf i).toNat)
      case atStart => exact ⟨0, Nat.zero_le _, rfl, HGR.out, HROW.out⟩
      case round =>
        obtain ⟨q, hq, rfl, hgq, hrq⟩ := hrel
        have HGQ : Hid (w.grownBy wr (some g)) := hgq
        have HRQ : Hid (Rw wr 62 g c) := hrq
        clear hgq hrq HROW HGR
        by_cases hlt : q < n
        · obtain ⟨v0, v1, c0, c1, f0, f1⟩ := HRQ.out.cells q (by omega)
          have hi : (q : Int) < (n : Int) := by omega
          go_wp2
          go_roundw
          case rel => exact ⟨q + 1, by omega, by go_num, gb_trans HGQ.out (gb_lput wr g q) (fun j hj => .inr hj), (HRQ.out.set _ _).set _ _⟩
          case measure => simp [intOf]; omega
        · go_wp2
          go_end0
          exact ⟨rfl, HGQ.out, HRQ.out⟩
set_option maxHeartbeats 1000000 in
theorem lspoilW_grow (g n : Nat) (w : World) (hr : Rw w 62 g n) (hcm : n ≤ maxLen) (hn : n ≤ 4398046511000) :
    Calls Tryz.prog 56 #[.slice (some ⟨g, 0, none⟩) n n] w fun r w' => r = .returned (.tuple #[]) ∧ w.grownBy w' (some g) ∧ Rw w' 62 g n := by
  obtain ⟨i0, z, hi, hz0, hz1, hz2, hz3⟩ := labT.info
  obtain ⟨vs, hvl, hvo⟩ := hr.own n (Nat.le_refl _) hcm
  have HRW : Hid (Rw w 62 g n) := hr
  have HL : Hid (vs.length = n * 2) := hvl
  have HOL : Hid (∀ b, some (⟨g, 0, none⟩ : Addr) = some b → ∀ j u, vs[j]? = some u → (w.alloc (.cells (labE.flat [(spoilt, spoilt)]).toArray 62)).cell? (b.add j) = some u) := by
    intro b hb j u hj
    cases hb
    have h1 := World.ownsRow.cellAt (World.ownsRow.kept hvo (World.grownBy_alloc w (.cells (labE.flat [(spoilt, spoilt)]).toArray 62) none) (.inr (by simp [Value.ownBlock]))) j (by have := (List.getElem?_eq_some_iff.1 hj).1; omega)
    rw [hj] at h1
    rw [add_plain, Nat.zero_add]
    exact h1
  clear hvo hr hvl
  go_enter Tryz.func56, Tryz.ntmps56
  go_wp2_with (at_builtin; refine wpList_append_grows _ rfl (.tmp 5) (.tmp 7) 28 rfl 62 i0 z 2 32 labT.under hi hz0 hz1 hz2 hz3 (by decide) (some ⟨g, 0, none⟩) n n vs rfl (by simp) HL.out HOL.out ⟨w.heap.size, 0, none⟩ 1 1 (labE.flat [(spoilt, spoilt)]) rfl rfl (SRd.news (srd_lit2 labE 62 w [(spoilt, spoilt)])) (labE.flat_one _) (by omega) (by unfold maxLen; omega) (by omega) ?_; intro v' w1 hown hg1; obtain ⟨g1, c1, rfl, hge1, hlt1⟩ := World.ownsRow.form hown (by omega))
  have HG1 : Hid (w.grownBy w1 none) := gb_trans (World.grownBy_alloc w _ none) hg1 (by simp)
  have HR1 : Hid (Rw w1 62 g1 c1) := Rw.of hown
  have HGe : Hid (w.heap.size ≤ g1) := Nat.le_trans (World.grownBy_alloc w _ none).size hge1
  have hcm1 : n + 1 ≤ c1 ∧ (c1 : Int) ≤ 9223372036854775807 := by
    rcases hown.2 with ⟨h', _⟩ | ⟨g', cap', cur, h', _, _, h4, h5, _⟩
    · simp at h'
    · simp only [Value.slice.injEq, Option.some.injEq, Addr.mk.injEq, and_true, true_and] at h'
      obtain ⟨rfl, rfl⟩ := h'
      unfold maxLen at h5
      omega
  obtain ⟨hc1, hcm'⟩ := hcm1
  clear hown hg1 hge1 hlt1
  go_loopw [3] (fun i wr => ∃ k : Nat, k ≤ n + 1 ∧ i = .int .i64 k ∧ w.grownBy wr none ∧ Rw wr 62 g1 c1) (fun i _ => n + 1 - (intOf i).toNat)
  case atStart => exact ⟨0, Nat.zero_le _, rfl, HG1.out, HR1.out⟩
  case round =>
    obtain ⟨k, hk, rfl, hgr, hrow⟩ := hrel
    have HGR : Hid (w.grownBy wr none) := hgr
    have HROW : Hid (Rw wr 62 g1 c1) := hrow
    clear hgr hrow HG1 HR1
    by_cases hlt : k < n + 1
    · obtain ⟨v0, v1, c0, c1', f0, f1⟩ := HROW.out.cells k (by omega)
      have hi : (k : Int) < (n : Int) + 1 := by omega
      go_wp2
      go_roundw
      case rel => exact ⟨k + 1, by omega, by go_num, gb_trans HGR.out (gb_lput wr g1 k) (fun j hj => .inl (by simp at hj; have := HGe.out; omega)), (HROW.out.set _ _).set _ _⟩
      case measure => simp [intOf]; omega
    · have HRA : Hid (Rw wr 62 g n) := HRW.out.kept HGR.out (by simp)
      clear HROW
      go_wp2
      go_loopw [4] (fun i wq => ∃ k : Nat, k ≤ n ∧ i = .int .i64 k ∧ w.grownBy wq (some g) ∧ Rw wq 62 g n) (fun i _ => n - (intOf i).toNat)
      case atStart => exact ⟨0, Nat.zero_le _, rfl, gb_any HGR.out _, HRA.out⟩
      case round =>
        obtain ⟨q, hq, rfl, hgq, hrq⟩ := hrel
        have HGQ : Hid (w.grownBy wr (some g)) := hgq
        have HRQ : Hid (Rw wr 62 g n) := hrq
        clear hgq hrq HRA HGR
        by_cases hlt : q < n
        · obtain ⟨v0, v1, c0, c1', f0, f1⟩ := HRQ.out.cells q (by omega)
          have hi : (q : Int) < (n : Int) := by omega
          go_wp2
          go_roundw
          case rel => exact ⟨q + 1, by omega, by go_num, gb_trans HGQ.out (gb_lput wr g q) (fun j hj => .inr hj), (HRQ.out.set _ _).set _ _⟩
          case measure => simp [intOf]; omega
        · go_wp2
          go_end0
          exact ⟨rfl, HGQ.out, HRQ.out⟩
set_option maxHeartbeats 1000000 in
theorem lspoilW_nil (w : World) :
    Calls Tryz.prog 56 #[.slice none 0 0] w fun r w' => r = .returned (.tuple #[]) ∧ w.grownBy w' none := by
  obtain ⟨i0, z, hi, hz0, hz1, hz2, hz3⟩ := labT.info
  go_enter Tryz.func56, Tryz.ntmps56
  go_wp2_with (at_builtin; refine wpList_append_grows _ rfl (.tmp 5) (.tmp 7) 28 rfl 62 i0 z 2 32 labT.under hi hz0 hz1 hz2 hz3 (by decide) none 0 0 [] rfl (by simp) rfl (by simp) ⟨w.heap.size, 0, none⟩ 1 1 (labE.flat [(spoilt, spoilt)]) rfl rfl (SRd.news (srd_lit2 labE 62 w [(spoilt, spoilt)])) (labE.flat_one _) (by omega) (by unfold maxLen; omega) (by omega) ?_; intro v' w1 hown hg1; obtain ⟨g1, c1, rfl, hge1, hlt1⟩ := World.ownsRow.form hown (by omega))
  have HG1 : Hid (w.grownBy w1 none) := gb_trans (World.grownBy_alloc w _ none) hg1 (by simp)
  have HR1 : Hid (Rw w1 62 g1 c1) := Rw.of hown
  have HGe : Hid (w.heap.size ≤ g1) := Nat.le_trans (World.grownBy_alloc w _ none).size hge1
  have hcm1 : 1 ≤ c1 ∧ (c1 : Int) ≤ 9223372036854775807 := by
    rcases hown.2 with ⟨h', _⟩ | ⟨g', cap', cur, h', _, _, h4, h5, _⟩
    · simp at h'
    · simp only [Value.slice.injEq, Option.some.injEq, Addr.mk.injEq, and_true, true_and] at h'
      obtain ⟨rfl, rfl⟩ := h'
      unfold maxLen at h5
      omega
  obtain ⟨hc1, hcm'⟩ := hcm1
  clear hown hg1 hge1 hlt1
  go_loopw [3] (fun i wr => ∃ k : Nat, k ≤ 1 ∧ i = .int .i64 k ∧ w.grownBy wr none ∧ Rw wr 62 g1 c1) (fun i _ => 1 - (intOf i).toNat)
  case atStart => exact ⟨0, Nat.zero_le _, rfl, HG1.out, HR1.out⟩
  case round =>
    obtain ⟨k, hk, rfl, hgr, hrow⟩ := hrel
    have HGR : Hid (w.grownBy wr none) := hgr
    have HROW : Hid (Rw wr 62 g1 c1) := hrow
    clear hgr hrow HG1 HR1
    by_cases hlt : k < 1
    · obtain ⟨v0, v1, c0, c1', f0, f1⟩ := HROW.out.cells k (by omega)
      have hi : (k : Int) < 1 := by omega
      go_wp2
      go_roundw
      case rel => exact ⟨k + 1, by omega, by go_num, gb_trans HGR.out (gb_lput wr g1 k) (fun j hj => .inl (by simp at hj; have := HGe.out; omega)), (HROW.out.set _ _).set _ _⟩
      case measure => simp [intOf]; omega
    · clear HROW
      go_wp2
      refine wp_loop_rounds 1 ?_
      rw [rounds_succ]
      go_wp2
      go_end0
      exact ⟨rfl, HGR.out⟩
theorem lspoilW (a : Option Addr) (n c : Nat) (w : World) (ho : Loose w 62 a n c) (hn : n ≤ 4398046511000) :
    Calls Tryz.prog 56 #[.slice a n c] w fun r w' => r = .returned (.tuple #[]) ∧ w.grownBy w' (Value.slice a n c).ownBlock ∧ SameRows w w' := by
  rcases ho with ⟨rfl, rfl, rfl⟩ | ⟨g, rfl, hr, hnc, hcm⟩
  · refine (lspoilW_nil w).mono ?_
    rintro r w' ⟨rfl, hg⟩
    exact ⟨rfl, hg, SameRows.grown hg⟩
  · by_cases hc : n + 1 ≤ c
    · refine (lspoilW_fits g n c w hr hcm hc hn).mono ?_
      rintro r w' ⟨rfl, hg, h'⟩
      exact ⟨rfl, hg, SameRows.one hg hr h'⟩
    · obtain rfl : c = n := by omega
      refine (lspoilW_grow g c w hr hcm hn).mono ?_
      rintro r w' ⟨rfl, hg, h'⟩
      exact ⟨rfl, hg, SameRows.one hg hr h'⟩

theorem gb_pput (w : World) (g k : Nat) : w.grownBy ((w.setCell ⟨g, k * 2, none⟩ (.int .i64 (-7))).setCell ⟨g, k * 2 + 1, none⟩ (.int .u64 77)) (some g) := gb_trans (gb_set rfl) (gb_set rfl) (fun j hj => .inr hj)
set_option maxHeartbeats 1000000 in
theorem pspoilW_fits (g n c : Nat) (w : World) (hr : Rw w 51 g c) (hcm : c ≤ maxLen) (hc : n + 1 ≤ c) (hn : n ≤ 8796093022206) :
    Calls Tryz.prog 57 #[.slice (some ⟨g, 0, none⟩) n c] w fun r w' => r = .returned (.tuple #[]) ∧ w.grownBy w' (some g) ∧ Rw w' 51 g c := by
  obtain ⟨i0, z, hi, hz0, hz1, hz2, hz3⟩ := pntT.info
  obtain ⟨vs, hvl, hvo⟩ := hr.own n (by omega) hcm
  have hcm : (c : Int) ≤ 9223372036854775807 := by unfold maxLen at hcm; omega
  have HO : Hid ((w.alloc (.cells (pntE.flat [((-7, 77) : Pt)]).toArray 51)).ownsRow 0 51 2 (.slice (some ⟨g, 0, none⟩) n c) n vs) := World.ownsRow.kept hvo (World.grownBy_alloc w _ none) (.inr (by simp [Value.ownBlock]))
  clear hvo hr
  go_enter Tryz.func57, Tryz.ntmps57
  go_wp2_with (at_builtin; refine wpList_append_fits _ rfl (.tmp 5) (.tmp 7) 47 rfl 0 51 i0 2 pntT.under hi hz1 g n c vs rfl HO.out ⟨w.heap.size, 0, none⟩ 1 1 (pntE.flat [((-7, 77) : Pt)]) rfl rfl (SRd.news (srd_lit2 pntE 51 w [((-7, 77) : Pt)])) (pntE.flat_one _) hc ?_; intro w1 hown hg1)
  have HG1 : Hid (w.grownBy w1 (some g)) := gb_trans (gb_any (World.grownBy_alloc w _ none) _) hg1 (fun j hj => .inr hj)
  have HR1 : Hid (Rw w1 51 g c) := Rw.of hown
  clear hown hg1 HO
  go_loopw [3] (fun i wr => ∃ k : Nat, k ≤ n + 1 ∧ i = .int .i64 k ∧ w.grownBy wr (some g) ∧ Rw wr 51 g c) (fun i _ => n + 1 - (intOf i).toNat)
  case atStart => exact ⟨0, Nat.zero_le _, rfl, HG1.out, HR1.out⟩
  case round =>
    obtain ⟨k, hk, rfl, hgr, hrow⟩ := hrel
    have HGR : Hid (w.grownBy wr (some g)) := hgr
    have HROW : Hid (Rw wr 51 g c) := hrow
    clear hgr hrow HG1 HR1
    by_cases hlt : k < n + 1
    · obtain ⟨v0, v1, c0, c1, f0, f1⟩ := HROW.out.cells k (by omega)
      have hi : (k : Int) < (n : Int) + 1 := by omega
      go_wp2
      go_roundw
      case rel => exact ⟨k + 1, by omega, by go_num, gb_trans HGR.out (gb_pput wr g k) (fun j hj => .inr hj), (HROW.out.set _ _).set _ _⟩
      case measure => simp [intOf]; omega
    · go_wp2
      go_loopw [4] (fun i wq => ∃ k : Nat, k ≤ n ∧ i = .int .i64 k ∧ w.grownBy wq (some g) ∧ Rw wq 51 g c) (fun i _ => n - (intOf i).toNat)
      case atStart => exact ⟨0, Nat.zero_le _, rfl, HGR.out, HROW.out⟩
      case round =>
        obtain ⟨q, hq, rfl, hgq, hrq⟩ := hrel
        have HGQ : Hid (w.grownBy wr (some g)) := hgq
        have HRQ : Hid (Rw wr 51 g c) := hrq
        clear hgq hrq HROW HGR
        by_cases hlt : q < n
        · obtain ⟨v0, v1, c0, c1, f0, f1⟩ := HRQ.out.cells q (by omega)
          have hi : (q : Int) < (n : Int) := by omega
          go_wp2
          go_roundw
          case rel => exact ⟨q + 1, by omega, by go_num, gb_trans HGQ.out (gb_pput wr g q) (fun j hj => .inr hj), (HRQ.out.set _ _).set _ _⟩
          case measure => simp [intOf]; omega
        · go_wp2
          go_end0
          exact ⟨rfl, HGQ.out, HRQ.out⟩
set_option maxHeartbeats 1000000 in
theorem pspoilW_grow (g n : Nat) (w : World) (hr : Rw w 51 g n) (hcm : n ≤ maxLen) (hn : n ≤ 8796093022206) :
    Calls Tryz.prog 57 #[.slice (some ⟨g, 0, none⟩) n n] w fun r w' => r = .returned (.tuple #[]) ∧ w.grownBy w' (some g) ∧ Rw w' 51 g n := by
  obtain ⟨i0, z, hi, hz0, hz1, hz2, hz3⟩ := pntT.info
  obtain ⟨vs, hvl, hvo⟩ := hr.own n (Nat.le_refl _) hcm
  have HRW : Hid (Rw w 51 g n) := hr
  have HL : Hid (vs.length = n * 2) := hvl
  have HOL : Hid (∀ b, some (⟨g, 0, none⟩ : Addr) = some b → ∀ j u, vs[j]? = some u → (w.alloc (.cells (pntE.flat [((-7, 77) : Pt)]).toArray 51)).cell? (b.add j) = some u) := by
    intro b hb j u hj
    cases hb
    have h1 := World.ownsRow.cellAt (World.ownsRow.kept hvo (World.grownBy_alloc w (.cells (pntE.flat [((-7, 77) : Pt)]).toArray 51) none) (.inr (by simp [Value.ownBlock]))) j (by have := (List.getElem?_eq_some_iff.1 hj).1; omega)
    rw [hj] at h1
    rw [add_plain, Nat.zero_add]
    exact h1
  clear hvo hr hvl
  go_enter Tryz.func57, Tryz.ntmps57
  go_wp2_with (at_builtin; refine wpList_append_grows _ rfl (.tmp 5) (.tmp 7) 47 rfl 51 i0 z 2 16 pntT.under hi hz0 hz1 hz2 hz3 (by decide) (some ⟨g, 0, none⟩) n n vs rfl (by simp) HL.out HOL.out ⟨w.heap.size, 0, none⟩ 1 1 (pntE.flat [((-7, 77) : Pt)]) rfl rfl (SRd.news (srd_lit2 pntE 51 w [((-7, 77) : Pt)])) (pntE.flat_one _) (by omega) (by unfold maxLen; omega) (by omega) ?_; intro v' w1 hown hg1; obtain ⟨g1, c1, rfl, hge1, hlt1⟩ := World.ownsRow.form hown (by omega))
  have HG1 : Hid (w.grownBy w1 none) := gb_trans (World.grownBy_alloc w _ none) hg1 (by simp)
  have HR1 : Hid (Rw w1 51 g1 c1) := Rw.of hown
  have HGe : Hid (w.heap.size ≤ g1) := Nat.le_trans (World.grownBy_alloc w _ none).size hge1
  have hcm1 : n + 1 ≤ c1 ∧ (c1 : Int) ≤ 9223372036854775807 := by
    rcases hown.2 with ⟨h', _⟩ | ⟨g', cap', cur, h', _, _, h4, h5, _⟩
    · simp at h'
    · simp only [Value.slice.injEq, Option.some.injEq, Addr.mk.injEq, and_true, true_and] at h'
      obtain ⟨rfl, rfl⟩ := h'
      unfold maxLen at h5
      omega
  obtain ⟨hc1, hcm'⟩ := hcm1
  clear hown hg1 hge1 hlt1
  go_loopw [3] (fun i wr => ∃ k : Nat, k ≤ n + 1 ∧ i = .int .i64 k ∧ w.grownBy wr none ∧ Rw wr 51 g1 c1) (fun i _ => n + 1 - (intOf i).toNat)
  case atStart => exact ⟨0, Nat.zero_le _, rfl, HG1.out, HR1.out⟩
  case round =>
    obtain ⟨k, hk, rfl, hgr, hrow⟩ := hrel
    have HGR : Hid (w.grownBy wr none) := hgr
    have HROW : Hid (Rw wr 51 g1 c1) := hrow
    clear hgr hrow HG1 HR1
    by_cases hlt : k < n + 1
    · obtain ⟨v0, v1, c0, c1', f0, f1⟩ := HROW.out.cells k (by omega)
      have hi : (k : Int) < (n : Int) + 1 := by omega
      go_wp2
      go_roundw
      case rel => exact ⟨k + 1, by omega, by go_num, gb_trans HGR.out (gb_pput wr g1 k) (fun j hj => .inl (by simp at hj; have := HGe.out; omega)), (HROW.out.set _ _).set _ _⟩
      case measure => simp [intOf]; omega
    · have HRA : Hid (Rw wr 51 g n) := HRW.out.kept HGR.out (by simp)
      clear HROW
      go_wp2
      go_loopw [4] (fun i wq => ∃ k : Nat, k ≤ n ∧ i = .int .i64 k ∧ w.grownBy wq (some g) ∧ Rw wq 51 g n) (fun i _ => n - (intOf i).toNat)
      case atStart => exact ⟨0, Nat.zero_le _, rfl, gb_any HGR.out _, HRA.out⟩
      case round =>
        obtain ⟨q, hq, rfl, hgq, hrq⟩ := hrel
        have HGQ : Hid (w.grownBy wr (some g)) := hgq
        have HRQ : Hid (Rw wr 51 g n) := hrq
        clear hgq hrq HRA HGR
        by_cases hlt : q < n
        · obtain ⟨v0, v1, c0, c1', f0, f1⟩ := HRQ.out.cells q (by omega)
          have hi : (q : Int) < (n : Int) := by omega
          go_wp2
          go_roundw
          case rel => exact ⟨q + 1, by omega, by go_num, gb_trans HGQ.out (gb_pput wr g q) (fun j hj => .inr hj), (HRQ.out.set _ _).set _ _⟩
          case measure => simp [intOf]; omega
        · go_wp2
          go_end0
          exact ⟨rfl, HGQ.out, HRQ.out⟩
set_option maxHeartbeats 1000000 in
theorem pspoilW_nil (w : World) :
    Calls Tryz.prog 57 #[.slice none 0 0] w fun r w' => r = .returned (.tuple #[]) ∧ w.grownBy w' none := by
  obtain ⟨i0, z, hi, hz0, hz1, hz2, hz3⟩ := pntT.info
  go_enter Tryz.func57, Tryz.ntmps57
  go_wp2_with (at_builtin; refine wpList_append_grows _ rfl (.tmp 5) (.tmp 7) 47 rfl 51 i0 z 2 16 pntT.under hi hz0 hz1 hz2 hz3 (by decide) none 0 0 [] rfl (by simp) rfl (by simp) ⟨w.heap.size, 0, none⟩ 1 1 (pntE.flat [((-7, 77) : Pt)]) rfl rfl (SRd.news (srd_lit2 pntE 51 w [((-7, 77) : Pt)])) (pntE.flat_one _) (by omega) (by unfold maxLen; omega) (by omega) ?_; intro v' w1 hown hg1; obtain ⟨g1, c1, rfl, hge1, hlt1⟩ := World.ownsRow.form hown (by omega))
  have HG1 : Hid (w.grownBy w1 none) := gb_trans (World.grownBy_alloc w _ none) hg1 (by simp)
  have HR1 : Hid (Rw w1 51 g1 c1) := Rw.of hown
  have HGe : Hid (w.heap.size ≤ g1) := Nat.le_trans (World.grownBy_alloc w _ none).size hge1
  have hcm1 : 1 ≤ c1 ∧ (c1 : Int) ≤ 9223372036854775807 := by
    rcases hown.2 with ⟨h', _⟩ | ⟨g', cap', cur, h', _, _, h4, h5, _⟩
    · simp at h'
    · simp only [Value.slice.injEq, Option.some.injEq, Addr.mk.injEq, and_true, true_and] at h'
      obtain ⟨rfl, rfl⟩ := h'
      unfold maxLen at h5
      omega
  obtain ⟨hc1, hcm'⟩ := hcm1
  clear hown hg1 hge1 hlt1
  go_loopw [3] (fun i wr => ∃ k : Nat, k ≤ 1 ∧ i = .int .i64 k ∧ w.grownBy wr none ∧ Rw wr 51 g1 c1) (fun i _ => 1 - (intOf i).toNat)
  case atStart => exact ⟨0, Nat.zero_le _, rfl, HG1.out, HR1.out⟩
  case round =>
    obtain ⟨k, hk, rfl, hgr, hrow⟩ := hrel
    have HGR : Hid (w.grownBy wr none) := hgr
    have HROW : Hid (Rw wr 51 g1 c1) := hrow
    clear hgr hrow HG1 HR1
    by_cases hlt : k < 1
    · obtain ⟨v0, v1, c0, c1', f0, f1⟩ := HROW.out.cells k (by omega)
      have hi : (k : Int) < 1 := by omega
      go_wp2
      go_roundw
      case rel => exact ⟨k + 1, by omega, by go_num, gb_trans HGR.out (gb_pput wr g1 k) (fun j hj => .inl (by simp at hj; have := HGe.out; omega)), (HROW.out.set _ _).set _ _⟩
      case measure => simp [intOf]; omega
    · clear HROW
      go_wp2
      refine wp_loop_rounds 1 ?_
      rw [rounds_succ]
      go_wp2
      go_end0
      exact ⟨rfl, HGR.out⟩
theorem pspoilW (a : Option Addr) (n c : Nat) (w : World) (ho : Loose w 51 a n c) (hn : n ≤ 8796093022206) :
    Calls Tryz.prog 57 #[.slice a n c] w fun r w' => r = .returned (.tuple #[]) ∧ w.grownBy w' (Value.slice a n c).ownBlock ∧ SameRows w w' := by
  rcases ho with ⟨rfl, rfl, rfl⟩ | ⟨g, rfl, hr, hnc, hcm⟩
  · refine (pspoilW_nil w).mono ?_
    rintro r w' ⟨rfl, hg⟩
    exact ⟨rfl, hg, SameRows.grown hg⟩
  · by_cases hc : n + 1 ≤ c
    · refine (pspoilW_fits g n c w hr hcm hc hn).mono ?_
      rintro r w' ⟨rfl, hg, h'⟩
      exact ⟨rfl, hg, SameRows.one hg hr h'⟩
    · obtain rfl : c = n := by omega
      refine (pspoilW_grow g c w hr hcm hn).mono ?_
      rintro r w' ⟨rfl, hg, h'⟩
      exact ⟨rfl, hg, SameRows.one hg hr h'⟩
end Go.Proofs.YtpabbmiibehfjaaGreatDoor

/- What a law spoils: series. -/
namespace Go.Proofs.YtpabbmiibehfjaaGreatDoor
open Go.RowKit Go.Maps
set_option linter.unusedVariables false
set_option maxRecDepth 20000

theorem Rw.typed {w : World} {e : TypeId} {g cap : Nat} (h : Rw w e g cap) : Typed w g e := by
  obtain ⟨cur, h1, _⟩ := h
  exact ⟨cur, h1⟩
/-- k series are spoilt. -/
structure SpAt (w wr : World) (X : Nat → Prop) (b c : Nat) (raw : List (Sv × Sv)) (k : Nat) : Prop where
  kept : Kept w wr X
  same : SameRows w wr
  row : Rw wr 49 b c
  cells : ∀ (j : Nat) (r : Sv × Sv), k ≤ j → raw[j]? = some r → wr.cell? ⟨b, j * 2, none⟩ = some (svV r.1) ∧ wr.cell? ⟨b, j * 2 + 1, none⟩ = some (svV r.2)
theorem cell_stays {w w' : World} {row : Option Nat} {b o : Nat} {v : Value} (hg : w.grownBy w' row) (hb : b < w.heap.size) (hne : some b ≠ row) (h : w.cell? ⟨b, o, none⟩ = some v) : w'.cell? ⟨b, o, none⟩ = some v := by
  have := hg.block b hb hne
  simpa [World.cell?, this] using h
theorem loose_typed {w : World} {e : TypeId} {a : Option Addr} {n c k : Nat} (h : Loose w e a n c) (hk : Value.ownBlock (.slice a n c) = some k) : Typed w k e := by
  rcases h with ⟨rfl, _⟩ | ⟨g, rfl, hr, _⟩
  · simp [Value.ownBlock] at hk
  · have : g = k := by simpa [Value.ownBlock] using hk
    subst this
    exact hr.typed
theorem SpAt.spoil {w wr w2 : World} {X : Nat → Prop} {b c : Nat} {raw : List (Sv × Sv)} {k : Nat} {e : TypeId} {a : Option Addr} {n d : Nat} (h : SpAt w wr X b c raw k) (he : e ≠ 49) (hl : Loose wr e a n d) (hX : ∀ x, Value.ownBlock (.slice a n d) = some x → X x) (hg : wr.grownBy w2 (Value.slice a n d).ownBlock) (hs : SameRows wr w2) : SpAt w w2 X b c raw k := by
  have hne : some b ≠ (Value.slice a n d).ownBlock := fun e1 => Typed.ne h.row.typed (loose_typed hl e1.symm) (fun e2 => he e2.symm) rfl
  refine ⟨h.kept.trans (Kept.of hg hX) (fun k _ hk => hk), h.same.trans hs, hs.rw h.row, fun j r hj hr => ?_⟩
  obtain ⟨h1, h2⟩ := h.cells j r hj hr
  exact ⟨cell_stays hg h.row.lt hne h1, cell_stays hg h.row.lt hne h2⟩
theorem SpAt.store {w wr : World} {X : Nat → Prop} {b c : Nat} {raw : List (Sv × Sv)} {k : Nat} (h : SpAt w wr X b c raw k) (hX : X b) (u v : Value) : SpAt w ((wr.setCell ⟨b, k * 2, none⟩ u).setCell ⟨b, k * 2 + 1, none⟩ v) X b c raw (k + 1) := by
  have hg : wr.grownBy ((wr.setCell ⟨b, k * 2, none⟩ u).setCell ⟨b, k * 2 + 1, none⟩ v) (some b) := gb_trans (gb_set rfl) (gb_set rfl) (fun j hj => .inr hj)
  have hr := (h.row.set (k * 2) u).set (k * 2 + 1) v
  refine ⟨h.kept.trans (Kept.of hg (fun x hx => by cases hx; exact hX)) (fun k _ hk => hk), h.same.trans (SameRows.one hg h.row hr), hr, fun j r hj hrj => ?_⟩
  obtain ⟨h1, h2⟩ := h.cells j r (by omega) hrj
  refine ⟨?_, ?_⟩
  · rw [World.cell?_setCell_other, World.cell?_setCell_other]
    · exact h1
    · simp <;> omega
    · simp <;> omega
  · rw [World.cell?_setCell_other, World.cell?_setCell_other]
    · exact h2
    · simp <;> omega
    · simp <;> omega
set_option maxHeartbeats 2000000 in
theorem h_spoil (v : Value) (X : Nat → Prop) (S : List Ser) (w : World) (h : SerOut w X v S) (hz : S.length ≤ 1024) (hz2 : ∀ s ∈ S, s.1.length ≤ 4398046511000 ∧ s.2.length ≤ 8796093022206) :
    Calls Tryz.prog 31 #[v] w fun e w' => e = .returned (.tuple #[]) ∧ Kept w w' X := by
  obtain ⟨raw, hown, hX, hser⟩ := h
  obtain ⟨a, c, rfl⟩ := sown_slice hown
  have hlen : raw.length = S.length := SOwn.len hown
  by_cases h0 : S.length = 0
  · rw [h0]
    clear hown hser hX
    go_enter Tryz.func31, Tryz.ntmps31
    go_wp2
    refine wp_loop_rounds 1 ?_
    rw [rounds_succ]
    go_wp2
    go_end0
    exact ⟨rfl, Kept.refl _ _⟩
  obtain ⟨b, rfl, hrow, hnc, hcm⟩ : ∃ b, a = some ⟨b, 0, none⟩ ∧ Rw w 49 b c ∧ S.length ≤ c ∧ c ≤ maxLen := by
    rcases Loose.of rfl hown with ⟨_, h1, _⟩ | ⟨g, h1, h2, h3, h4⟩
    · omega
    · exact ⟨g, h1, h2, h3, h4⟩
  have HXB : Hid (X b) := hX b rfl
  have HSP0 : Hid (SpAt w w X b c raw 0) := by
    refine ⟨Kept.refl _ _, fun b cur t h => ⟨cur, h, rfl⟩, hrow, fun j r _ hr => ?_⟩
    obtain ⟨b', off, e, hc⟩ := (SOwn.rd hown).at (by rw [hlen]; omega)
    cases e
    have h1 := hc j r 0 _ hr rfl
    have h2 := hc j r 1 _ hr rfl
    simp only [Nat.zero_add, Nat.add_zero] at h1 h2
    exact ⟨h1, h2⟩
  have HS : Hid (∀ (i : Nat) (r : Sv × Sv), raw[i]? = some r → Loose w 62 r.1.1 r.1.2.1 r.1.2.2 ∧ Loose w 51 r.2.1 r.2.2.1 r.2.2.2 ∧ (∀ x, Value.ownBlock (svV r.1) = some x → X x) ∧ (∀ x, Value.ownBlock (svV r.2) = some x → X x) ∧ r.1.2.1 ≤ 4398046511000 ∧ r.2.2.1 ≤ 8796093022206) := by
    intro i r hr
    obtain ⟨s, hs⟩ : ∃ s, S[i]? = some s := ⟨_, List.getElem?_eq_getElem (by have := (List.getElem?_eq_some_iff.1 hr).1; omega)⟩
    have hk := hser i r s hr hs
    have hb := hz2 s (List.mem_of_getElem? hs)
    have l1 := Loose.of (E := labE) rfl hk.lab
    have l2 := Loose.of (E := pntE) rfl hk.pts
    rw [← hk.ln] at l1
    rw [← hk.pn] at l2
    refine ⟨l1, l2, fun x hx => ?_, fun x hx => ?_, by rw [hk.ln]; exact hb.1, by rw [hk.pn]; exact hb.2⟩
    · cases ha : r.1.1 with
      | none => simp [svV, ha, Value.ownBlock] at hx
      | some y =>
        have : y.block = x := by simpa [svV, ha, Value.ownBlock] using hx
        rw [← this]
        exact hk.lx y ha
    · cases ha : r.2.1 with
      | none => simp [svV, ha, Value.ownBlock] at hx
      | some y =>
        have : y.block = x := by simpa [svV, ha, Value.ownBlock] using hx
        rw [← this]
        exact hk.px y ha
  obtain ⟨M, eM⟩ : ∃ M, M = S.length := ⟨_, rfl⟩
  have EM : Hid (M = raw.length) := eM.trans hlen.symm
  rw [← eM] at hz hnc ⊢
  clear hown hX hser hlen h0 hrow hcm hz2 eM
  go_enter Tryz.func31, Tryz.ntmps31
  go_wp2
  go_loopw [2] (fun i wr => ∃ k : Nat, k ≤ M ∧ i = .int .i64 k ∧ SpAt w wr X b c raw k) (fun i _ => M - (intOf i).toNat)
  case atStart => exact ⟨0, Nat.zero_le _, rfl, HSP0.out⟩
  case round =>
    obtain ⟨k, hk, rfl, hsp⟩ := hrel
    have HSP : Hid (SpAt w wr X b c raw k) := hsp
    clear hsp HSP0
    by_cases hlt : k < M
    · have hi : (k : Int) < (M : Int) := by omega
      obtain ⟨⟨⟨la, ln, lc⟩, ⟨pa, pn, pc⟩⟩, hr⟩ : ∃ r, raw[k]? = some r := ⟨_, List.getElem?_eq_getElem (by have := EM.out; omega)⟩
      obtain ⟨l1, l2, x1, x2, n1, n2⟩ := HS.out k _ hr
      simp only [svV] at l1 l2 x1 x2 n1 n2
      have c0 := (HSP.out.cells k _ (Nat.le_refl _) hr).1
      simp only [svV] at c0
      have HL1 : Hid (Loose wr 62 la ln lc) := l1.same HSP.out.same
      have HL2 : Hid (Loose w 51 pa pn pc) := l2
      have HX1 : Hid (∀ x, Value.ownBlock (.slice la ln lc) = some x → X x) := x1
      have HX2 : Hid (∀ x, Value.ownBlock (.slice pa pn pc) = some x → X x) := x2
      have HR : Hid (raw[k]? = some ((la, ln, lc), (pa, pn, pc))) := hr
      have HN2 : Hid (pn ≤ 8796093022206) := n2
      clear l1 l2 x1 x2 hr n2
      go_wp2_with fail
      refine (lspoilW la ln lc wr HL1.out n1).mono ?_
      rintro e w2 ⟨rfl, hg2, hs2⟩
      have HSP2 : Hid (SpAt w w2 X b c raw k) := HSP.out.spoil (by decide) HL1.out HX1.out hg2 hs2
      have d1 := (HSP2.out.cells k _ (Nat.le_refl _) HR.out).2
      simp only [svV] at d1
      clear hg2 hs2 HSP HL1 HX1 c0
      go_wp2_with fail
      refine (pspoilW pa pn pc w2 (HL2.out.same HSP2.out.same) HN2.out).mono ?_
      rintro e w3 ⟨rfl, hg3, hs3⟩
      have HSP3 : Hid (SpAt w w3 X b c raw k) := HSP2.out.spoil (by decide) (HL2.out.same HSP2.out.same) HX2.out hg3 hs3
      obtain ⟨v0, v1, z0, z1, f0, f1⟩ := HSP3.out.row.cells k (by omega)
      clear hg3 hs3 HSP2 HL2 HX2 d1
      go_wp2
      go_roundw
      case rel => exact ⟨k + 1, by omega, by go_num, HSP3.out.store HXB.out _ _⟩
      case measure => simp [intOf]; omega
    · go_wp2
      go_end0
      exact ⟨rfl, HSP.out.kept⟩
end Go.Proofs.YtpabbmiibehfjaaGreatDoor

