/- Several texts in one: Va, Vb. -/
import Derived.Test.YtaljjemickonaaaGreatMt
import Derived.Test.YtaljjemickonaaaGreatNd
/- Rings: a list of words is written over. -/
namespace Go.Proofs.YtaljjemickonaaaGreat
open Go.ChangeShapes Go.WideShapes Go.ChangeAt Go.RowKit
set_option linter.unusedVariables false
set_option maxRecDepth 20000

/-- A row of so many numbers lies in a block. -/
def Rw1 (w : World) (g cap : Nat) : Prop := ∃ cur : Array Value, w.heap[g]? = some (.cells cur 43 (0, 0)) ∧ cur.size = cap * 1
theorem Rw1.lt {w : World} {g cap : Nat} (h : Rw1 w g cap) : g < w.heap.size := by
  obtain ⟨cur, h1, _⟩ := h
  exact (Array.getElem?_eq_some_iff.1 h1).1
theorem Rw1.cells {w : World} {g cap : Nat} (h : Rw1 w g cap) (k : Nat) (hk : k < cap) : ∃ v0, w.cell? ⟨g, k, none⟩ = some v0 ∧ w.frozen? ⟨g, k, none⟩ = false := by
  obtain ⟨cur, h1, h2⟩ := h
  exact ⟨_, by rw [cell_of_row w g _ cur 43 _ h1, Array.getElem?_eq_getElem (by omega)], by simp [World.frozen?, h1]⟩
theorem Rw1.set {w : World} {g cap : Nat} (h : Rw1 w g cap) (j : Nat) (v : Value) : Rw1 (w.setCell ⟨g, j, none⟩ v) g cap := by
  obtain ⟨cur, h1, h2⟩ := h
  exact ⟨cur.setIfInBounds j v, by rw [setCell_eq_setRow w g j cur 43 (0, 0) v h1, setRow_heap w g cur _ 43 _ h1], by simpa using h2⟩
theorem Rw1.kept {w w' : World} {row : Option Nat} {g cap : Nat} (h : Rw1 w g cap) (hg : w.grownBy w' row) (hne : some g ≠ row) : Rw1 w' g cap := by
  have := h.lt
  obtain ⟨cur, h1, h2⟩ := h
  exact ⟨cur, (hg.block g this hne).trans h1, h2⟩
theorem Rw1.own {w : World} {g cap : Nat} (h : Rw1 w g cap) (n : Nat) (hn : n ≤ cap) (hc : cap ≤ maxLen) : ∃ vs : List Value, vs.length = n * 1 ∧ w.ownsRow 0 43 1 (.slice (some ⟨g, 0, none⟩) n cap) n vs := by
  obtain ⟨cur, h1, h2⟩ := h
  have hl : (cur.toList.take (n * 1)).length = n * 1 := by
    rw [List.length_take, Array.length_toList, h2]
    omega
  exact ⟨cur.toList.take (n * 1), hl, hl, .inr ⟨g, cap, cur, rfl, Nat.zero_le _, h1, hn, hc, h2, rfl⟩⟩
theorem Rw1.of {w : World} {base : Nat} {g n cap : Nat} {vs : List Value} (h : w.ownsRow base 43 1 (.slice (some ⟨g, 0, none⟩) n cap) n vs) : Rw1 w g cap := by
  rcases h.2 with ⟨h', _⟩ | ⟨g', cap', cur, h', _, h2, _, _, h5, _⟩
  · simp at h'
  · simp only [Value.slice.injEq, Option.some.injEq, Addr.mk.injEq, and_true, true_and] at h'
    obtain ⟨rfl, rfl⟩ := h'
    exact ⟨cur, h2, h5⟩
set_option maxHeartbeats 1000000 in
theorem wspoil_fits (g n c : Nat) (w : World) (hr : Rw1 w g c) (hcm : c ≤ maxLen) (hc : n + 1 ≤ c) (hn : n ≤ 35184372088000) :
    Calls Tryz.prog 53 #[.slice (some ⟨g, 0, none⟩) n c] w fun r w' => r = .returned (.tuple #[]) ∧ w.grownBy w' (some g) ∧ Rw1 w' g c := by
  obtain ⟨i0, z, hi, hz0, hz1, hz2, hz3⟩ := wordT.info
  obtain ⟨vs, hvl, hvo⟩ := hr.own n (by omega) hcm
  have hcm : (c : Int) ≤ 9223372036854775807 := by unfold maxLen at hcm; omega
  have HO : Hid ((w.alloc (.cells (wordE.flat [(7777777 : Int)]).toArray 43)).ownsRow 0 43 1 (.slice (some ⟨g, 0, none⟩) n c) n vs) := World.ownsRow.kept hvo (World.grownBy_alloc w _ none) (.inr (by simp [Value.ownBlock]))
  clear hvo hr
  go_enter Tryz.func53, Tryz.ntmps53
  go_wp2_with (at_builtin; refine wpList_append_fits _ rfl (.tmp 5) (.tmp 6) 36 rfl 0 43 i0 1 wordT.under hi hz1 g n c vs rfl HO.out ⟨w.heap.size, 0, none⟩ 1 1 (wordE.flat [(7777777 : Int)]) rfl rfl (SRd.news (srd_lit wordE 43 w [(7777777 : Int)])) (wordE.flat_one _) hc ?_; intro w1 hown hg1)
  have HG1 : Hid (w.grownBy w1 (some g)) := gb_trans (gb_any (World.grownBy_alloc w _ none) _) hg1 (fun j hj => .inr hj)
  have HR1 : Hid (Rw1 w1 g c) := Rw1.of hown
  clear hown hg1 HO
  go_loopw [3] (fun i wr => ∃ k : Nat, k ≤ n + 1 ∧ i = .int .i64 k ∧ w.grownBy wr (some g) ∧ Rw1 wr g c) (fun i _ => n + 1 - (intOf i).toNat)
  case atStart => exact ⟨0, Nat.zero_le _, rfl, HG1.out, HR1.out⟩
  case round =>
    obtain ⟨k, hk, rfl, hgr, hrow⟩ := hrel
    have HGR : Hid (w.grownBy wr (some g)) := hgr
    have HROW : Hid (Rw1 wr g c) := hrow
    clear hgr hrow HG1 HR1
    by_cases hlt : k < n + 1
    · obtain ⟨v0, c0, f0⟩ := HROW.out.cells k (by omega)
      have hi : (k : Int) < (n : Int) + 1 := by omega
      go_wp2
      go_roundw
      case rel => exact ⟨k + 1, by omega, by go_num, gb_trans HGR.out (gb_set (g := g) rfl) (fun j hj => .inr hj), HROW.out.set _ _⟩
      case measure => simp [intOf]; omega
    · go_wp2
      go_loopw [4] (fun i wq => ∃ k : Nat, k ≤ n ∧ i = .int .i64 k ∧ w.grownBy wq (some g) ∧ Rw1 wq g c) (fun i _ => n - (intOf i).toNat)
      case atStart => exact ⟨0, Nat.zero_le _, rfl, HGR.out, HROW.out⟩
      case round =>
        obtain ⟨q, hq, rfl, hgq, hrq⟩ := hrel
        have HGQ : Hid (w.grownBy wr (some g)) := hgq
        have HRQ : Hid (Rw1 wr g c) := hrq
        clear hgq hrq HROW HGR
        by_cases hlt : q < n
        · obtain ⟨v0, c0, f0⟩ := HRQ.out.cells q (by omega)
          have hi : (q : Int) < (n : Int) := by omega
          go_wp2
          go_roundw
          case rel => exact ⟨q + 1, by omega, by go_num, gb_trans HGQ.out (gb_set (g := g) rfl) (fun j hj => .inr hj), HRQ.out.set _ _⟩
          case measure => simp [intOf]; omega
        · go_wp2
          go_end0
          exact ⟨rfl, HGQ.out, HRQ.out⟩
set_option maxHeartbeats 1000000 in
theorem wspoil_grow (g n : Nat) (w : World) (hr : Rw1 w g n) (hcm : n ≤ maxLen) (hn : n ≤ 35184372088000) :
    Calls Tryz.prog 53 #[.slice (some ⟨g, 0, none⟩) n n] w fun r w' => r = .returned (.tuple #[]) ∧ w.grownBy w' (some g) ∧ Rw1 w' g n := by
  obtain ⟨i0, z, hi, hz0, hz1, hz2, hz3⟩ := wordT.info
  obtain ⟨vs, hvl, hvo⟩ := hr.own n (Nat.le_refl _) hcm
  have HRW : Hid (Rw1 w g n) := hr
  have HL : Hid (vs.length = n * 1) := hvl
  have HOL : Hid (∀ b, some (⟨g, 0, none⟩ : Addr) = some b → ∀ j u, vs[j]? = some u → (w.alloc (.cells (wordE.flat [(7777777 : Int)]).toArray 43)).cell? (b.add j) = some u) := by
    intro b hb j u hj
    cases hb
    have h1 := World.ownsRow.cellAt (World.ownsRow.kept hvo (World.grownBy_alloc w (.cells (wordE.flat [(7777777 : Int)]).toArray 43) none) (.inr (by simp [Value.ownBlock]))) j (by have := (List.getElem?_eq_some_iff.1 hj).1; omega)
    rw [hj] at h1
    rw [add_plain, Nat.zero_add]
    exact h1
  clear hvo hr hvl
  go_enter Tryz.func53, Tryz.ntmps53
  go_wp2_with (at_builtin; refine wpList_append_grows _ rfl (.tmp 5) (.tmp 6) 36 rfl 43 i0 z 1 4 wordT.under hi hz0 hz1 hz2 hz3 (by decide) (some ⟨g, 0, none⟩) n n vs rfl (by simp) HL.out HOL.out ⟨w.heap.size, 0, none⟩ 1 1 (wordE.flat [(7777777 : Int)]) rfl rfl (SRd.news (srd_lit wordE 43 w [(7777777 : Int)])) (wordE.flat_one _) (by omega) (by unfold maxLen; omega) (by omega) ?_; intro v' w1 hown hg1; obtain ⟨g1, c1, rfl, hge1, hlt1⟩ := World.ownsRow.form hown (by omega))
  have HG1 : Hid (w.grownBy w1 none) := gb_trans (World.grownBy_alloc w _ none) hg1 (by simp)
  have HR1 : Hid (Rw1 w1 g1 c1) := Rw1.of hown
  have HGe : Hid (w.heap.size ≤ g1) := Nat.le_trans (World.grownBy_alloc w _ none).size hge1
  have hcm1 : n + 1 ≤ c1 ∧ (c1 : Int) ≤ 9223372036854775807 := by
    rcases hown.2 with ⟨h', _⟩ | ⟨g', cap', cur, h', _, _, h4, h5, _⟩
    · simp at h'
    · simp only [Value.slice.injEq, Option.some.injEq, Addr.mk.injEq, and_true, true_and] at h'
      obtain ⟨rfl, rfl⟩ := h'
      unfold maxLen at h5
      omega
  obtain ⟨hc1, hcm'⟩ := hcm1
  clear hown hg1 hge1 hlt1
  go_loopw [3] (fun i wr => ∃ k : Nat, k ≤ n + 1 ∧ i = .int .i64 k ∧ w.grownBy wr none ∧ Rw1 wr g1 c1) (fun i _ => n + 1 - (intOf i).toNat)
  case atStart => exact ⟨0, Nat.zero_le _, rfl, HG1.out, HR1.out⟩
  case round =>
    obtain ⟨k, hk, rfl, hgr, hrow⟩ := hrel
    have HGR : Hid (w.grownBy wr none) := hgr
    have HROW : Hid (Rw1 wr g1 c1) := hrow
    clear hgr hrow HG1 HR1
    by_cases hlt : k < n + 1
    · obtain ⟨v0, c0, f0⟩ := HROW.out.cells k (by omega)
      have hi : (k : Int) < (n : Int) + 1 := by omega
      go_wp2
      go_roundw
      case rel => exact ⟨k + 1, by omega, by go_num, gb_trans HGR.out (gb_set (g := g1) rfl) (fun j hj => .inl (by simp at hj; have := HGe.out; omega)), HROW.out.set _ _⟩
      case measure => simp [intOf]; omega
    · have HRA : Hid (Rw1 wr g n) := HRW.out.kept HGR.out (by simp)
      clear HROW
      go_wp2
      go_loopw [4] (fun i wq => ∃ k : Nat, k ≤ n ∧ i = .int .i64 k ∧ w.grownBy wq (some g) ∧ Rw1 wq g n) (fun i _ => n - (intOf i).toNat)
      case atStart => exact ⟨0, Nat.zero_le _, rfl, gb_any HGR.out _, HRA.out⟩
      case round =>
        obtain ⟨q, hq, rfl, hgq, hrq⟩ := hrel
        have HGQ : Hid (w.grownBy wr (some g)) := hgq
        have HRQ : Hid (Rw1 wr g n) := hrq
        clear hgq hrq HRA HGR
        by_cases hlt : q < n
        · obtain ⟨v0, c0, f0⟩ := HRQ.out.cells q (by omega)
          have hi : (q : Int) < (n : Int) := by omega
          go_wp2
          go_roundw
          case rel => exact ⟨q + 1, by omega, by go_num, gb_trans HGQ.out (gb_set (g := g) rfl) (fun j hj => .inr hj), HRQ.out.set _ _⟩
          case measure => simp [intOf]; omega
        · go_wp2
          go_end0
          exact ⟨rfl, HGQ.out, HRQ.out⟩
set_option maxHeartbeats 1000000 in
theorem wspoil_nil (w : World) :
    Calls Tryz.prog 53 #[.slice none 0 0] w fun r w' => r = .returned (.tuple #[]) ∧ w.grownBy w' none := by
  obtain ⟨i0, z, hi, hz0, hz1, hz2, hz3⟩ := wordT.info
  go_enter Tryz.func53, Tryz.ntmps53
  go_wp2_with (at_builtin; refine wpList_append_grows _ rfl (.tmp 5) (.tmp 6) 36 rfl 43 i0 z 1 4 wordT.under hi hz0 hz1 hz2 hz3 (by decide) none 0 0 [] rfl (by simp) rfl (by simp) ⟨w.heap.size, 0, none⟩ 1 1 (wordE.flat [(7777777 : Int)]) rfl rfl (SRd.news (srd_lit wordE 43 w [(7777777 : Int)])) (wordE.flat_one _) (by omega) (by unfold maxLen; omega) (by omega) ?_; intro v' w1 hown hg1; obtain ⟨g1, c1, rfl, hge1, hlt1⟩ := World.ownsRow.form hown (by omega))
  have HG1 : Hid (w.grownBy w1 none) := gb_trans (World.grownBy_alloc w _ none) hg1 (by simp)
  have HR1 : Hid (Rw1 w1 g1 c1) := Rw1.of hown
  have HGe : Hid (w.heap.size ≤ g1) := Nat.le_trans (World.grownBy_alloc w _ none).size hge1
  have hcm1 : 1 ≤ c1 ∧ (c1 : Int) ≤ 9223372036854775807 := by
    rcases hown.2 with ⟨h', _⟩ | ⟨g', cap', cur, h', _, _, h4, h5, _⟩
    · simp at h'
    · simp only [Value.slice.injEq, Option.some.injEq, Addr.mk.injEq, and_true, true_and] at h'
      obtain ⟨rfl, rfl⟩ := h'
      unfold maxLen at h5
      omega
  obtain ⟨hc1, hcm'⟩ := hcm1
  clear hown hg1 hge1 hlt1
  go_loopw [3] (fun i wr => ∃ k : Nat, k ≤ 1 ∧ i = .int .i64 k ∧ w.grownBy wr none ∧ Rw1 wr g1 c1) (fun i _ => 1 - (intOf i).toNat)
  case atStart => exact ⟨0, Nat.zero_le _, rfl, HG1.out, HR1.out⟩
  case round =>
    obtain ⟨k, hk, rfl, hgr, hrow⟩ := hrel
    have HGR : Hid (w.grownBy wr none) := hgr
    have HROW : Hid (Rw1 wr g1 c1) := hrow
    clear hgr hrow HG1 HR1
    by_cases hlt : k < 1
    · obtain ⟨v0, c0, f0⟩ := HROW.out.cells k (by omega)
      have hi : (k : Int) < 1 := by omega
      go_wp2
      go_roundw
      case rel => exact ⟨k + 1, by omega, by go_num, gb_trans HGR.out (gb_set (g := g1) rfl) (fun j hj => .inl (by simp at hj; have := HGe.out; omega)), HROW.out.set _ _⟩
      case measure => simp [intOf]; omega
    · clear HROW
      go_wp2
      refine wp_loop_rounds 1 ?_
      rw [rounds_succ]
      go_wp2
      go_end0
      exact ⟨rfl, HGR.out⟩
/-- Each row lies where it lay, as long as it was. -/
def SameRows (w w' : World) : Prop := ∀ (b : Nat) (cur : Array Value) (t : TypeId), w.heap[b]? = some (.cells cur t (0, 0)) → ∃ cur', w'.heap[b]? = some (.cells cur' t (0, 0)) ∧ cur'.size = cur.size
theorem SameRows.trans {w w1 w2 : World} (h : SameRows w w1) (h' : SameRows w1 w2) : SameRows w w2 := fun b cur t hb => by
  obtain ⟨c1, h1, e1⟩ := h b cur t hb
  obtain ⟨c2, h2, e2⟩ := h' b c1 t h1
  exact ⟨c2, h2, e2.trans e1⟩
theorem SameRows.grown {w w' : World} (h : w.grownBy w' none) : SameRows w w' := fun b cur t hb => ⟨cur, (h.block b (Array.getElem?_eq_some_iff.1 hb).1 (by simp)).trans hb, rfl⟩
theorem SameRows.one {w w' : World} {g cap : Nat} (hg : w.grownBy w' (some g)) (h : Rw1 w g cap) (h' : Rw1 w' g cap) : SameRows w w' := fun b cur t hb => by
  by_cases hbg : b = g
  · subst hbg
    obtain ⟨c1, h1, e1⟩ := h
    obtain ⟨c2, h2, e2⟩ := h'
    rw [h1] at hb
    simp only [Option.some.injEq, Obj.cells.injEq, and_true] at hb
    obtain ⟨rfl, rfl⟩ := hb
    exact ⟨c2, h2, by rw [e1, e2]⟩
  · exact ⟨cur, (hg.block b (Array.getElem?_eq_some_iff.1 hb).1 (fun e => hbg (Option.some.inj e))).trans hb, rfl⟩
theorem SameRows.rw1 {w w' : World} (h : SameRows w w') {g cap : Nat} (hr : Rw1 w g cap) : Rw1 w' g cap := by
  obtain ⟨cur, h1, h2⟩ := hr
  obtain ⟨c2, h3, e3⟩ := h g cur 43 h1
  exact ⟨c2, h3, e3.trans h2⟩
/-- A slice of words whose block may be written over; it lies from base on, ahead of hi. -/
def LooseW (w : World) (base hi : Nat) (a : Option Addr) (n c : Nat) : Prop := (a = none ∧ n = 0 ∧ c = 0) ∨ ∃ g, a = some ⟨g, 0, none⟩ ∧ Rw1 w g c ∧ n ≤ c ∧ c ≤ maxLen ∧ base ≤ g ∧ g < hi
theorem LooseW.same {w w' : World} {base hi : Nat} {a : Option Addr} {n c : Nat} (h : LooseW w base hi a n c) (hs : SameRows w w') : LooseW w' base hi a n c := by
  rcases h with h | ⟨g, h1, h2, h3⟩
  · exact .inl h
  · exact .inr ⟨g, h1, hs.rw1 h2, h3⟩
theorem LooseW.of {w : World} {base n c : Nat} {a : Option Addr} {l : List Int} (h : SOwn wordE 43 w base (.slice a n c) n l) : LooseW w base w.heap.size a n c := by
  have hb := SOwn.block h
  rcases h.2 with ⟨h', h0⟩ | ⟨g, cap, cur, h', h1, h2, h3, h4, h5, h6⟩
  · simp only [Value.slice.injEq] at h'
    exact .inl h'
  · simp only [Value.slice.injEq] at h'
    obtain ⟨rfl, _, rfl⟩ := h'
    exact .inr ⟨g, rfl, ⟨cur, h2, h5⟩, h3, h4, hb g rfl⟩
theorem wspoil (a : Option Addr) (base hi n c : Nat) (w : World) (ho : LooseW w base hi a n c) (hn : n ≤ 35184372088000) :
    Calls Tryz.prog 53 #[.slice a n c] w fun r w' => r = .returned (.tuple #[]) ∧ w.grownBy w' (Value.slice a n c).ownBlock ∧ SameRows w w' := by
  rcases ho with ⟨rfl, rfl, rfl⟩ | ⟨g, rfl, hr, hnc, hcm, _⟩
  · refine (wspoil_nil w).mono ?_
    rintro r w' ⟨rfl, hg⟩
    exact ⟨rfl, hg, SameRows.grown hg⟩
  · by_cases hc : n + 1 ≤ c
    · refine (wspoil_fits g n c w hr hcm hc hn).mono ?_
      rintro r w' ⟨rfl, hg, h'⟩
      exact ⟨rfl, hg, SameRows.one hg hr h'⟩
    · obtain rfl : c = n := by omega
      refine (wspoil_grow g c w hr hcm hn).mono ?_
      rintro r w' ⟨rfl, hg, h'⟩
      exact ⟨rfl, hg, SameRows.one hg hr h'⟩
end Go.Proofs.YtaljjemickonaaaGreat

/- Rings: the document's Find, State and Fnv. -/
namespace Go.Proofs.YtaljjemickonaaaGreat
open Go.RowKit
set_option linter.unusedVariables false
set_option maxRecDepth 20000

theorem posI_at {ms : List Mem} {id : Int} (hr : RiseM ms) {k : Nat} (hk : k ≤ ms.length) (h1 : ∀ (j : Nat) (m : Mem), j < k → ms[j]? = some m → m.1 < id) (h2 : ∀ m, ms[k]? = some m → ¬ m.1 < id) : posI ms id = k := by
  unfold posI
  refine countP_place _ ms k hk (fun i a ha => ?_)
  simp only [decide_eq_true_eq]
  constructor
  · intro h
    apply Classical.byContradiction
    intro hn
    rcases Nat.lt_or_ge k i with hki | hki
    · obtain ⟨m, hm⟩ : ∃ m, ms[k]? = some m := ⟨_, List.getElem?_eq_getElem (by have := (List.getElem?_eq_some_iff.1 ha).1; omega)⟩
      have := hr.lt hki hm ha
      have := h2 m hm
      omega
    · obtain rfl : i = k := by omega
      exact h2 a ha h
  · exact fun h => h1 i a h ha
set_option maxHeartbeats 8000000 in
theorem r_find (E : Int) (ms : List Mem) (raw : List MRow) (a : Option Addr) (L c : Nat) (id : Int) (w : World) (hx : MsRd w a ms raw) (hL : ms.length = L) (hz : L ≤ 3518437208800) (hs : RiseM ms) :
    Calls Tryz.prog 46 #[.agg #[.int .u64 E, .slice a L c], .int .i64 id] w fun e w' => e = .returned (.tuple #[.int .i64 ((posI ms id : Nat) : Int), .bool (hasI ms id)]) ∧ w.grownBy w' none := by
  have HX : Hid (MsRd w a ms raw) := hx
  have HL : Hid (ms.length = L) := hL
  have HP : Hid (∀ k : Nat, k ≤ L → (∀ (j : Nat) (m : Mem), j < k → ms[j]? = some m → m.1 < id) → (∀ m, ms[k]? = some m → ¬ m.1 < id) → posI ms id = k ∧ hasI ms id = decide ((ms[k]?).map (·.1) = some id)) := fun k hk h1 h2 => by
    have := posI_at hs (by omega) h1 h2
    exact ⟨this, by unfold hasI; rw [this]⟩
  generalize posI ms id = P at HP ⊢
  generalize hasI ms id = F at HP ⊢
  have HG : Hid (w.grownBy (w.alloc (.cells #[.int .u64 E, .slice a L c] 25)) none) := World.grownBy_alloc w _ none
  have K1 : Hid ((w.alloc (.cells #[.int .u64 E, .slice a L c] 25)).cell? ⟨w.heap.size, 1, none⟩ = some (.slice a L c)) := (boxed_cells w E (.slice a L c)).2
  obtain ⟨B, eB⟩ : ∃ B, w.heap.size = B := ⟨_, rfl⟩
  rw [eB] at K1
  have EB : Hid (w.heap.size = B) := eB
  clear hx hL eB hs
  go_enter Tryz.func46, Tryz.ntmps46
  go_wp2
  try rw [EB.out]
  generalize w.alloc (.cells #[.int .u64 E, .slice a L c] 25) = W at HG K1 ⊢
  go_loopw [6] (fun t6 wr => ∃ (k : Nat), k ≤ L ∧ t6 = .int .i64 k ∧ (∀ (j : Nat) (m : Mem), j < k → ms[j]? = some m → m.1 < id) ∧ W.grownBy wr none) (fun t6 _ => L - (intOf t6).toNat)
  case atStart => exact ⟨0, Nat.zero_le _, rfl, fun j m h => by omega, World.grownBy.refl _ _⟩
  case round =>
    obtain ⟨k, hk, rfl, hall, hw⟩ := hrel
    have HA : Hid (∀ (j : Nat) (m : Mem), j < k → ms[j]? = some m → m.1 < id) := hall
    have HW : Hid (W.grownBy wr none) := hw
    clear hall hw
    have kb := HW.out.cell K1.out (by simp)
    by_cases hlt : k < L
    · have hki : (k : Int) < (L : Int) := by omega
      have hl := HL.out
      have hX := HX.out.grown (HG.out.trans HW.out)
      obtain ⟨⟨i1, s1, t1⟩, ex⟩ : ∃ x, ms[k]? = some x := ⟨_, List.getElem?_eq_getElem (by omega)⟩
      obtain ⟨ba, off, ta, tc, rfl, a0, a1, a2, rt, _⟩ := hX.cells ex
      simp only at a0 a1 a2 rt
      have EX : Hid (ms[k]? = some (i1, s1, t1)) := ex
      clear ex hX rt hl
      by_cases hid : i1 < id
      · have hd : decide (i1 < id) = true := by simp [hid]
        have HLT : Hid (i1 < id) := hid
        clear hid
        go_wp2
        go_roundw
        case rel =>
          refine ⟨k + 1, by omega, by go_num, fun j m hj hm => ?_, HW.out⟩
          by_cases e : j < k
          · exact HA.out j m e hm
          · obtain rfl : j = k := by omega
            rw [EX.out] at hm
            cases hm
            exact HLT.out
        case measure => simp [intOf]; omega
      · have hd : decide (i1 < id) = false := by simp; omega
        obtain ⟨e1, e2⟩ := HP.out k (by omega) HA.out (fun m hm => by rw [EX.out] at hm; cases hm; simp only; omega)
        have HE1 : Hid (P = k) := e1
        have HE2 : Hid (F = (i1 == id)) := by
          show _ = _
          rw [e2, EX.out]
          by_cases h : i1 = id
          · simp [h]
          · simp [h]
        clear hid e1 e2
        go_wp2_with fail
        go_quiet (fail)
        go_wp2
        go_ret2
        exact ⟨by rw [HE1.out, HE2.out]; rfl, (HG.out.trans HW.out).trans (gb_drewN _ _)⟩
    · obtain rfl : k = L := by omega
      obtain ⟨e1, e2⟩ := HP.out k (by omega) HA.out (fun m hm => by have := (List.getElem?_eq_some_iff.1 hm).1; have := HL.out; omega)
      have HE1 : Hid (P = k) := e1
      have HE2 : Hid (F = false) := by
        show _ = _
        rw [e2, List.getElem?_eq_none (by have := HL.out; omega)]
        rfl
      clear e1 e2
      go_wp2_with fail
      go_quiet (fail)
      go_wp2
      go_ret2
      exact ⟨by rw [HE1.out, HE2.out]; rfl, (HG.out.trans HW.out).trans (gb_drewN _ _)⟩
set_option maxHeartbeats 4000000 in
theorem r_state (E : Int) (ms : List Mem) (raw : List MRow) (a : Option Addr) (L c : Nat) (id : Int) (w : World) (hx : MsRd w a ms raw) (hL : ms.length = L) (hz : L ≤ 3518437208800) (hz2 : ∀ s ∈ ms, s.2.2.length ≤ 35184372088832) :
    Calls Tryz.prog 18 #[.agg #[.int .u64 E, .slice a L c], .int .i64 id] w fun e w' => e = .returned (.int .i64 (stOf ms id)) ∧ w.grownBy w' none := by
  have HX : Hid (MsRd w a ms raw) := hx
  have gA := World.grownBy_alloc w (.cells #[.int .u64 E, .slice a L c] 25) none
  have HG : Hid (w.grownBy (w.alloc (.cells #[.int .u64 E, .slice a L c] 25)) none) := gA
  have HBr : Hid ((w.alloc (.cells #[.int .u64 E, .slice a L c] 25)).heap[w.heap.size]? = some (.cells #[.int .u64 E, .slice a L c] 25 (0, 0))) := heap_alloc_new w _
  have CK := r_check E ms raw a L c (w.alloc (.cells #[.int .u64 E, .slice a L c] 25)) (hx.grown gA) hL hz hz2
  obtain ⟨B, eB⟩ : ∃ B, w.heap.size = B := ⟨_, rfl⟩
  rw [eB] at HBr
  have EB : Hid (w.heap.size = B) := eB
  obtain ⟨x0, x1⟩ := cell2 HBr.out
  cases ho : ringOk ms with
  | false =>
    have hck : chkC ms = 130 := by unfold chkC; rw [ho]; rfl
    have hst : stOf ms id = 0 := by unfold stOf; rw [ho]; rfl
    rw [hck] at CK
    rw [hst]
    clear hx hL hz hz2 gA eB ho hck hst
    go_enter Tryz.func18, Tryz.ntmps18
    go_wp2_with fail
    refine CK.mono ?_
    rintro e u1 ⟨rfl, g9⟩
    have HG1 : Hid (w.grownBy u1 none) := HG.out.trans g9
    clear g9
    go_wp2
    go_ret
    exact ⟨rfl, HG1.out⟩
  | true =>
    have hck : chkC ms = 0 := by unfold chkC; rw [ho]; rfl
    rw [hck] at CK
    have FD : Hid (∀ u, w.grownBy u none → Calls Tryz.prog 46 #[.agg #[.int .u64 E, .slice a L c], .int .i64 id] u fun e w' => e = .returned (.tuple #[.int .i64 ((posI ms id : Nat) : Int), .bool (hasI ms id)]) ∧ u.grownBy w' none) := fun u hg => r_find E ms raw a L c id u (hx.grown hg) hL hz (ringOk_rise ho)
    have HST : Hid (hasI ms id = false → stOf ms id = 0) := fun e => by unfold stOf; rw [e]; simp
    have HGET : Hid (hasI ms id = true → ∃ m, ms[posI ms id]? = some m ∧ stOf ms id = m.2.1 ∧ posI ms id < L) := fun e => by
      obtain ⟨m, h1, h2⟩ := hasI_get e
      refine ⟨m, h1, ?_, by have := (List.getElem?_eq_some_iff.1 h1).1; omega⟩
      unfold stOf
      rw [if_pos ⟨ho, e⟩]
      unfold stAt
      rw [h1]; rfl
    clear hx hL hz2 gA eB ho hck
    generalize stOf ms id = Q at *
    go_enter Tryz.func18, Tryz.ntmps18
    go_wp2_with fail
    try rw [EB.out]
    generalize w.alloc (.cells #[.int .u64 E, .slice a L c] 25) = W at *
    refine CK.mono ?_
    clear CK x0 x1
    rintro e u1 ⟨rfl, g9⟩
    have HG1 : Hid (w.grownBy u1 none) := HG.out.trans g9
    have HB1 : Hid (u1.heap[B]? = some (.cells #[.int .u64 E, .slice a L c] 25 (0, 0))) := by show _ = _; rw [g9.block B (Array.getElem?_eq_some_iff.1 HBr.out).1 (by simp)]; exact HBr.out
    obtain ⟨x0, x1⟩ := cell2 HB1.out
    have C2 := FD.out u1 HG1.out
    clear g9 HBr HG
    go_wp2_with fail
    clear x0 x1
    refine C2.mono ?_
    clear C2
    rintro e u2 ⟨rfl, g9⟩
    have HG2 : Hid (w.grownBy u2 none) := HG1.out.trans g9
    have HB2 : Hid (u2.heap[B]? = some (.cells #[.int .u64 E, .slice a L c] 25 (0, 0))) := by show _ = _; rw [g9.block B (Array.getElem?_eq_some_iff.1 HB1.out).1 (by simp)]; exact HB1.out
    obtain ⟨x0, x1⟩ := cell2 HB2.out
    clear g9 HB1 HG1
    cases hh : hasI ms id with
    | false =>
      have HQ : Hid (Q = 0) := HST.out hh
      clear hh
      go_wp2
      go_ret
      exact ⟨by rw [HQ.out]; rfl, HG2.out⟩
    | true =>
      obtain ⟨⟨i1, s1, t1⟩, hm, hst, hlt⟩ := HGET.out hh
      have HQ : Hid (Q = s1) := hst
      obtain ⟨ba, off, ta, tc, rfl, a0, a1, a2, rt, _⟩ := (HX.out.grown HG2.out).cells hm
      simp only at a0 a1 a2 rt
      generalize posI ms id = P at *
      have hp0 : (0 : Int) ≤ (P : Int) := by omega
      have hp1 : (P : Int) < (L : Int) := by omega
      clear hh hm hst rt
      go_wp2
      go_ret
      exact ⟨by rw [HQ.out]; rfl, HG2.out⟩
end Go.Proofs.YtaljjemickonaaaGreat

